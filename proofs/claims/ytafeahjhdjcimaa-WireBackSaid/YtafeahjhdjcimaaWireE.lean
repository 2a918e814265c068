/-
  The program's Ints.
-/
import Derived.Test.YtafeahjhdjcimaaWireD
import Derived.Deep.LoopGhost
namespace Go.Proofs.Ytafeahjhdjcimaa
open Go.RowKit Go.Joins

theorem infoInt : (Try.prog.info? 3).map (fun i => (i.zero, i.size, i.bytes)) = some (some (.int .i64 0), 1, 8) := by kernel_rfl

theorem Kept.grown {p : Value} {a b c : World} {row : Option Nat} (h : Kept p a b) (hg : b.grownBy c row) (hr : ∀ k, row = some k → a.heap.size ≤ k) : Kept p a c :=
  ⟨hg.os.trans h.os, hg.tape.trans h.tape, hg.output.trans h.output, Nat.le_trans h.size hg.size, fun k hk hn => by
    rw [hg.block k (Nat.lt_of_lt_of_le hk h.size) (fun e => by have := hr k e.symm; omega)]
    exact h.block k hk hn⟩
theorem PR.grown {p : Value} {l : List UInt8} {f : Int} {b c : World} {row : Option Nat} {B : Nat} (h : PR p l f b) (hg : b.grownBy c row) (hr : ∀ k, row = some k → B ≤ k) (hp : ∀ k, blk p = some k → k < B) : PR p l f c := by
  rcases h.out with h | ⟨k, s, a, rfl, hl, hs, hr'⟩
  · exact ⟨.inl h⟩
  · refine ⟨.inr ⟨k, s, a, rfl, hl, hs, hr'.le, ?_⟩⟩
    rw [hg.block k (lt_of_block hr'.at_) (fun e => by have := hr k e.symm; have := hp k rfl; omega)]
    exact hr'.at_
theorem XR.grown {p : Value} {l : List UInt8} {f : Int} {b c : World} {row : Option Nat} {B : Nat} (h : XR p l f b) (hg : b.grownBy c row) (hr : ∀ k, row = some k → B ≤ k) (hp : ∀ k, blk p = some k → k < B) : XR p l f c := by
  obtain ⟨k, rfl, hl, hr'⟩ := h.out
  refine ⟨k, rfl, hl, ?_⟩
  rw [hg.block k (lt_of_block hr') (fun e => by have := hr k e.symm; have := hp k rfl; omega)]
  exact hr'
theorem PR.blk_lt {p : Value} {l : List UInt8} {f : Int} {w : World} (h : PR p l f w) : ∀ k, blk p = some k → k < w.heap.size := by
  rcases h.out with ⟨rfl, _, _⟩ | ⟨b, s, a, rfl, _, _, hr⟩
  · intro k e; cases e
  · intro k e; cases e; exact lt_of_block hr.at_
theorem XR.blk_lt {p : Value} {l : List UInt8} {f : Int} {w : World} (h : XR p l f w) : ∀ k, blk p = some k → k < w.heap.size := by
  obtain ⟨b, rfl, _, hr⟩ := h.out
  intro k e; cases e; exact lt_of_block hr
theorem PR.alloc {p : Value} {l : List UInt8} {f : Int} {w : World} (h : PR p l f w) (o : Obj) : PR p l f (w.alloc o) := h.kept (p := .pointer none) (Kept.of (below_alloc1 _ _)) (fun _ e => by cases e)
theorem XR.alloc {p : Value} {l : List UInt8} {f : Int} {w : World} (h : XR p l f w) (o : Obj) : XR p l f (w.alloc o) := h.kept (p := .pointer none) (Kept.of (below_alloc1 _ _)) (fun _ e => by cases e)
/-- What a call has made stays its own while a block below its base is written. -/
theorem owns_kept {w w' : World} {B : Nat} {e : TypeId} {sz : Nat} {v : Value} {n : Nat} {xs : List Value} {p : Value} (h : w.ownsRow B e sz v n xs) (hk : Kept p w w') (hp : ∀ k, blk p = some k → k < B) : w'.ownsRow B e sz v n xs :=
  h.kept (row := blk p) ⟨hk.os, hk.tape, hk.output, hk.size, fun k h1 h2 => hk.block k h1 (fun e => h2 e.symm)⟩ (by
    cases hv : v.ownBlock with
    | none => exact .inl rfl
    | some g => exact .inr (fun e => by have := (h.lt g hv).1; have := hp g e.symm; omega))

/-- So many ints ahead of others. -/
def pre (xs : List Int) (r : Option (List Int) × Rd) : Option (List Int) × Rd := (r.1.map (xs ++ ·), r.2)
theorem pre_nil (r : Option (List Int) × Rd) : pre [] r = r := by obtain ⟨_ | _, _⟩ := r <;> rfl
theorem pre_step {xs : List Int} {n : Nat} {l : List UInt8} (h : headE l = 0) : pre xs (intsT (n + 1) l) = pre (xs ++ [zag (headU l)]) (intsT n (headL l)) := by
  rw [intsT, if_pos h]
  unfold pre
  cases (intsT n (headL l)).1 <;> simp
theorem pre_bad {xs : List Int} {n : Nat} {l : List UInt8} (h : headE l ≠ 0) : pre xs (intsT (n + 1) l) = (none, (l, (headE l : Int))) := by
  rw [intsT, if_neg h]; rfl

/-- A round of Ints: k ints are read. -/
structure IntsAt (p : Value) (l0 : List UInt8) (n : Int) (B : Nat) (w0 : World) (k : Nat) (xs : List Int) (l : List UInt8) (v : Value) (wr : World) : Prop where
  len : xs.length = k
  le : (k : Int) ≤ n
  own : wr.ownsRow B 3 1 v k (xs.map (Value.int .i64))
  rd : PR p l 0 wr
  kept : Kept p w0 wr
  size : B ≤ wr.heap.size
  is : intsT n.toNat l0 = pre xs (intsT (n.toNat - k) l)
  room : k + l.length ≤ 1000000

theorem IntsAt.step {p : Value} {l0 : List UInt8} {n : Int} {B : Nat} {w0 : World} {k : Nat} {xs : List Int} {l : List UInt8} {v v' : Value} {wr w2 w3 : World} {o : Obj} (h : IntsAt p l0 n B w0 k xs l v wr) (hlt : (k : Int) < n) (hE : headE l = 0) (hb : w0.heap.size ≤ B)
    (hp : ∀ j, blk p = some j → j < B) (h2 : RdTo p (numS l 0) wr w2) (hown : w3.ownsRow B 3 1 v' (k + 1) (xs.map (Value.int .i64) ++ [.int .i64 (zag (headU l))])) (hg : (w2.alloc o).grownBy w3 v.ownBlock) :
    IntsAt p l0 n B w0 (k + 1) (xs ++ [zag (headU l)]) (headL l) v' w3 := by
  have hr : ∀ j, v.ownBlock = some j → B ≤ j := fun j e => (h.own.lt j e).1
  have e : numS l 0 = (headL l, 0) := by unfold numS; rw [if_pos rfl, hE]; rfl
  rw [e] at h2
  have hl := headL_lt hE
  have hm := h.room
  refine ⟨by simp [h.len], by omega, by simpa using hown, (h2.1.alloc o).grown hg hr hp, ((h.kept.trans h2.2).alloc o).grown hg (fun j e => by have := hr j e; omega), ?_, ?_, by omega⟩
  · have := h.size; have := h2.2.size; have := hg.size; simp at this; omega
  · rw [h.is, show n.toNat - k = (n.toNat - (k + 1)) + 1 from by omega, pre_step hE]
theorem IntsAt.bad {p : Value} {l0 : List UInt8} {n : Int} {B : Nat} {w0 : World} {k : Nat} {xs : List Int} {l : List UInt8} {v : Value} {wr w2 w3 : World} {o : Obj} (h : IntsAt p l0 n B w0 k xs l v wr) (hE : headE l ≠ 0) (hb : w0.heap.size ≤ B)
    (hp : ∀ j, blk p = some j → j < B) (h2 : RdTo p (numS l 0) wr w2) (hg : (w2.alloc o).grownBy w3 v.ownBlock) : PR p l (headE l) w3 ∧ Kept p w0 w3 := by
  have hr : ∀ j, v.ownBlock = some j → B ≤ j := fun j e => (h.own.lt j e).1
  have e : numS l 0 = (l, (headE l : Int)) := by unfold numS; rw [if_pos rfl, (headE_bad hE).2.1]
  rw [e] at h2
  exact ⟨(h2.1.alloc o).grown hg hr hp, ((h.kept.trans h2.2).alloc o).grown hg (fun j e => by have := hr j e; omega)⟩
theorem IntsAt.got {p : Value} {l0 : List UInt8} {n : Int} {B : Nat} {w0 : World} {k : Nat} {xs : List Int} {l : List UInt8} {v : Value} {wr w2 : World} (h : IntsAt p l0 n B w0 k xs l v wr) (hp : ∀ j, blk p = some j → j < B) {x : Rd} (h2 : RdTo p x wr w2) (o : Obj) :
    (w2.alloc o).ownsRow B 3 1 v k (xs.map (Value.int .i64)) ∧ B ≤ (w2.alloc o).heap.size := by
  have hB : B ≤ w2.heap.size := Nat.le_trans h.size h2.2.size
  exact ⟨(owns_kept h.own h2.2 hp).alloc o, by simp; omega⟩

/-- A list of ints is answered, in blocks that the call has made; the reader is as x says. -/
def IntsTo (p : Value) (xs : List Int) (x : Rd) (w : World) (e : Ending) (w' : World) : Prop := ∃ v, e = .returned v ∧ w'.ownsRow w.heap.size 3 1 v xs.length (xs.map (Value.int .i64)) ∧ RdTo p x w w'

set_option maxHeartbeats 1600000 in
theorem ints_any (p : Value) (m : Int) (l : List UInt8) (f : Int) (w : World) (h : PR p l f w) (hn0 : -9223372036854775808 ≤ m) (hn1 : m ≤ 9223372036854775807) :
    Calls Try.prog 23 #[p, .int .i64 m] w (IntsTo p (intsV m l f) (intsS m l f) w) := by
  have HC := keep (upto_any p m l f w h hn0 hn1)
  have hB := uptoV_bd m l f hn1
  have hV : intsV m l f = if (uptoS m l f).2 = 0 then (intsT (uptoV m l f).toNat (uptoS m l f).1).1.getD [] else [] := rfl
  have hS : intsS m l f = if (uptoS m l f).2 = 0 then (intsT (uptoV m l f).toNat (uptoS m l f).1).2 else uptoS m l f := rfl
  have hz : (uptoS m l f).2 ≠ 0 → uptoV m l f = 0 := by
    unfold uptoS uptoV
    intro h
    rw [if_neg]
    intro c
    apply h
    rw [if_pos c.1, if_pos c.2.1, if_pos c.2.2]
  have hP := h.blk_lt
  generalize intsV m l f = V at *
  generalize intsS m l f = S at *
  generalize uptoV m l f = n at *
  generalize uptoS m l f = x at *
  obtain ⟨l1, f1⟩ := x
  simp only at hV hS hz
  have HB := keep hB
  have HZ := keep hz
  have HV := keep hV
  have HS := keep hS
  have HP := keep hP
  clear h hn0 hn1 hB hV hS hz hP
  by_cases hf : f1 = 0
  · subst hf
    go_enter Try.func23, Try.ntmps23
    go_wp2_with fail
    refine HC.out.mono ?_
    rintro e w1 ⟨rfl, hR⟩
    have HR := keep hR
    clear hR HC
    obtain ⟨i0, hi, hz0, hz1, hz2⟩ := info_parts infoInt
    have HI := keep hi
    have HZ0 := keep hz0
    have HZ1 := keep hz1
    have HZ2 := keep hz2
    have HH : Keep (w.heap.size ≤ w1.heap.size) := ⟨HR.out.2.size⟩
    have HPP : Keep (∀ j, blk p = some j → j < w1.heap.size) := ⟨fun j e => by have := HP.out j e; have := HH.out; omega⟩
    have HN := HB.out.1
    clear hi hz0 hz1 hz2
    go_wp2_with fail
    go_loopw [5, 9] (fun v i wr => ∃ (k : Nat) (xs : List Int) (l' : List UInt8), i = .int .i64 k ∧ Keep (IntsAt p l1 n w1.heap.size w1 k xs l' v wr)) (fun _ i _ => (n - intOf i).toNat)
    case atStart => exact ⟨0, [], l1, rfl, ⟨⟨rfl, HN, World.ownsRow_nil _ _ _ _, HR.out.1, Kept.refl _ _, Nat.le_refl _, by rw [pre_nil]; rfl, by have h : l1.length ≤ 1000000 := HR.out.1.le; omega⟩⟩⟩
    case round =>
      obtain ⟨k, xs, l', rfl, H⟩ := hrel
      have hkm : (k : Int) ≤ 1000000 := by have := H.out.room; omega
      by_cases hlt : (k : Int) < n
      · have HC1 := keep (int_any p l' 0 wr H.out.rd)
        have e1 : numV l' 0 = headU l' := by unfold numV; rw [if_pos rfl]
        rw [e1] at HC1
        clear e1
        obtain ⟨z, hz⟩ : ∃ z, z = zag (headU l') := ⟨_, rfl⟩
        rw [← hz] at HC1
        have HZZ := keep hz
        clear hz
        go_wp2_with fail
        refine HC1.out.mono ?_
        rintro e w2 ⟨rfl, hR2⟩
        have HR2 := keep hR2
        have HG := keep (H.out.got HPP.out hR2 (.cells #[.int .i64 z] 3))
        have HX := H.out.len
        clear hR2
        go_wp2_with (at_builtin; refine wpList_append_own _ rfl _ _ 31 rfl w1.heap.size 3 i0 (.int .i64 0) 1 8 Try.underlying31 HI.out HZ0.out HZ1.out HZ2.out rfl (by decide) _ k _ rfl HG.out.1 ⟨w2.heap.size, 0, none⟩ 1 1 [.int .i64 z] rfl rfl ?c1 ?c2 ?c3 ?c4 ?c5 ?_)
        case c1 =>
          intro j u hj
          match j, hj with
          | 0, hj => simp at hj; subst hj; simp [Addr.add]
        case c2 => intro u hu; simp at hu; subst hu; rfl
        case c3 => unfold maxLen; omega
        case c4 => omega
        case c5 => exact HG.out.2
        intro v' w3 hown' hgrow _
        by_cases hE : headE l' = 0
        · rw [HZZ.out] at hown'
          have HN3 := keep (H.out.step hlt hE (Nat.le_refl _) HPP.out HR2.out hown' hgrow)
          have HE3 := keep (err_any p _ _ w3 HN3.out.rd)
          clear hown' hgrow hE
          go_wp2_with fail
          refine HE3.out.mono ?_
          rintro e w' ⟨rfl, rfl⟩
          go_wp2_with fail
          go_roundw
          case rel => exact ⟨k + 1, _, _, by go_num, HN3⟩
          case measure => simp [intOf]; omega
        · have HN3 := keep (H.out.bad hE (Nat.le_refl _) HPP.out HR2.out hgrow)
          have HE3 := keep (err_any p _ _ w3 HN3.out.1)
          have hE' : ((headE l' : Int) != 0) = true := by simp; omega
          have HVV : Keep (V = [] ∧ S = (l', (headE l' : Int))) := ⟨by
            have e := H.out.is
            rw [show n.toNat - k = (n.toNat - k - 1) + 1 from by omega, pre_bad hE] at e
            rw [HV.out, HS.out, if_pos trivial, if_pos trivial, e]
            exact ⟨rfl, rfl⟩⟩
          clear hown' hgrow hE
          generalize (headE l' : Int) = ee at *
          go_wp2_with fail
          refine HE3.out.mono ?_
          rintro e w' ⟨rfl, rfl⟩
          go_wp2_with fail
          go_ret
          exact ⟨_, rfl, by rw [HVV.out.1]; exact World.ownsRow_nil _ _ _ _, by rw [HVV.out.2]; exact HN3.out.1, HR.out.2.trans HN3.out.2⟩
      · have HVV : Keep (V = xs ∧ S = (l', 0)) := ⟨by
          have e := H.out.is
          have := H.out.le
          rw [show n.toNat - k = 0 from by omega] at e
          rw [HV.out, HS.out, if_pos trivial, if_pos trivial, e]
          exact ⟨by simp [pre, intsT], rfl⟩⟩
        go_wp2_with fail
        go_ret
        refine ⟨_, rfl, ?_, ?_, HR.out.2.trans H.out.kept⟩
        · rw [HVV.out.1, H.out.len]; exact Go.Joins.ownsRow_le H.out.own HH.out
        · rw [HVV.out.2]; exact H.out.rd
  · have HVV : Keep (V = [] ∧ S = (l1, f1)) := ⟨by rw [HV.out, HS.out, if_neg hf, if_neg hf]; exact ⟨rfl, rfl⟩⟩
    obtain rfl := HZ.out hf
    clear hf
    go_enter Try.func23, Try.ntmps23
    go_wp2_with fail
    refine HC.out.mono ?_
    rintro e w1 ⟨rfl, hR⟩
    have HR := keep hR
    clear hR HC
    go_wp2_with fail
    refine wp_loop_rounds 1 ?_
    rw [rounds_succ]
    go_wp2_with fail
    go_ret
    exact ⟨_, rfl, by rw [HVV.out.1]; exact World.ownsRow_nil _ _ _ _, by rw [HVV.out.2]; exact HR.out.1, HR.out.2⟩
end Go.Proofs.Ytafeahjhdjcimaa
