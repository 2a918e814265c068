/-
  The document's reader: Bool, Ints; Same.
-/
import Derived.Test.YtafeahjhdjcimaaWireY
namespace Go.Proofs.Ytafeahjhdjcimaa
open Go.RowKit Go.Joins

theorem rawV_one (l : List UInt8) : rawV 1 l 0 = l.take 1 ∧ rawS 1 l 0 = match l with | [] => ([], 2) | _ :: r => (r, 0) := by
  unfold rawV rawS
  cases l with
  | nil => exact ⟨rfl, rfl⟩
  | cons c r => rw [if_pos ⟨rfl, by omega, by simp; omega⟩, if_pos rfl, if_neg (by omega), if_pos (by simp; omega)]; exact ⟨rfl, rfl⟩

/-- The end of Bool: one byte is read, and compared. -/
theorem one_eq (l : List UInt8) (f : Int) (h : f ≠ 0 ∨ ∀ c r, l = c :: r → c.toNat ≤ 1) : ((str (rawV 1 l f)).toList == [1]) = boolV l f ∧ rawS 1 l f = boolS l f := by
  rw [show ([1] : List UInt8) = (⟨#[1]⟩ : ByteArray).toList by rw [ByteArray.toList_eq]]
  by_cases h0 : f = 0
  · subst h0
    obtain ⟨e1, e2⟩ := rawV_one l
    rw [e1, e2]
    cases l with
    | nil => exact ⟨beq_no (by decide), rfl⟩
    | cons c r =>
      have hc := (h.resolve_left (fun c => c rfl)) c r rfl
      rw [boolV_cons, boolS_cons, if_pos hc]
      refine ⟨?_, rfl⟩
      by_cases h1 : c.toNat = 1
      · rw [show decide (c.toNat = 1) = true by simp [h1]]
        obtain rfl : c = 1 := UInt8.toNat_inj.1 h1
        exact beq_yes rfl
      · rw [show decide (c.toNat = 1) = false by simp [h1]]
        refine beq_no (fun e => h1 ?_)
        have := str_inj (a := [c]) (b := [1]) e
        cases this
        rfl
  · obtain ⟨e1, e2⟩ := rawV_cases 1 l f h0
    rw [e1, e2]
    refine ⟨?_, by unfold boolS; rw [if_neg h0]⟩
    rw [show boolV l f = false by unfold boolV; simp [h0]]
    exact beq_no (by decide)

set_option maxHeartbeats 400000 in
theorem xbool_any (p : Value) (l : List UInt8) (f : Int) (w : World) (h : XR p l f w) :
    Calls Try.prog 38 #[p] w fun e w' => e = .returned (.bool (boolV l f)) ∧ XrTo p (boolS l f) w w' := by
  obtain ⟨b, rfl, hl, hb⟩ := h.out
  obtain ⟨c0, c1, _, _⟩ := (⟨hl, hb⟩ : XAt b l f w).cells
  have HR1 := keep (xraw_any (.pointer (some ⟨b, 0, none⟩)) 1 l f w h)
  by_cases h0 : f = 0
  · subst h0
    cases l with
    | nil =>
      obtain ⟨h1, h2⟩ := one_eq [] 0 (.inr (fun c r e => by cases e))
      rw [h2] at HR1
      have hs0 : (str []).size = 0 := rfl
      have H1 := keep h1
      clear h hl hb h2 h1
      generalize boolV [] 0 = v at *
      generalize boolS [] 0 = x at *
      generalize str (rawV 1 [] 0) = o at *
      generalize str [] = s at *
      go_enter Try.func38, Try.ntmps38
      go_wp2_with fail
      refine HR1.out.mono ?_
      rintro e w1 ⟨rfl, hR⟩
      have HR := keep hR
      clear hR
      go_wp2_with fail
      go_ret
      exact ⟨ret_bool H1.out, HR.out⟩
    | cons c r =>
      have hbt : bt (str (c :: r)) 0 = c.toNat := rfl
      have hgb := get_bt (str (c :: r))
      have hs0 : 0 < (str (c :: r)).size := by rw [str_size]; simp
      have hz : (str (c :: r)).size ≤ 1000000 := by rw [str_size]; exact hl
      by_cases h1 : c.toNat ≤ 1
      · obtain ⟨h3, h2⟩ := one_eq (c :: r) 0 (.inr (fun c' r' e => by cases e; exact h1))
        rw [h2] at HR1
        have hle : bt (str (c :: r)) 0 ≤ 1 := by omega
        have H3 := keep h3
        clear h hl hb h2 h1 hbt h3
        generalize boolV (c :: r) 0 = v at *
        generalize boolS (c :: r) 0 = x at *
        generalize str (rawV 1 (c :: r) 0) = o at *
        generalize str (c :: r) = s at *
        go_enter Try.func38, Try.ntmps38
        go_wp2_with fail
        refine HR1.out.mono ?_
        rintro e w1 ⟨rfl, hR⟩
        have HR := keep hR
        clear hR
        go_wp2_with fail
        go_ret
        exact ⟨ret_bool H3.out, HR.out⟩
      · obtain ⟨h3, h2⟩ := one_eq (c :: r) 3 (.inl (by decide))
        have e1 : boolV (c :: r) 0 = boolV (c :: r) 3 := by rw [boolV_cons]; unfold boolV; simp; omega
        have e2 : boolS (c :: r) 0 = boolS (c :: r) 3 := by rw [boolS_cons, if_neg h1]; rfl
        rw [e1, e2]
        have HF := keep (xfail_any (.pointer (some ⟨b, 0, none⟩)) 3 (c :: r) 0 w h)
        rw [show failS 3 (c :: r) 0 = (c :: r, 3) from rfl] at HF
        have HRW : ∀ w', XR (.pointer (some ⟨b, 0, none⟩)) (c :: r) 3 w' → Calls Try.prog 40 #[.pointer (some ⟨b, 0, none⟩), .int .i64 1] w' fun e w'' => e = .returned (.string (str (rawV 1 (c :: r) 3))) ∧ XrTo (.pointer (some ⟨b, 0, none⟩)) (boolS (c :: r) 3) w' w'' := fun w' hw' => by
          have := xraw_any (.pointer (some ⟨b, 0, none⟩)) 1 (c :: r) 3 w' hw'
          rw [h2] at this
          exact this
        have hgt : 1 < bt (str (c :: r)) 0 := by omega
        have H3 := keep h3
        have HRW := keep HRW
        clear h hl hb h2 h1 hbt h3 HR1 e1 e2
        generalize boolV (c :: r) 3 = v at *
        generalize boolS (c :: r) 3 = x at *
        generalize str (rawV 1 (c :: r) 3) = o at *
        generalize str (c :: r) = s at *
        go_enter Try.func38, Try.ntmps38
        go_wp2_with fail
        refine HF.out.mono ?_
        rintro e w1 ⟨rfl, hR⟩
        have HR := keep hR
        clear hR
        go_wp2_with fail
        refine (HRW.out w1 HR.out.1).mono ?_
        rintro e w2 ⟨rfl, hR⟩
        have HR2 := keep hR
        clear hR
        go_wp2_with fail
        go_ret
        exact ⟨ret_bool H3.out, HR2.out.1, HR.out.2.trans HR2.out.2⟩
  · obtain ⟨h1, h2⟩ := one_eq l f (.inl h0)
    rw [h2] at HR1
    have H1 := keep h1
    have hf : (f == 0) = false := by simpa using h0
    clear h hl hb h2 h1 h0
    generalize boolV l f = v at *
    generalize boolS l f = x at *
    generalize str (rawV 1 l f) = o at *
    generalize str l = s at *
    go_enter Try.func38, Try.ntmps38
    go_wp2_with fail
    refine HR1.out.mono ?_
    rintro e w1 ⟨rfl, hR⟩
    have HR := keep hR
    clear hR
    go_wp2_with fail
    go_ret
    exact ⟨ret_bool H1.out, HR.out⟩

/-! ### Ints -/
/-- A round of the document's Ints, as IntsAt. -/
structure XntsAt (p : Value) (l0 : List UInt8) (n : Int) (B : Nat) (w0 : World) (k : Nat) (xs : List Int) (l : List UInt8) (v : Value) (wr : World) : Prop where
  len : xs.length = k
  le : (k : Int) ≤ n
  own : wr.ownsRow B 3 1 v k (xs.map (Value.int .i64))
  rd : XR p l 0 wr
  kept : Kept p w0 wr
  size : B ≤ wr.heap.size
  is : intsT n.toNat l0 = pre xs (intsT (n.toNat - k) l)
  room : k + l.length ≤ 1000000

theorem XntsAt.step {p : Value} {l0 : List UInt8} {n : Int} {B : Nat} {w0 : World} {k : Nat} {xs : List Int} {l : List UInt8} {v v' : Value} {wr w2 w3 : World} {o : Obj} (h : XntsAt p l0 n B w0 k xs l v wr) (hlt : (k : Int) < n) (hE : headE l = 0) (hb : w0.heap.size ≤ B)
    (hp : ∀ j, blk p = some j → j < B) (h2 : XrTo p (numS l 0) wr w2) (hown : w3.ownsRow B 3 1 v' (k + 1) (xs.map (Value.int .i64) ++ [.int .i64 (zag (headU l))])) (hg : (w2.alloc o).grownBy w3 v.ownBlock) :
    XntsAt p l0 n B w0 (k + 1) (xs ++ [zag (headU l)]) (headL l) v' w3 := by
  have hr : ∀ j, v.ownBlock = some j → B ≤ j := fun j e => (h.own.lt j e).1
  have e : numS l 0 = (headL l, 0) := by unfold numS; rw [if_pos rfl, hE]; rfl
  rw [e] at h2
  have hl := headL_lt hE
  have hm := h.room
  refine ⟨by simp [h.len], by omega, by simpa using hown, (h2.1.alloc o).grown hg hr hp, ((h.kept.trans h2.2).alloc o).grown hg (fun j e => by have := hr j e; omega), ?_, ?_, by omega⟩
  · have := h.size; have := h2.2.size; have := hg.size; simp at this; omega
  · rw [h.is, show n.toNat - k = (n.toNat - (k + 1)) + 1 from by omega, pre_step hE]
theorem XntsAt.bad {p : Value} {l0 : List UInt8} {n : Int} {B : Nat} {w0 : World} {k : Nat} {xs : List Int} {l : List UInt8} {v : Value} {wr w2 w3 : World} {o : Obj} (h : XntsAt p l0 n B w0 k xs l v wr) (hE : headE l ≠ 0) (hb : w0.heap.size ≤ B)
    (hp : ∀ j, blk p = some j → j < B) (h2 : XrTo p (numS l 0) wr w2) (hg : (w2.alloc o).grownBy w3 v.ownBlock) : XR p l (headE l) w3 ∧ Kept p w0 w3 := by
  have hr : ∀ j, v.ownBlock = some j → B ≤ j := fun j e => (h.own.lt j e).1
  have e : numS l 0 = (l, (headE l : Int)) := by unfold numS; rw [if_pos rfl, (headE_bad hE).2.1]
  rw [e] at h2
  exact ⟨(h2.1.alloc o).grown hg hr hp, ((h.kept.trans h2.2).alloc o).grown hg (fun j e => by have := hr j e; omega)⟩
theorem XntsAt.got {p : Value} {l0 : List UInt8} {n : Int} {B : Nat} {w0 : World} {k : Nat} {xs : List Int} {l : List UInt8} {v : Value} {wr w2 : World} (h : XntsAt p l0 n B w0 k xs l v wr) (hp : ∀ j, blk p = some j → j < B) {x : Rd} (h2 : XrTo p x wr w2) (o : Obj) :
    (w2.alloc o).ownsRow B 3 1 v k (xs.map (Value.int .i64)) ∧ B ≤ (w2.alloc o).heap.size := by
  have hB : B ≤ w2.heap.size := Nat.le_trans h.size h2.2.size
  exact ⟨(owns_kept h.own h2.2 hp).alloc o, by simp; omega⟩

/-- A read in Ints has been wrong. -/
structure XBad (p : Value) (S : Rd) (w0 wr : World) : Prop where
  bad : S.2 ≠ 0
  rd : XR p S.1 S.2 wr
  kept : Kept p w0 wr

def XntsTo (p : Value) (xs : List Int) (x : Rd) (w : World) (e : Ending) (w' : World) : Prop := ∃ v, e = .returned v ∧ w'.ownsRow w.heap.size 3 1 v xs.length (xs.map (Value.int .i64)) ∧ XrTo p x w w'

set_option maxHeartbeats 1600000 in
theorem xints_any (p : Value) (m : Int) (l : List UInt8) (f : Int) (w : World) (h : XR p l f w) (hn0 : -9223372036854775808 ≤ m) (hn1 : m ≤ 9223372036854775807) :
    Calls Try.prog 41 #[p, .int .i64 m] w (XntsTo p (intsV m l f) (intsS m l f) w) := by
  have HC := keep (xupto_any p m l f w h hn0 hn1)
  have hB := uptoV_bd m l f hn1
  have hV : intsV m l f = if (uptoS m l f).2 = 0 then (intsT (uptoV m l f).toNat (uptoS m l f).1).1.getD [] else [] := rfl
  have hS : intsS m l f = if (uptoS m l f).2 = 0 then (intsT (uptoV m l f).toNat (uptoS m l f).1).2 else uptoS m l f := rfl
  have hz : (uptoS m l f).2 ≠ 0 → uptoV m l f = 0 := by
    unfold uptoS uptoV
    intro h
    rw [if_neg]
    intro c
    apply h
    rw [if_pos c.1, if_pos c.2.1, if_pos c.2.2]
  have hP := h.blk_lt
  obtain ⟨b, hp, _, _⟩ := h.out
  generalize intsV m l f = V at *
  generalize intsS m l f = S at *
  generalize uptoV m l f = n at *
  generalize uptoS m l f = x at *
  obtain ⟨l1, f1⟩ := x
  simp only at hV hS hz
  have HB := keep hB
  have HZ := keep hz
  have HV := keep hV
  have HS := keep hS
  have HP := keep hP
  clear h hn0 hn1 hB hV hS hz hP
  subst hp
  by_cases hf : f1 = 0
  · subst hf
    go_enter Try.func41, Try.ntmps41
    go_wp2_with fail
    refine HC.out.mono ?_
    rintro e w1 ⟨rfl, hR⟩
    have HR := keep hR
    clear hR HC
    obtain ⟨i0, hi, hz0, hz1, hz2⟩ := info_parts infoInt
    have HI := keep hi
    have HZ0 := keep hz0
    have HZ1 := keep hz1
    have HZ2 := keep hz2
    have HH : Keep (w.heap.size ≤ w1.heap.size) := ⟨HR.out.2.size⟩
    have HPP : Keep (∀ j, blk (.pointer (some ⟨b, 0, none⟩)) = some j → j < w1.heap.size) := ⟨fun j e => by have := HP.out j e; have := HH.out; omega⟩
    have HN := HB.out.1
    clear hi hz0 hz1 hz2
    go_wp2_with fail
    go_loopw [6, 7] (fun v i wr => ∃ (k : Nat), i = .int .i64 k ∧ (k : Int) ≤ 1000001 ∧ ((∃ (xs : List Int) (l' : List UInt8), Keep (XntsAt (.pointer (some ⟨b, 0, none⟩)) l1 n w1.heap.size w1 k xs l' v wr)) ∨ Keep (V = [] ∧ XBad (.pointer (some ⟨b, 0, none⟩)) S w1 wr))) (fun _ i _ => (n - intOf i).toNat)
    case atStart => exact ⟨0, rfl, by omega, .inl ⟨[], l1, ⟨⟨rfl, HN, World.ownsRow_nil _ _ _ _, HR.out.1, Kept.refl _ _, Nat.le_refl _, by rw [pre_nil]; rfl, by have h : l1.length ≤ 1000000 := HR.out.1.le; omega⟩⟩⟩⟩
    case round =>
      obtain ⟨k, rfl, hkm, hcase⟩ := hrel
      rcases hcase with ⟨xs, l', H⟩ | H
      · obtain ⟨d0, d1, y0, y1⟩ := H.out.rd.at_.cells
        by_cases hlt : (k : Int) < n
        · have HC1 := keep (xint_any (.pointer (some ⟨b, 0, none⟩)) l' 0 wr H.out.rd)
          have e1 : numV l' 0 = headU l' := by unfold numV; rw [if_pos rfl]
          rw [e1] at HC1
          clear e1
          obtain ⟨z, hz⟩ : ∃ z, z = zag (headU l') := ⟨_, rfl⟩
          rw [← hz] at HC1
          have HZZ := keep hz
          clear hz
          generalize str l' = s1 at *
          go_wp2_with fail
          refine HC1.out.mono ?_
          rintro e w2 ⟨rfl, hR2⟩
          have HR2 := keep hR2
          have HG := keep (H.out.got HPP.out hR2 (.cells #[.int .i64 z] 3))
          have HX := H.out.len
          clear hR2 d0 d1 y0 y1
          go_wp2_with (at_builtin; refine wpList_append_own _ rfl _ _ 31 rfl w1.heap.size 3 i0 (.int .i64 0) 1 8 Try.underlying31 HI.out HZ0.out HZ1.out HZ2.out rfl (by decide) _ k _ rfl HG.out.1 ⟨w2.heap.size, 0, none⟩ 1 1 [.int .i64 z] rfl rfl ?c1 ?c2 ?c3 ?c4 ?c5 ?_)
          case c1 =>
            intro j u hj
            match j, hj with
            | 0, hj => simp at hj; subst hj; simp [Addr.add]
          case c2 => intro u hu; simp at hu; subst hu; rfl
          case c3 => unfold maxLen; omega
          case c4 => omega
          case c5 => exact HG.out.2
          intro v' w3 hown' hgrow _
          by_cases hE : headE l' = 0
          · rw [HZZ.out] at hown'
            have HN3 := keep (H.out.step hlt hE (Nat.le_refl _) HPP.out HR2.out hown' hgrow)
            have HKM : Keep (((k + 1 : Nat) : Int) ≤ 1000001) := ⟨by have := HN3.out.room; omega⟩
            clear hown' hgrow hE
            go_wp2_with fail
            go_roundw
            case rel => exact ⟨k + 1, by go_num, HKM.out, .inl ⟨_, _, HN3⟩⟩
            case measure => simp [intOf]; omega
          · have HN3 := keep (H.out.bad hE (Nat.le_refl _) HPP.out HR2.out hgrow)
            have HKM : Keep (((k + 1 : Nat) : Int) ≤ 1000001) := ⟨by have := H.out.room; omega⟩
            have HVV : Keep (V = [] ∧ S = (l', (headE l' : Int))) := ⟨by
              have e := H.out.is
              rw [show n.toNat - k = (n.toNat - k - 1) + 1 from by omega, pre_bad hE] at e
              rw [HV.out, HS.out, if_pos trivial, if_pos trivial, e]
              exact ⟨rfl, rfl⟩⟩
            have HBD : Keep (V = [] ∧ XBad (.pointer (some ⟨b, 0, none⟩)) S w1 w3) := ⟨HVV.out.1, by rw [HVV.out.2]; exact ⟨by show (headE l' : Int) ≠ 0; omega, HN3.out.1, HN3.out.2⟩⟩
            clear hown' hgrow hE
            go_wp2_with fail
            go_roundw
            case rel => exact ⟨k + 1, by go_num, HKM.out, .inr HBD⟩
            case measure => simp [intOf]; omega
        · have HVV : Keep (V = xs ∧ S = (l', 0)) := ⟨by
            have e := H.out.is
            have := H.out.le
            rw [show n.toNat - k = 0 from by omega] at e
            rw [HV.out, HS.out, if_pos trivial, if_pos trivial, e]
            exact ⟨by simp [pre, intsT], rfl⟩⟩
          generalize str l' = s1 at *
          go_wp2_with fail
          go_ret
          refine ⟨_, rfl, ?_, ?_, HR.out.2.trans H.out.kept⟩
          · rw [HVV.out.1, H.out.len]; exact Go.Joins.ownsRow_le H.out.own HH.out
          · rw [HVV.out.2]; exact H.out.rd
      · obtain ⟨d0, d1, y0, y1⟩ := H.out.2.rd.at_.cells
        have hS0 : (S.2 == 0) = false := by simpa using H.out.2.bad
        generalize str S.1 = s1 at *
        by_cases hlt : (k : Int) < n
        all_goals
          go_wp2_with fail
          go_ret
          exact ⟨_, rfl, by rw [H.out.1]; exact World.ownsRow_nil _ _ _ _, H.out.2.rd, HR.out.2.trans H.out.2.kept⟩
  · have HVV : Keep (V = [] ∧ S = (l1, f1)) := ⟨by rw [HV.out, HS.out, if_neg hf, if_neg hf]; exact ⟨rfl, rfl⟩⟩
    obtain rfl := HZ.out hf
    have hf1 : (f1 == 0) = false := by simpa using hf
    clear hf
    go_enter Try.func41, Try.ntmps41
    go_wp2_with fail
    refine HC.out.mono ?_
    rintro e w1 ⟨rfl, hR⟩
    obtain ⟨d0, d1, y0, y1⟩ := hR.1.at_.cells
    have HR := keep hR
    clear hR HC
    simp only at d0 d1
    generalize str l1 = s1 at *
    go_wp2_with fail
    refine wp_loop_rounds 1 ?_
    rw [rounds_succ]
    go_wp2_with fail
    go_ret
    exact ⟨_, rfl, by rw [HVV.out.1]; exact World.ownsRow_nil _ _ _ _, by rw [HVV.out.2]; exact HR.out.1, HR.out.2⟩
end Go.Proofs.Ytafeahjhdjcimaa
