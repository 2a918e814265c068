/-
  For every list of nodes and every three ints retracelaw09.TreePieces answers true, and what it is given reads as before. No condition.
-/
import Derived.Test.YtgodjgbdjgiapaaRows
import Derived.Test.YtgodjgbdjgiapaaTreeXL
import Derived.Test.YtgodjgbdjgiapaaTreeXR
import Derived.Below
import Derived.ChangeOld
namespace Go.Proofs.Ytgodjgbdjgiapaa.treePieces
open Go.ChangeShapes Go.WideShapes Go.ChangeAt Go.RowKit Go.Shelf
attribute [local go_sem] Oper.semAt_some

/-- The activation of a round. -/
def asg1 (a : Act) (p i : Nat) (u : Value) : Act := { tmps := (a.tmps.setIfInBounds p u).setIfInBounds i u, defers := [] }
/-- A law's own loop over the places of a row, whether it is gone through or left. -/
theorem range_vals {g : Operand} {assign body : Code} {Q : Exit → Act → World → Prop} {a : Act} {w : World} (b p i Bs N : Nat) (u : Value) (M : List Nat) (hM : M.length ≤ 1000)
    (hg : a.eval g = .func (.func 31) #[] #[.pointer (some ⟨Bs, 0, none⟩)]) (hrow : RowAt PV N w u M) (hN : N ≤ w.heap.size) (hB : w.heap[Bs]? = some (.cells #[u] 24 (0, 0)))
    (I : List Nat → World → Prop) (hI : OwnFrom w.heap.size I) (h0 : I [] w) (Bad T : List Nat → Prop) (hbad : ∀ pre, pre <+: M → ¬ Bad pre)
    (hassign : ∀ (L : Nat) (x : Nat) (W : World) (K : Act → World → Prop), K (asg1 a p i (.int .i64 (x : Int))) W →
      assign.wpIn (Fence.wide.inRound L) 2 Try.prog (Exit.then K (fun _ _ _ => False)) { tmps := a.tmps.setIfInBounds p (.int .i64 (x : Int)), defers := [] } W)
    (hbody : ∀ (L : Nat) (pre : List Nat) (x : Nat) (W : World), I pre W → pre.length < M.length → body.wpIn (Fence.wide.inRound L) 2 Try.prog (ownPostG w.heap.size (KpV N) I (LeftBy b Bad T I) (pre ++ [x]) W) (asg1 a p i (.int .i64 (x : Int))) W)
    (hrest : ∀ (D : Nat) (pre : List Nat) (W : World), w.heap.size ≤ D → pre.length ≤ M.length → (pre.length = M.length ∨ T pre) → I pre W → W.heap[D]? = some (.deferred (some [])) → Q .normal { a with defers := { target := .collected D, args := #[] } :: a.defers } W) :
    (Code.rangeFunc g #[p] assign body).wpIn Fence.wide 4 Try.prog (Exit.inBlock b Q) a w := by
  refine wpIn_rangeFunc_ownH (n := 4) rfl (by omega) (gf := 31) (lb := #[.pointer (some ⟨Bs, 0, none⟩)]) hg trivial (enters_of Try.func31 (by kernel_rfl) rfl)
    (vals_stops 3 Bs N u M hM w hrow hN hB) (fun h1 h2 => KpV.trans h1 h2) (fun W l o o' h1 _ _ _ => ?kp) (Below.refl _ _) (fun _ => rfl)
    I (LeftBy b Bad T I) hI (fun c => LeftBy.own hI c) h0 (fun x a' _ => a' = asg1 a p i (.int .i64 (x : Int))) (fun _ _ _ _ _ _ hs _ _ => hs) ?assign ?body ?done ?stop
  case kp => exact ⟨fun k hk => World.putObj_heap_other (by omega), by simp⟩
  case assign =>
    intro L pre x W K hi hK
    have h := hassign L x W K (hK _ W (KeepsFrom.refl _ _) ⟨fun _ _ => rfl, Nat.le_refl _⟩ hi rfl)
    simpa [encN] using h
  case body =>
    rintro L pre x a' W hL _ hi rfl hlt
    exact hbody L pre x W hi hlt
  case done =>
    rintro D zs W hD rfl hi hK
    exact hrest D _ W hD (Nat.le_refl _) (.inl rfl) hi hK
  case stop =>
    rintro D c pre W hD hp hx hK
    rcases hx with ⟨_, hb⟩ | ⟨rfl, hT, hi⟩
    · exact absurd hb (hbad pre hp)
    · have h := hrest D pre W hD hp.length_le (.inr hT) hi hK
      refine wpIn_exit ?_
      show (if b = b then _ else _)
      rw [if_pos rfl]
      exact h

/-- Something has come that is not there. -/
def Bad (M : List Nat) (pre : List Nat) : Prop := ∃ ini x, pre = ini ++ [x] ∧ M[ini.length]? ≠ some x
theorem bad_not (M : List Nat) (pre : List Nat) (h : pre <+: M) : ¬ Bad M pre := by
  rintro ⟨ini, x, rfl, hne⟩
  obtain ⟨t, ht⟩ := h
  apply hne
  rw [← ht, List.append_assoc, List.getElem?_append_right (Nat.le_refl _), Nat.sub_self]
  rfl
/-- Between two rounds. -/
def GoI (Bn : Nat) (w6 : World) (pre : List Nat) (W : World) : Prop := Kept2 Bn Bn w6 W ∧ Boxed W Bn 3 (.int .i64 (pre.length : Int))
theorem GoI.own (Bn : Nat) (w6 : World) : OwnFrom w6.heap.size (GoI Bn w6) := fun s X Y row ⟨hk, hb⟩ hg hr =>
  ⟨hk.grown hg (fun k e => .inl (hr k e).1), hb.kept hg (fun e' => by obtain ⟨_, o, ho, hc⟩ := hr Bn e'.symm; rw [show X.heap[Bn]? = _ from hb] at ho; cases ho; cases hc)⟩

/-- What the law has laid: the boxes of stop, of the answer, of the row; the row. -/
structure At3 (w : World) (P : Nat) (u : Value) (N : Nat) (stop : Int) (M : List Nat) (W : World) : Prop where
  bw : Below w.heap.size w W
  t : Boxed W w.heap.size 3 (.int .i64 stop)
  r : Boxed W (w.heap.size + 1) 4 (.bool false)
  h : Boxed W P 24 u
  row : RowAt PV N W u M
  lo : w.heap.size + 1 < P
  le : N ≤ P
theorem At3.to {w W W' : World} {P N : Nat} {u : Value} {stop : Int} {M : List Nat} (h : At3 w P u N stop M W) (hb : Below W.heap.size W W') : At3 w P u N stop M W' :=
  ⟨h.bw.trans (hb.mono h.bw.size), h.t.kept (below_grown hb) (by simp), h.r.kept (below_grown hb) (by simp), h.h.kept (below_grown hb) (by simp), h.row.below (hb.mono (Nat.le_trans h.le (Nat.le_of_lt h.h.lt))), h.lo, h.le⟩
theorem At3.kept {w W W' : World} {P N K : Nat} {u : Value} {stop : Int} {M : List Nat} (h : At3 w P u N stop M W) (hk : Kept2 K K W W') (hK : P < K) : At3 w P u N stop M W' :=
  have hlo := h.lo
  have hle := h.le
  ⟨hk.below h.bw (by omega) (by omega) h.bw.size, hk.heap h.t (by omega) (by omega), hk.heap h.r (by omega) (by omega), hk.heap h.h (by omega) (by omega),
    rowAt_blocks h.row (fun k hk' => hk.block k (by have := h.h.lt; omega) (by omega) (by omega)), h.lo, h.le⟩

theorem At3.start {w w1 w2 : World} {o : Option Addr} {cap : Nat} {stop : Int} {M : List Nat} (hb : Below w.heap.size w w1) (ht : Boxed w1 w.heap.size 3 (.int .i64 stop)) (hr : Boxed w1 (w.heap.size + 1) 4 (.bool false)) (h2 : Below w1.heap.size w1 w2)
    (hrow : RowAt PV w2.heap.size w2 (.slice o M.length cap) M) : At3 w w2.heap.size (.slice o M.length cap) w2.heap.size stop M (w2.alloc (.cells #[.slice o M.length cap] 24)) := by
  have hs := h2.size
  have hl := hr.lt
  exact ⟨(hb.trans (h2.mono hb.size)).alloc (Nat.le_trans hb.size h2.size) _, (ht.kept (below_grown h2) (by simp)).alloc _, (hr.kept (below_grown h2) (by simp)).alloc _, Boxed.new w2 _ _, hrow.below ((Below.refl _ _).alloc (Nat.le_refl _) _), by omega, Nat.le_refl _⟩
/-- Behind the loop. -/
structure RestAt (w : World) (D : Nat) (W : World) : Prop where
  bw : Below w.heap.size w W
  r : Boxed W (w.heap.size + 1) 4 (.bool false)
  d : W.heap[D]? = some (.deferred (some []))
theorem RestAt.to {w : World} {D : Nat} {W W' : World} (h : RestAt w D W) (hb : Below W.heap.size W W') : RestAt w D W' := ⟨h.bw.trans (hb.mono h.bw.size), h.r.kept (below_grown hb) (by simp), (hb.block D (Array.getElem?_eq_some_iff.1 h.d).1).trans h.d⟩

set_option maxRecDepth 100000 in
set_option maxHeartbeats 16000000 in
theorem walk_ok (v : Value) (l : List Nd) (i k stop : Int) (w : World) (h : NdRow w.heap.size w v l) (hk : -9223372036854775808 ≤ k ∧ k ≤ 9223372036854775807) (hl : l.length ≤ 80) :
    Calls Try.prog 3 #[v, .int .i64 i, .int .i64 k, .int .i64 stop] w fun e w' => e = .returned (.bool true) ∧ Below w.heap.size w w' := by
  have hn : l.length ≤ 1000 := by omega
  have hfn := func_nil
  have HL := keep live_any
  have hr0 := Boxed.new (w.alloc (.cells #[.int .i64 stop] 3)) 4 (.bool false)
  rw [World.size_alloc] at hr0
  have HBS0 := keep ((Boxed.new w 3 (.int .i64 stop)).alloc (.cells #[.bool false] 4))
  have HBR0 := keep hr0
  have HBW0 := keep (((Below.refl _ w).alloc (Nat.le_refl _) (.cells #[.int .i64 stop] 3)).alloc (by simp) (.cells #[.bool false] 4))
  have HRK := keep (fun W (hW : Below w.heap.size w W) => rkids_any v l i hn W (h.to hW))
  have HKF := keep (fun W (hW : Below w.heap.size w W) => kidsf_any v l i hn W (h.to hW))
  have HEN := keep (fun W (hW : Below w.heap.size w W) => end_any v l i hn W (h.to hW))
  have HRE := keep (fun W (hW : Below w.heap.size w W) => rend_any v l i hn W (h.to hW))
  have HKI := keep (fun W (hW : Below w.heap.size w W) => kid_any v l i k hk.1 hk.2 hn W (h.to hW))
  have HRI := keep (fun W (hW : Below w.heap.size w W) => rkid_any v l i k hn W (h.to hW))
  have HUP := keep (fun W (hW : Below w.heap.size w W) => up_any v l i hn W (h.to hW))
  have HRU := keep (fun W (hW : Below w.heap.size w W) => rup_any v l i hn W (h.to hW))
  have HUQ : Keep (∀ r r', UpIs l i r → UpIs l i r' → (r == r') = true) := ⟨fun r r' h1 h2 => by simp [h1.uniq h2]⟩
  have HMB : Keep ((kidsI l i).length ≤ 80) := ⟨by have := kidsI_len l i; omega⟩
  obtain ⟨o, cap, rfl, -⟩ := h.form
  have hd : (l.length : Int) ≤ 80 := by omega
  generalize endI l i = EE at *
  generalize kidI l i k = KK at *
  generalize UpIs l i = UU at *
  obtain ⟨M, hM⟩ : ∃ M, M = kidsI l i := ⟨_, rfl⟩
  rw [← hM] at HRK HKF HMB
  clear hM h hk hl hn hr0
  refine (callsIn_wide (n := 4)).1 ?_
  refine callsIn_of_wp_marks Try.func3 rfl trivial ?_ rfl
  simp only [Try.ntmps3, List.size_toArray, List.length_cons, List.length_nil, Nat.reduceAdd, Nat.reduceSub, Array.replicate_succ, Array.replicate_zero, List.push_toArray, List.append_toArray, List.nil_append, List.cons_append]
  gi_wp2_with (first
    | (refine ⟨trivial, ?_⟩; gi_at_call 7; refine (callsIn_wide.2 (HL.out _)).mono ?_; rintro e1 w1 ⟨rfl, hb⟩; have HB1 := keep (HBW0.out.trans (hb.mono HBW0.out.size)); have HT1 := keep (HBS0.out.kept (below_grown hb) (by simp)); have HR1 := keep (HBR0.out.kept (below_grown hb) (by simp)); clear hb)
    | (refine ⟨trivial, ?_⟩; gi_at_call 8; refine (callsIn_wide.2 (HRK.out _ HB1.out)).mono ?_; rintro e1 w2 ⟨u, rfl, ho⟩; obtain ⟨o2, cap2, rfl, -⟩ := ho.row.form; have HA2 := keep (At3.start HB1.out HT1.out HR1.out ho.below ho.row); clear ho)
    | (refine ⟨trivial, ?_⟩; gi_at_call 9; refine (callsIn_wide.2 (HKF.out _ HA2.out.bw)).mono ?_; rintro e1 w4 ⟨Bs, u4, rfl, hBs, hB4, hrow4, hb⟩; have HA4 := keep (HA2.out.to hb); have HRW4 := keep hrow4; have HBX4 := keep hB4; have HPL := keep (show w2.heap.size < w4.heap.size by have := hb.size; simp at this; omega); clear hb hrow4 hB4 hBs))
  have b2 := Boxed.new w4 3 (.int .i64 0)
  have hb6 : Below w4.heap.size w4 (w4.alloc (.cells #[.int .i64 0] 3)) := (Below.refl _ _).alloc (Nat.le_refl _) _
  have HN6 := keep b2
  have HA6 := keep (HA4.out.to hb6)
  have HBX6 : Keep ((w4.alloc (.cells #[.int .i64 0] 3)).heap[Bs]? = some (.cells #[u4] 24 (0, 0))) := ⟨(hb6.block Bs (Array.getElem?_eq_some_iff.1 HBX4.out).1).trans HBX4.out⟩
  have HRW6 : Keep (RowAt PV w4.heap.size (w4.alloc (.cells #[.int .i64 0] 3)) u4 M) := ⟨HRW4.out.below hb6⟩
  have HSZ6 : Keep ((w4.alloc (.cells #[.int .i64 0] 3)).heap.size = w4.heap.size + 1) := ⟨by simp⟩
  clear b2 hb6 HA4 HA2 HBX4 HRW4 HT1 HR1 HBS0 HBR0 HBW0
  generalize w4.alloc (.cells #[.int .i64 0] 3) = w6 at *
  generalize w4.heap.size = K at *
  generalize w2.heap.size = P at *
  obtain ⟨N, hN⟩ : ∃ N, N = M.length := ⟨_, rfl⟩
  have HNN := keep hN
  rw [← hN] at HA6 HMB
  rw [← hN]
  have hNI : (N : Int) ≤ 80 := by have := HMB.out; omega
  clear hN
  refine range_vals 0 30 12 Bs K u4 M (by have := HMB.out; have := HNN.out; omega) rfl HRW6.out (by rw [HSZ6.out]; omega) HBX6.out (GoI K w6) (GoI.own _ _) ⟨Kept2.refl _ _ _, HN6.out⟩ (Bad M) (fun pre => (pre.length : Int) = stop) (bad_not M) ?assign ?body ?rest
  case assign =>
    intro L x W K hK
    unfold asg1 at hK
    simp only [List.setIfInBounds_toArray, List.set_cons_succ, List.set_cons_zero] at hK
    gi_wp2
    exact hK
  case body =>
    rintro L pre x W ⟨hk, hn⟩ hlt
    unfold asg1
    simp only [List.setIfInBounds_toArray, List.set_cons_succ, List.set_cons_zero]
    have ha := HA6.out.kept hk (by have := HPL.out; omega)
    obtain ⟨q, hqq⟩ : ∃ q, q = pre.length := ⟨_, rfl⟩
    have HQQ := keep hqq
    rw [← hqq] at hn hlt
    have hy0 : M[q]? = some (M[q]'hlt) := List.getElem?_eq_getElem hlt
    generalize M[q]'hlt = y0 at hy0
    obtain ⟨o3, c3, hsl, hcs⟩ := ha.row.form
    rw [← HNN.out] at hsl
    injection hsl with e1 e2 e3
    subst e1 e3
    obtain ⟨b, off, rfl, hb, hc⟩ := hcs q y0 hy0
    have hcell : W.cell? ⟨b, off + q, none⟩ = some (.int .i64 (y0 : Int)) := hc W (Below.refl _ _)
    have HY0 : Keep (M[pre.length]? = some y0) := ⟨by rw [← hqq]; exact hy0⟩
    have hltI : (q : Int) < (N : Int) := by rw [HNN.out]; omega
    have hge : decide ((N : Int) ≤ (q : Int)) = false := by simp; omega
    have hq0 : (0 : Int) ≤ (q : Int) := by omega
    have hqI : (q : Int) ≤ 81 := by omega
    have ch := ha.h.cell
    have ct := ha.t.cell
    have cr := ha.r.cell
    have fr := ha.r.frozen
    have cn := hn.cell
    have fn := hn.frozen
    have HK := keep hk
    have HNB := keep hn
    have HA := keep ha
    clear hk hn ha hlt hqq hy0 e2 hcs hb hc
    by_cases hy : x = y0
    · subst hy
      have hxx : ((x : Int) != (x : Int)) = false := by simp
      have cn3 := (HNB.out.set (.int .i64 ((q : Int) + 1))).cell
      have ct3 := (HA.out.t.other (B' := K) (by have := HA.out.lo; have := HPL.out; omega) (.int .i64 ((q : Int) + 1))).cell
      have HPX : Keep (((pre ++ [x]).length : Int) = (q : Int) + 1) := ⟨by rw [List.length_append, ← HQQ.out]; rfl⟩
      have HEND : Keep (KeepsFrom w6.heap.size W (W.setCell ⟨K, 0, none⟩ (.int .i64 ((q : Int) + 1))) ∧ KpV K W (W.setCell ⟨K, 0, none⟩ (.int .i64 ((q : Int) + 1))) ∧ GoI K w6 (pre ++ [x]) (W.setCell ⟨K, 0, none⟩ (.int .i64 ((q : Int) + 1)))) := ⟨(KeepsOthers.setCell _ _ _).from _, ⟨fun j hj => heap_setCell_other _ _ _ _ (by simp; omega), by simp⟩, HK.out.grown (grown_set W K _) (fun k e => by injection e with e; omega), by rw [HPX.out]; exact HNB.out.set _⟩
      by_cases hst : (q : Int) + 1 = stop
      · have hsb : ((q : Int) + 1 == stop) = true := by simp [hst]
        have HST := keep hst
        clear hst
        gi_wp2
        exact ⟨HEND.out.1, .inr ⟨rfl, by show ((pre ++ [x]).length : Int) = stop; rw [HPX.out]; exact HST.out, HEND.out.2.2⟩⟩
      · have hsb : ((q : Int) + 1 == stop) = false := by simp [hst]
        clear hst
        gi_wp2
        exact ⟨HEND.out.1, HEND.out.2.1, HEND.out.2.2⟩
    · have hin : ((x : Int) != (y0 : Int)) = true := by simp; omega
      have HX := keep hy
      have hud : ∀ b : Bool, (undef = Value.bool b) = False := fun b => by unfold undef; simp
      clear hy
      gi_wp2
      exact ⟨(KeepsOthers.setCell _ _ _).from _, .inl ⟨rfl, pre, x, rfl, fun h => HX.out (by rw [HY0.out] at h; injection h with h; exact h.symm)⟩⟩
  case rest =>
    rintro D pre W hD hle hT ⟨hk, hn⟩ hDK
    have ha := HA6.out.kept hk (by have := HPL.out; omega)
    obtain ⟨q, hqq⟩ : ∃ q, q = pre.length := ⟨_, rfl⟩
    rw [← hqq] at hn hle hT
    rw [← HNN.out] at hle hT
    have hqI : (q : Int) ≤ (N : Int) := by omega
    have hq0 : (0 : Int) ≤ (q : Int) := by omega
    have ch := ha.h.cell
    have ct := ha.t.cell
    have cn := hn.cell
    have HRA := keep (RestAt.mk ha.bw ha.r hDK)
    have HRL : Keep (w.heap.size + 1 < D) := ⟨by have := ha.lo; have := HPL.out; have := HSZ6.out; omega⟩
    have hee : (EE == EE) = true := by simp
    have hkk : (KK == KK) = true := by simp
    have HT : Keep ((q : Int) = (N : Int) ∨ ((q : Int) ≠ (N : Int) ∧ (q : Int) = stop)) := ⟨by
      by_cases e : (q : Int) = (N : Int)
      · exact .inl e
      · rcases hT with h | h
        · exact absurd (by rw [h]) e
        · exact .inr ⟨e, h⟩⟩
    clear hk hn ha hDK hD hle hT hqq
    rcases HT.out with hc | ⟨hc1, hc2⟩
    · have hqn : ((q : Int) != (N : Int)) = false := by simp [hc]
      clear hc
      gi_wp2_with (first
        | (refine ⟨trivial, ?_⟩; gi_at_call 10; refine (callsIn_wide.2 (HEN.out _ HRA.out.bw)).mono ?_; rintro e1 w' ⟨rfl, rfl⟩)
        | (refine ⟨trivial, ?_⟩; gi_at_call 11; refine (callsIn_wide.2 (HRE.out _ HRA.out.bw)).mono ?_; rintro e1 w' ⟨rfl, rfl⟩)
        | (refine ⟨trivial, ?_⟩; gi_at_call 12; refine (callsIn_wide.2 (HKI.out _ HRA.out.bw)).mono ?_; rintro e1 w7 ⟨rfl, hb⟩; have HRA7 := keep (HRA.out.to hb); clear hb)
        | (refine ⟨trivial, ?_⟩; gi_at_call 13; refine (callsIn_wide.2 (HRI.out _ HRA7.out.bw)).mono ?_; rintro e1 w8 ⟨rfl, hb⟩; have HRA8 := keep (HRA7.out.to hb); clear hb)
        | (refine ⟨trivial, ?_⟩; gi_at_call 14; refine (callsIn_wide.2 (HUP.out _ HRA8.out.bw)).mono ?_; rintro e1 w' ⟨r, rfl, hr, rfl⟩; have HR := keep hr; clear hr)
        | (refine ⟨trivial, ?_⟩; gi_at_call 15; refine (callsIn_wide.2 (HRU.out _ HRA8.out.bw)).mono ?_; rintro e1 w9 ⟨r', rfl, hr', hb⟩; have hrr := HUQ.out r r' HR.out hr'; have HRA9 := keep (HRA8.out.to hb); clear hb hr')
        | (refine ⟨trivial, ?_⟩; gi_at_call 7; refine (callsIn_wide.2 (HL.out _)).mono ?_; rintro e1 w10 ⟨rfl, hb⟩; have HRA10 := keep (HRA9.out.to hb); have cr := HRA10.out.r.cell; have fr := HRA10.out.r.frozen; clear hb))
      obtain ⟨hK1, hc5, hB5⟩ := lawEnd HRA10.out.bw HRA10.out.r HRA10.out.d (by omega) HRL.out true
      refine ⟨by simp, .inl ⟨_, _, rfl, run_takeDeferred hK1, ?_⟩⟩
      refine ⟨.bool true, ?_, rfl, hB5⟩
      simp [results, Try.f3, go_sem, hc5]
    · have hqn : ((q : Int) != (N : Int)) = true := by simpa using hc1
      have hqs : ((q : Int) != stop) = false := by simp [hc2]
      clear hc1 hc2
      gi_wp2_with (first
        | (refine ⟨trivial, ?_⟩; gi_at_call 10; refine (callsIn_wide.2 (HEN.out _ HRA.out.bw)).mono ?_; rintro e1 w' ⟨rfl, rfl⟩)
        | (refine ⟨trivial, ?_⟩; gi_at_call 11; refine (callsIn_wide.2 (HRE.out _ HRA.out.bw)).mono ?_; rintro e1 w' ⟨rfl, rfl⟩)
        | (refine ⟨trivial, ?_⟩; gi_at_call 12; refine (callsIn_wide.2 (HKI.out _ HRA.out.bw)).mono ?_; rintro e1 w7 ⟨rfl, hb⟩; have HRA7 := keep (HRA.out.to hb); clear hb)
        | (refine ⟨trivial, ?_⟩; gi_at_call 13; refine (callsIn_wide.2 (HRI.out _ HRA7.out.bw)).mono ?_; rintro e1 w8 ⟨rfl, hb⟩; have HRA8 := keep (HRA7.out.to hb); clear hb)
        | (refine ⟨trivial, ?_⟩; gi_at_call 14; refine (callsIn_wide.2 (HUP.out _ HRA8.out.bw)).mono ?_; rintro e1 w' ⟨r, rfl, hr, rfl⟩; have HR := keep hr; clear hr)
        | (refine ⟨trivial, ?_⟩; gi_at_call 15; refine (callsIn_wide.2 (HRU.out _ HRA8.out.bw)).mono ?_; rintro e1 w9 ⟨r', rfl, hr', hb⟩; have hrr := HUQ.out r r' HR.out hr'; have HRA9 := keep (HRA8.out.to hb); clear hb hr')
        | (refine ⟨trivial, ?_⟩; gi_at_call 7; refine (callsIn_wide.2 (HL.out _)).mono ?_; rintro e1 w10 ⟨rfl, hb⟩; have HRA10 := keep (HRA9.out.to hb); have cr := HRA10.out.r.cell; have fr := HRA10.out.r.frozen; clear hb))
      obtain ⟨hK1, hc5, hB5⟩ := lawEnd HRA10.out.bw HRA10.out.r HRA10.out.d (by omega) HRL.out true
      refine ⟨by simp, .inl ⟨_, _, rfl, run_takeDeferred hK1, ?_⟩⟩
      refine ⟨.bool true, ?_, rfl, hB5⟩
      simp [results, Try.f3, go_sem, hc5]

set_option maxHeartbeats 4000000 in
theorem walk (v : Value) (l : List Nd) (i k stop : Int) (w : World) (h : NdRow w.heap.size w v l) (_ : (Lit.int .i64 i).wf = true) (hk : (Lit.int .i64 k).wf = true) (_ : (Lit.int .i64 stop).wf = true) :
    Calls Try.prog 3 #[v, .int .i64 i, .int .i64 k, .int .i64 stop] w fun e w' => e = .returned (.bool true) ∧ Below w.heap.size w w' := by
  by_cases hlong : 80 < l.length
  · have HL := keep live_any
    obtain ⟨o, cap, rfl, -⟩ := h.form
    have hd : (80 : Int) < (l.length : Int) := by omega
    have hr0 := Boxed.new (w.alloc (.cells #[.int .i64 stop] 3)) 4 (.bool false)
    rw [World.size_alloc] at hr0
    have HR0 := keep hr0
    have HB0 := keep (((Below.refl _ w).alloc (Nat.le_refl _) (.cells #[.int .i64 stop] 3)).alloc (by simp) (.cells #[.bool false] 4))
    clear h hlong hk hr0
    go_enter Try.func3, Try.ntmps3
    go_wp2_with fail
    refine (HL.out _).mono ?_
    rintro e w1 ⟨rfl, hb⟩
    have HR1 := keep (HR0.out.kept (below_grown hb) (by simp))
    have HB1 := keep (HB0.out.trans (hb.mono HB0.out.size))
    have cr := HR1.out.cell
    have fr := HR1.out.frozen
    have q2 := (HR1.out.set (.bool true)).cell
    clear hb
    go_wp2_with fail
    refine bodyPost_ret (v := .bool true) ?_ rfl ⟨rfl, HB1.out.setCell (p := ⟨w.heap.size + 1, 0, none⟩) (by simp) _⟩
    simp [results, Try.results3, go_sem, q2]
  · exact walk_ok v l i k stop w h (wf_bounds_i64 hk) (by omega)
theorem own : ownKnob Try.prog.godebug = none := by kernel_rfl
theorem laid : laidOutB Try.prog = true := by kernel_rfl

set_option maxRecDepth 100000 in
theorem lifted (os : Os) (started : os.Started) (H : Type) (enc : TypeId × Value → H) :
    ReturnsInHanded {} Try.checked os 3 .any (Rows.treePiecesSpec.pre6 enc Try.prog Try.f3 Rows.treePiecesRow.domain false) (Rows.treePiecesSpec.post enc Try.prog Try.f3 false true false false) := by
  refine returnsInHanded_of_change (C := Try.checked) own started (by kernel_rfl) Try.func3
    (ChangeSpec.witness6 (enc := enc) (C := Try.checked) false ⟨#[], #[.slice none 0 0, .int .i64 0, .int .i64 0, .int .i64 0], []⟩ 8 (by kernel_rfl) (by kernel_rfl) (by kernel_rfl) (by kernel_rfl)) ?_
  intro W base args ds gs before hval0 hW hcnd _
  have hval : ∀ (j : Nat) t v, Try.f3.params[j]? = some t → args[j]? = some v → Value.okWide Try.prog W .any base t v := hval0
  have hW' := hW
  obtain ⟨p, q, hA0, hV, rfl, hfz, hnd⟩ := hW
  have hA : DataW.TrodAll enc Try.prog W 0 (fun _ => true) true Try.f3.params.toList args.toList ds p := hA0
  rw [Try.params3] at hA hval
  obtain ⟨v0, vs0, d0, ds0, p0, q0, hargs, rfl, rfl, h0, r0⟩ := trodAll_cons hA
  obtain ⟨v1, vs1, d1, ds1, p1, q1, rfl, rfl, rfl, h1, r1⟩ := trodAll_cons r0
  obtain ⟨v2, vs2, d2, ds2, p2, q2, rfl, rfl, rfl, h2, r2⟩ := trodAll_cons r1
  obtain ⟨v3, vs3, d3, ds3, p3, q3, rfl, rfl, rfl, h3, r3⟩ := trodAll_cons r2
  obtain ⟨rfl, rfl, rfl⟩ := trodAll_nil r3
  obtain rfl : args = #[v0, v1, v2, v3] := by cases args; simp_all
  obtain ⟨rfl, rfl⟩ := trodVars_none hV
  obtain ⟨a0, w0⟩ := nds_of (enc := enc) h0 (hval 0 22 v0 rfl rfl)
  obtain ⟨a1, rfl, rfl, rfl, w1⟩ := open_int Try.underlying3 (hval 1 3 v1 rfl rfl) h1
  obtain ⟨a2, rfl, rfl, rfl, w2⟩ := open_int Try.underlying3 (hval 2 3 v2 rfl rfl) h2
  obtain ⟨a3, rfl, rfl, rfl, w3⟩ := open_int Try.underlying3 (hval 3 3 v3 rfl rfl) h3
  clear hA0 hval0
  simp only [List.append_nil] at hW'
  have hlt0 : ∀ x ∈ p0, x.block < W.heap.size := fun x hx => by
    have := hW'.lt x (by simp [hx])
    simpa using this
  refine (walk v0 a0 a1 a2 a3 W w0 w1 w2 w3).mono fun e W' ⟨he, hg⟩ => ?_
  subst he
  exact ⟨_, rfl, _, _, _, [], _, [], hW', (trodAll_cons_mk (shut_bool Try.underlying4 _) trodAll_mk0), (trodAll_cons_mk (Below.trod laid (by kernel_rfl) (of_decide_eq_true (by kernel_rfl)) h0 hg hlt0) (trodAll_cons_mk (shut_int Try.underlying3 w1) (trodAll_cons_mk (shut_int Try.underlying3 w2) (trodAll_cons_mk (shut_int Try.underlying3 w3) trodAll_mk0)))), rfl, hg.frame _, fun h => by cases h⟩

theorem over : Rows.treePiecesRow.holds Try.pinned (OpenSpec.ofChange Rows.treePiecesSpec) :=
  OpenClaim.holds_of_wide 3 Try.f3 rfl rfl rfl rfl rfl rfl rfl ⟨rfl, rfl, rfl, rfl, rfl⟩ rfl rfl rfl rfl rfl (by kernel_rfl) Try.func3 (by kernel_rfl)
    (of_decide_eq_true (by kernel_rfl)) (by unfold Func.isWrapper; first | (rw [if_pos (by decide +kernel)]; kernel_rfl) | (rw [if_neg (by decide +kernel)]; exact ⟨rfl, rfl⟩))
    (fun os started H enc _ => lifted os started H enc)

/-- The statement. -/
theorem proved : Rows.TreePiecesSaid :=
  over
#print axioms proved
end Go.Proofs.Ytgodjgbdjgiapaa.treePieces
