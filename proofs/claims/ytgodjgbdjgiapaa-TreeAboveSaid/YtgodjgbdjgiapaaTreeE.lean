/-
  The program's Kid: a range over kids' function that is left by a return.
-/
import Derived.Test.YtgodjgbdjgiapaaTreeD
namespace Go.Proofs.Ytgodjgbdjgiapaa
open Go.RowKit Go.Shelf
attribute [local go_sem] Oper.semAt_some

/-- What the loop counts down. -/
def cnt (k : Int) : Nat → Int
  | 0 => k
  | m + 1 => IntKind.i64.wrap (cnt k m - 1)
theorem cnt_is (k : Int) (h : IntKind.i64.wrap k = k) : ∀ m, cnt k m = IntKind.i64.wrap (k - m)
  | 0 => by simp [cnt, h]
  | m + 1 => by
    rw [cnt, cnt_is k h m, IntKind.wrap_i64, IntKind.wrap_i64, IntKind.wrap_i64]
    omega
theorem cnt_zero {k : Int} (h1 : -9223372036854775808 ≤ k) (h2 : k ≤ 9223372036854775807) {m : Nat} (hm : m ≤ 1000) : cnt k m = 0 ↔ k = (m : Int) := by
  rw [cnt_is k (by rw [IntKind.wrap_i64]; omega) m, IntKind.wrap_i64]
  omega

/-- Between two rounds. -/
def KI (w : World) (k : Int) (pre : List Nat) (W : World) : Prop := Boxed W w.heap.size 3 (.int .i64 (cnt k pre.length)) ∧ (Boxed W (w.heap.size + 1) 3 (.int .i64 0) ∧ (Below w.heap.size w W ∧ ∀ j : Nat, j < pre.length → k ≠ (j : Int)))
theorem KI.own (w w3 : World) (k : Int) (hw : w.heap.size ≤ w3.heap.size) : OwnFrom w3.heap.size (KI w k) :=
  OwnFrom.and (Own.from (boxed_own _ _ (fun pre : List Nat => Value.int .i64 (cnt k pre.length))) _) (OwnFrom.and (Own.from (boxed_own _ _ (fun _ => Value.int .i64 0)) _) (OwnFrom.and (ownFrom_below (Nat.le_refl _) hw) (ownFrom_pure _ _)))
/-- How a round leaves: the kid is found. -/
def KX (w : World) (k : Int) (c : Code) (pre : List Nat) (W : World) : Prop := c = .ret ∧ ∃ (p : List Nat) (x : Nat), pre = p ++ [x] ∧ k = (p.length : Int) ∧ (Boxed W (w.heap.size + 1) 3 (.int .i64 (x : Int)) ∧ Below w.heap.size w W)
theorem KX.own (w w3 : World) (k : Int) (c : Code) (hw : w.heap.size ≤ w3.heap.size) : OwnFrom w3.heap.size (KX w k c) := by
  rintro pre X Y row ⟨h1, p, x, h2, h3, h4⟩ hg hr
  exact ⟨h1, p, x, h2, h3, (OwnFrom.and (Own.from (boxed_own _ _ (fun _ : Unit => Value.int .i64 (x : Int))) _) (ownFrom_below (Nat.le_refl _) hw)) () X Y row h4 hg hr⟩
theorem ret_cell {X : World} {B D : Nat} {t : TypeId} {v : Value} (hb : Boxed X B t v) (hK : X.heap[D]? = some (.deferred (some []))) : (X.putObj D (.deferred none)).cell? ⟨B, 0, none⟩ = some v :=
  cell_kept hb.cell (grownBy_putObj' _ D (.deferred none)) (fun r e => by cases e; exact ⟨_, hK, rfl⟩)
/-- The activation of a round. -/
def actK (v : Value) (i k : Int) (B : Nat) (x : Nat) : Act := { tmps := #[v, .int .i64 i, .int .i64 k, undef, undef, .pointer (some ⟨B, 0, none⟩), .pointer (some ⟨B + 1, 0, none⟩), .int .i64 (x : Int), v, .int .i64 i, .func (.func 33) #[] #[.pointer (some ⟨B + 1 + 1, 0, none⟩), .pointer (some ⟨B + 1 + 1 + 1, 0, none⟩)], .int .i64 (x : Int), undef, undef, undef, undef, undef], defers := [] }

set_option maxRecDepth 100000 in
set_option maxHeartbeats 8000000 in
theorem kid_any (v : Value) (l : List Nd) (i k : Int) (hk1 : -9223372036854775808 ≤ k) (hk2 : k ≤ 9223372036854775807) (hn : l.length ≤ 1000) (w : World) (h : NdRow w.heap.size w v l) :
    Calls Try.prog 12 #[v, .int .i64 i, .int .i64 k] w fun e w' => e = .returned (.int .i64 (kidI l i k)) ∧ Below w.heap.size w w' := by
  obtain ⟨o, cap, hv, -⟩ := h.form
  have HLEN := keep (kidsI_len l i)
  have HLN := keep hn
  have HZ := keep (fun (m : Nat) (hm : m ≤ 1000) => cnt_zero hk1 hk2 hm)
  have b0 := Boxed.new w 3 (.int .i64 k)
  have b1 := Boxed.new (w.alloc (.cells #[.int .i64 k] 3)) 3 (.int .i64 0)
  simp only [World.size_alloc] at b1
  obtain ⟨w1, hw1⟩ : ∃ w1, w1 = (w.alloc (.cells #[.int .i64 k] 3)).alloc (.cells #[.int .i64 0] 3) := ⟨_, rfl⟩
  have hs1 : w1.heap.size = w.heap.size + 1 + 1 := by rw [hw1]; simp
  have hb1 : Below w.heap.size w w1 := by rw [hw1]; exact ((Below.refl _ w).alloc (Nat.le_refl _) _).alloc (by simp) _
  have c0 : Boxed w1 w.heap.size 3 (.int .i64 k) := by rw [hw1]; exact b0.alloc _
  have c1 : Boxed w1 (w.heap.size + 1) 3 (.int .i64 0) := by rw [hw1]; exact b1
  obtain ⟨w3, hw3⟩ : ∃ w3, w3 = (w1.alloc (.cells #[v] 22)).alloc (.cells #[.int .i64 i] 3) := ⟨_, rfl⟩
  have hb3 : Below w.heap.size w w3 := by rw [hw3]; exact (hb1.alloc hb1.size _).alloc (by have := hb1.size; simp; omega) _
  have hl3 : w3.heap[w.heap.size + 1 + 1]? = some (.cells #[v] 22 (0, 0)) := by rw [hw3, ← hs1]; exact (Below.heap_alloc _ _ _ (by simp)).trans (World.alloc_heap_new w1 _)
  have hi3 : w3.heap[w.heap.size + 1 + 1 + 1]? = some (.cells #[.int .i64 i] 3 (0, 0)) := by rw [hw3, ← hs1]; have := World.alloc_heap_new (w1.alloc (.cells #[v] 22)) (.cells #[.int .i64 i] 3); rwa [World.size_alloc] at this
  have HSZ : Keep (w3.heap.size = w.heap.size + 4) := ⟨by rw [hw3]; simp [hs1]⟩
  have HI0 : Keep (KI w k [] w3) := ⟨by rw [hw3]; exact (c0.alloc _).alloc _, by rw [hw3]; exact (c1.alloc _).alloc _, hb3, fun j hj => by simp at hj⟩
  have HST := keep (kids_stops 3 (w.heap.size + 1 + 1) (w.heap.size + 1 + 1 + 1) w.heap.size v l i hn w3 (h.below hb3) hb3.size hl3 hi3)
  have HKS : Keep (Calls Try.prog 23 #[v, .int .i64 i] w1 fun e w' => e = .returned (.func (.func 33) #[] #[.pointer (some ⟨w.heap.size + 1 + 1, 0, none⟩), .pointer (some ⟨w.heap.size + 1 + 1 + 1, 0, none⟩)]) ∧ w' = w3) := ⟨by
    have := kids_any v i w1 ⟨o, _, cap, hv⟩
    rw [hs1, ← hw3] at this
    exact this⟩
  rw [hw1] at HKS
  have HGET := keep (fun (q x : Nat) (hq : k = (q : Int)) (hk : (kidsI l i)[q]? = some x) => show kidI l i k = (x : Int) by rw [hq]; exact kidI_get hk)
  have HOUT : Keep ((∀ j : Nat, j < (kidsI l i).length → k ≠ (j : Int)) → kidI l i k = -1) := ⟨fun hne => by
    by_cases hneg : k < 0
    · exact kidI_neg hneg
    · refine kidI_out ?_
      rcases Int.lt_or_le k ((kidsI l i).length : Int) with hlt | hge
      · exact absurd (by omega) (hne k.toNat (by omega))
      · exact hge⟩
  generalize kidI l i k = R at *
  generalize kidsI l i = M at *
  subst hv
  clear h hn hk1 hk2 b0 b1 hs1 hb1 c0 c1 hb3 hl3 hi3 hw3 hw1
  refine (callsIn_wide (n := 4)).1 ?_
  refine callsIn_of_wp_marks Try.func12 rfl trivial ?_ rfl
  simp only [Try.ntmps12, List.size_toArray, List.length_cons, List.length_nil, Nat.reduceAdd, Nat.reduceSub, Array.replicate_succ, Array.replicate_zero, List.push_toArray, List.append_toArray, List.nil_append, List.cons_append]
  gi_wp2_with (refine ⟨trivial, ?_⟩; gi_at_call 23; refine (callsIn_wide.2 HKS.out).mono ?_; rintro e w' ⟨rfl, rfl⟩)
  refine wpIn_rangeFunc_ownH (n := 4) rfl (by omega) (gf := 33) (lb := #[.pointer (some ⟨w.heap.size + 1 + 1, 0, none⟩), .pointer (some ⟨w.heap.size + 1 + 1 + 1, 0, none⟩)]) rfl trivial (enters_of Try.func33 (by kernel_rfl) rfl)
    HST.out (fun h1 h2 => KpN.trans h1 h2) (fun W l o o' h1 _ _ _ => ?kp) (Below.refl _ _) (fun _ => rfl)
    (KI w k) (KX w k) (KI.own w w' k (by rw [HSZ.out]; omega)) (fun c => KX.own w w' k c (by rw [HSZ.out]; omega)) HI0.out (fun x a' _ => a' = actK (.slice o l.length cap) i k w.heap.size x) (fun _ _ _ _ _ _ hs _ _ => hs) ?assign ?body ?done ?stop
  case kp =>
    have hsz := HSZ.out
    exact ⟨fun k hk => World.putObj_heap_other (by omega), World.putObj_heap_other (by omega), World.putObj_heap_other (by omega), by simp⟩
  case assign =>
    rintro L pre x W K hi hK
    dsimp only [encN]
    gi_wp2
    exact hK _ W (KeepsFrom.refl _ _) ⟨fun _ _ => rfl, rfl, rfl, Nat.le_refl _⟩ hi rfl
  case body =>
    rintro L pre x a' W hl _ ⟨h0, h1, hB, hne⟩ rfl hlt
    unfold actK
    have hc0 := h0.cell
    have hc1 := h1.cell
    have hf0 := h0.frozen
    have hf1 := h1.frozen
    have H0 := keep h0
    have H1 := keep h1
    have HB := keep hB
    have HNE := keep hne
    have hzz := HZ.out pre.length (by have := HLEN.out; have := HLN.out; omega)
    have HCN : Keep (cnt k (pre ++ [x]).length = IntKind.i64.wrap (cnt k pre.length - 1)) := ⟨by rw [List.length_append]; rfl⟩
    have HPL : Keep (∃ m, m = pre.length) := ⟨_, rfl⟩
    obtain ⟨A, hA⟩ : ∃ A, A = cnt k pre.length := ⟨_, rfl⟩
    have HA := keep hA
    rw [← hA] at hc0 H0 HCN hzz
    have HZZ := keep hzz
    clear h0 h1 hB hne hl hlt hA hzz
    by_cases hx : A = 0
    · have hb : (A == 0) = true := by simp [hx]
      have HX := keep (HZZ.out.1 hx)
      clear hx
      gi_wp2
      refine ⟨(KeepsOthers.setCell _ _ _).from _, rfl, pre, x, rfl, HX.out, H1.out.set _, ?_⟩
      exact HB.out.setCell (p := ⟨w.heap.size + 1, 0, none⟩) (by simp) _
    · have hb : (A == 0) = false := by simpa using hx
      have HX := keep (fun e => hx (HZZ.out.2 e))
      clear hx
      gi_wp2
      refine ⟨(KeepsOthers.setCell _ _ _).from _, ⟨fun q hq => heap_setCell_other _ _ _ _ (by simp; omega), heap_setCell_other _ _ _ _ (by simp; omega), heap_setCell_other _ _ _ _ (by simp; omega), by simp⟩, ?_, H1.out.other (by omega) _, ?_, ?_⟩
      · rw [HCN.out, IntWalk.i64_left]; exact H0.out.set _
      · exact HB.out.setCell (p := ⟨w.heap.size, 0, none⟩) (by simp) _
      · intro j hj
        rw [List.length_append] at hj
        rcases Nat.lt_or_ge j pre.length with h | h
        · exact HNE.out j h
        · have : j = pre.length := by simp at hj; omega
          rw [this]; exact HX.out
  case done =>
    rintro D zs W hD rfl ⟨h0, h1, hB, hne⟩ hK
    have HE := keep (HOUT.out hne)
    have hc1 := h1.cell
    have hf1 := h1.frozen
    have HDB : Keep (w.heap.size + 3 < D) := ⟨by have := HSZ.out; omega⟩
    have H1 := keep h1
    have HB := keep hB
    have HK := keep hK
    clear h0 h1 hB hne hK hD
    gi_wp2
    have HDB := HDB.out
    have hK3 : (W.setCell ⟨w.heap.size + 1, 0, none⟩ (.int .i64 (-1))).heap[D]? = some (.deferred (some [])) := (heap_setCell_other _ _ _ _ (by simp; omega)).trans HK.out
    have c1 := ret_cell (H1.out.set (.int .i64 (-1))) hK3
    have hB3 := HB.out.setCell (p := ⟨w.heap.size + 1, 0, none⟩) (by simp) (.int .i64 (-1))
    refine ⟨by simp, .inl ⟨_, _, rfl, run_takeDeferred hK3, ?_⟩⟩
    refine ⟨.int .i64 (-1), ?_, by rw [HE.out], hB3.trans (belowK_b (w := w) (Nat.le_refl _) _ D _ _ (by omega) hK3 rfl rfl)⟩
    simp [results, Try.f12, go_sem, c1]
  case stop =>
    rintro D c pre W hD hp ⟨rfl, p, x, rfl, hx, h1, hB⟩ hK
    have hget : M[p.length]? = some x := by
      obtain ⟨t, ht⟩ := hp
      rw [← ht]; simp
    have HE := keep (HGET.out p.length x hx hget)
    have HDB : Keep (w.heap.size + 3 < D) := ⟨by have := HSZ.out; omega⟩
    have c1 := ret_cell h1 hK
    gi_wp2
    refine ⟨by simp, .inl ⟨_, _, rfl, run_takeDeferred hK, ?_⟩⟩
    refine ⟨.int .i64 (x : Int), ?_, by rw [HE.out], hB.trans (belowK_b (w := w) (Nat.le_refl _) _ D _ _ (by have := HDB.out; omega) hK rfl rfl)⟩
    simp [results, Try.f12, go_sem, c1]
end Go.Proofs.Ytgodjgbdjgiapaa
