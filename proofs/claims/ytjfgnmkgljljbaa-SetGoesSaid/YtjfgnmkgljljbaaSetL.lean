/-
  The laws' own: the chapter's example told by the program.
-/
import Derived.Test.YtjfgnmkgljljbaaSetI
namespace Go.Proofs.Ytjfgnmkgljljbaa
open Go.RowKit

/-- What a law leaves alone: all that was there. -/
theorem SAt.step {w W W' : World} {d : Nat} (hb : Below w.heap.size w W) (hd : w.heap.size ≤ d) (hg : W.grownBy W' (some d)) : Below w.heap.size w W' := hb.trans (grown_below hg hd hb.size)

set_option maxHeartbeats 1000000 in
theorem live_any (w : World) : Calls Try.prog 7 #[] w fun e w' => e = .returned (.bool true) ∧ Below w.heap.size w w' := by
  have HR : Keep (RowAt EV (w.alloc (.cells #[EV 3, EV 1, EV 3] 3)).heap.size (w.alloc (.cells #[EV 3, EV 1, EV 3] 3)) (.slice (some ⟨w.heap.size, 0, none⟩) 3 3) [3, 1, 3]) := ⟨by simp, .inr ⟨w.heap.size, 0, 3, rfl, by simp, fun i x hi => by
    rw [World.cell?_alloc_new]
    match i, hi with
    | 0, hi => cases hi; rfl
    | 1, hi => cases hi; rfl
    | 2, hi => cases hi; rfl⟩⟩
  have HOF := keep (of_any HR.out (by simp))
  rw [show rowOf lt' [3, 1, 3] = [1, 3] from by decide] at HOF
  have HB0 := keep ((Below.refl _ w).alloc (Nat.le_refl _) (.cells #[EV 3, EV 1, EV 3] 3))
  clear HR
  go_enter Try.func7, Try.ntmps7
  go_wp2_with fail
  refine HOF.out.mono ?_
  rintro e w1 ⟨⟨d, rfl, hd, hs⟩, hb⟩
  have HS := keep hs
  have HD : Keep (w.heap.size ≤ d) := ⟨Nat.le_trans (by simp) hd⟩
  have HB := keep (HB0.out.trans (hb.mono (by simp)))
  clear hs hd hb HOF HB0
  have HL : Keep (Calls Try.prog 21 #[.pointer (some ⟨d, 0, none⟩)] w1 fun e w' => e = .returned (.int .i64 2) ∧ w1 = w') := keep (len_any HS.out.sv)
  go_wp2_with fail
  refine HL.out.mono ?_
  rintro e w' ⟨rfl, rfl⟩
  clear HL
  have HF : Keep (Calls Try.prog 16 #[.pointer (some ⟨d, 0, none⟩), .int .i64 2] w1 fun e w' => e = .returned (.int .i64 1) ∧ w1 = w') := keep (from_any 2 HS.out.sv (by simp))
  go_wp2_with fail
  refine HF.out.mono ?_
  rintro e w' ⟨rfl, rfl⟩
  clear HF
  go_wp2_with fail
  refine (has_in 3 HS.out.sv (by simp) (by simp)).mono ?_
  rintro e w' ⟨rfl, rfl⟩
  go_wp2_with fail
  refine (del_in 3 HS.out (by simp) (by simp)).mono ?_
  rintro e w2 ⟨rfl, hs, hg⟩
  rw [show del lt' 3 [1, 3] = [1] from by decide] at hs
  have HS2 := keep hs
  have HB2 := keep (SAt.step HB.out HD.out hg)
  clear hs hg
  go_wp2_with fail
  refine (has_out 3 HS2.out.sv (by simp) (by simp)).mono ?_
  rintro e w' ⟨rfl, rfl⟩
  go_wp2_with fail
  go_ret
  exact ⟨rfl, HB2.out⟩

/-- Whether it is there. -/
theorem has_any {a : Option Addr} {l : List Int} {w : World} (x : Int) (h : SV a l w) (hl : l.length ≤ 1000000) :
    Calls Try.prog 15 #[.pointer a, EV x] w fun e w' => e = .returned (.bool (decide (x ∈ l))) ∧ w = w' := by
  by_cases hx : x ∈ l
  · rw [decide_eq_true hx]; exact has_in x h hl hx
  · rw [decide_eq_false hx]; exact has_out x h hl hx
end Go.Proofs.Ytjfgnmkgljljbaa
