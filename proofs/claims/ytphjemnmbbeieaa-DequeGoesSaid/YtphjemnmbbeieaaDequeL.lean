/-
  The laws' own: the chapter's example told by the program; whether there are too many; a slice of texts at any place.
-/
import Derived.Test.YtphjemnmbbeieaaDequeG
import Derived.Test.YtphjemnmbbeieaaDequeIG
namespace Go.Proofs.Ytphjemnmbbeieaa
open Go.RowKit

/-- A new deque. -/
theorem DQ.new (w : World) : DQ w.heap.size none [] (w.alloc (.cells #[.slice none 0 0, .int .i64 0, .int .i64 0] 27)) := ⟨.inl ⟨rfl, rfl, heap_alloc_new w _⟩⟩
theorem I.DQ.new (w : World) : I.DQ w.heap.size none [] (w.alloc (.cells #[.slice none 0 0, .int .i64 0, .int .i64 0] 51)) := ⟨.inl ⟨rfl, rfl, heap_alloc_new w _⟩⟩

set_option maxHeartbeats 1000000 in
theorem live_any (w : World) : Calls Try.prog 8 #[] w fun e w' => e = .returned (.bool true) ∧ Below w.heap.size w w' := by
  have HQ0 := keep (I.DQ.new w)
  have HB0 := keep ((Below.refl _ w).alloc (Nat.le_refl _) (.cells #[.slice none 0 0, .int .i64 0, .int .i64 0] 51))
  have HS : Keep (w.heap.size ≤ (w.alloc (.cells #[.slice none 0 0, .int .i64 0, .int .i64 0] 51)).heap.size) := ⟨by simp⟩
  obtain ⟨d, hd⟩ : ∃ d, d = w.heap.size := ⟨_, rfl⟩
  rw [← hd] at HQ0
  have HD := keep hd
  clear hd
  go_enter Try.func8, Try.ntmps8
  go_wp2_with fail
  rw [← HD.out]
  generalize (w.alloc (.cells #[.slice none 0 0, .int .i64 0, .int .i64 0] 51)) = w0 at *
  refine (I.push_any d none [] 1 w0 HQ0.out (by simp)).mono ?_
  rintro e w1 ⟨rfl, r1, hq, hk⟩
  have HQ1 := keep hq
  have HK1 := keep hk
  clear hq hk
  go_wp2_with fail
  refine (I.push_any d r1 _ 2 w1 HQ1.out (by simp)).mono ?_
  rintro e w2 ⟨rfl, r2, hq, hk⟩
  have HQ2 := keep hq
  have HK2 := keep (HK1.out.trans hk)
  clear hq hk
  go_wp2_with fail
  refine (I.shove_any d r2 _ 0 w2 HQ2.out (by simp)).mono ?_
  rintro e w3 ⟨rfl, r3, hq, hk⟩
  have HQ3 := keep hq
  have HK3 := keep (HK2.out.trans hk)
  clear hq hk
  go_wp2_with fail
  refine (I.pop_some d r3 _ 0 w3 HQ3.out).mono ?_
  rintro e w4 ⟨rfl, r4, hq, hk⟩
  have HQ4 := keep hq
  have HK4 := keep (HK3.out.trans hk)
  clear hq hk
  go_wp2_with fail
  refine (I.drop_some d r4 [1] 2 w4 HQ4.out).mono ?_
  rintro e w5 ⟨rfl, r5, hq, hk⟩
  have HQ5 := keep hq
  have HK5 := keep (HK4.out.trans hk)
  clear hq hk
  obtain ⟨_, _, _, hb, _⟩ := HQ5.out.box
  obtain ⟨_, _, c2, _⟩ := hb.cells
  have HL : Keep (Calls Try.prog 25 #[.pointer (some ⟨d, 0, none⟩)] w5 fun e w' => e = .returned (.int .i64 1) ∧ w5 = w') := keep (I.len_any d 1 w5 c2)
  clear hb c2
  go_wp2_with fail
  refine HL.out.mono ?_
  rintro e w' ⟨rfl, rfl⟩
  go_wp2_with fail
  go_ret
  exact ⟨rfl, HB0.out.trans (HK5.out.below (by rw [HD.out]; exact Nat.le_refl _) (fun k e => by cases e) HS.out)⟩
end Go.Proofs.Ytphjemnmbbeieaa
