/-
  The chapter's example.
-/
import Derived.Test.YtghgahcgbnpidaaFrameC
namespace Go.Proofs.Ytghgahcgbnpidaa
open Go.RowKit

theorem live_nx : nx (str (frB ⟨1, ⟨#[97]⟩⟩)) 0 = (⟨1, ⟨#[97]⟩⟩, 7, 0) := by
  have h := nx_put (s := str (frB ⟨1, ⟨#[97]⟩⟩)) (A := []) (B := []) (f := ⟨1, ⟨#[97]⟩⟩) ⟨by decide, by decide, by decide⟩ (by rw [str_data]; simp)
  have e : ([] : List UInt8).length + ln ⟨1, ⟨#[97]⟩⟩ = 7 := by decide
  rw [e] at h
  exact h

set_option maxHeartbeats 1000000 in
theorem live_any (w : World) : Calls Try.prog 9 #[] w fun e w' => e = .returned (.bool true) ∧ Below w.heap.size w w' := by
  have HP0 := fun W => fput_ok ⟨1, ⟨#[97]⟩⟩ W ⟨by decide, by decide, by decide⟩ (by decide)
  have hz : (str (frB ⟨1, ⟨#[97]⟩⟩)).size = 7 := by rw [str_size, frB_len]; decide
  have HN0 := fun W => fnext_in (str (frB ⟨1, ⟨#[97]⟩⟩)) 0 W (by omega) (by omega)
  rw [live_nx] at HN0
  generalize str (frB ⟨1, ⟨#[97]⟩⟩) = p at *
  unfold Fr.agg at HP0
  unfold nxT Fr.agg at HN0
  have HP := keep HP0
  have HN := keep HN0
  clear HP0 HN0
  go_enter Try.func9, Try.ntmps9
  go_wp2_with fail
  refine (HP.out w).mono ?_
  rintro e w1 ⟨rfl, hb⟩
  have HB1 := keep hb
  clear hb
  go_wp2_with fail
  refine (HN.out _).mono ?_
  rintro e w2 ⟨rfl, hb⟩
  have HB2 := keep (HB1.out.trans (hb.mono HB1.out.size))
  clear hb
  go_wp2_with fail
  go_ret
  exact ⟨rfl, HB2.out.alloc HB2.out.size _⟩
end Go.Proofs.Ytghgahcgbnpidaa
