/-
  The program's signs, its pieces and Name.
-/
import Derived.Test.YtgodjgbdjgiapaaTokC
namespace Go.Proofs.Ytgodjgbdjgiapaa
open Go.RowKit

theorem pcSign_of {l : List UInt8} {n : Nat} {e : Ending} (h : sgn (byteAt l 0) (byteAt l 1) = n) (he : PcIs (if n = 0 then (0, 0, 10) else (4, n, 0)) e) : PcIs (pcSign l) e := by
  unfold pcSign; rw [h]; exact he
theorem sgn_ways (c : Int) : (c = 38 ∨ c = 124) ∨ (c = 61 ∨ c = 33 ∨ c = 60 ∨ c = 62) ∨ (c = 123 ∨ c = 125 ∨ c = 40 ∨ c = 41 ∨ c = 91 ∨ c = 93 ∨ c = 59 ∨ c = 44 ∨ c = 58 ∨ c = 63 ∨ c = 43 ∨ c = 45 ∨ c = 42 ∨ c = 47 ∨ c = 37) ∨
    (c ≠ 38 ∧ c ≠ 124 ∧ c ≠ 61 ∧ c ≠ 33 ∧ c ≠ 60 ∧ c ≠ 62 ∧ c ≠ 123 ∧ c ≠ 125 ∧ c ≠ 40 ∧ c ≠ 41 ∧ c ≠ 91 ∧ c ≠ 93 ∧ c ≠ 59 ∧ c ≠ 44 ∧ c ≠ 58 ∧ c ≠ 63 ∧ c ≠ 43 ∧ c ≠ 45 ∧ c ≠ 42 ∧ c ≠ 47 ∧ c ≠ 37) := by omega

set_option maxHeartbeats 4000000 in
theorem sign_any (l : List UInt8) (h0 : l ≠ []) (hs : l.length ≤ 9223372036854775807) (w : World) : Calls Try.prog 59 #[.string (str l)] w fun e w' => PcIs (pcSign l) e ∧ w = w' := by
  have hlen : 0 < l.length := List.length_pos_iff.2 h0
  have hz : (str l).size = l.length := str_size l
  have hg := get_bt (str l)
  have hg0 := bt_at l hlen
  have HP := keep (fun n e h he => pcSign_of (l := l) (n := n) (e := e) h he)
  have hb0 : 0 ≤ byteAt l 0 := by rw [← hg0]; exact (bt_bd _ _).1
  have HF1 := keep (fun w => follows_any l (byteAt l 0) hb0 hs w)
  have HF2 := keep (fun w => follows_any l 61 (by decide) hs w)
  generalize str l = s at *
  generalize pcSign l = P at *
  generalize byteAt l 0 = c at *
  generalize byteAt l 1 = d at *
  have hs0 : (0 : Int) < (s.size : Int) := by omega
  obtain ⟨q, hq⟩ : ∃ q, (d == c) = q := ⟨_, rfl⟩
  obtain ⟨r, hr⟩ : ∃ r, (d == 61) = r := ⟨_, rfl⟩
  rw [hq] at HF1
  rw [hr] at HF2
  have HQ := keep hq
  have HR := keep hr
  clear hs hz hlen h0 hb0 hq hr
  rcases sgn_ways c with (rfl | rfl) | (rfl | rfl | rfl | rfl) | (rfl | rfl | rfl | rfl | rfl | rfl | rfl | rfl | rfl | rfl | rfl | rfl | rfl | rfl | rfl) | ⟨n1, n2, n3, n4, n5, n6, n7, n8, n9, n10, n11, n12, n13, n14, n15, n16, n17, n18, n19, n20, n21⟩
  iterate 2
    focus
      cases q with
      | true =>
        have HE := keep (HP.out 2 (.returned (.tuple #[.int .i64 4, .int .i64 2, .int .i64 0])) (by have h := HQ.out; simp at h; subst h; simp [sgn]) rfl)
        clear HP
        go_enter Try.func59, Try.ntmps59
        go_wp2_with (go_at_call 63; refine (HF1.out _).mono ?_; rintro e w' ⟨rfl, rfl⟩)
        go_ret3
        exact ⟨HE.out, rfl⟩
      | false =>
        have HE := keep (HP.out 0 (.returned (.tuple #[.int .i64 0, .int .i64 0, .int .i64 10])) (by have h := HQ.out; simp at h; simp [sgn, h]) rfl)
        clear HP
        go_enter Try.func59, Try.ntmps59
        go_wp2_with (go_at_call 63; refine (HF1.out _).mono ?_; rintro e w' ⟨rfl, rfl⟩)
        go_ret3
        exact ⟨HE.out, rfl⟩
  iterate 4
    focus
      cases r with
      | true =>
        have HE := keep (HP.out 2 (.returned (.tuple #[.int .i64 4, .int .i64 2, .int .i64 0])) (by have h := HR.out; simp at h; subst h; simp [sgn]) rfl)
        clear HP
        go_enter Try.func59, Try.ntmps59
        go_wp2_with (go_at_call 63; refine (HF2.out _).mono ?_; rintro e w' ⟨rfl, rfl⟩)
        go_ret3
        exact ⟨HE.out, rfl⟩
      | false =>
        have HE := keep (HP.out 1 (.returned (.tuple #[.int .i64 4, .int .i64 1, .int .i64 0])) (by have h := HR.out; simp at h; simp [sgn, h]) rfl)
        clear HP
        go_enter Try.func59, Try.ntmps59
        go_wp2_with (go_at_call 63; refine (HF2.out _).mono ?_; rintro e w' ⟨rfl, rfl⟩)
        go_ret3
        exact ⟨HE.out, rfl⟩
  iterate 15
    focus
      have HE := keep (HP.out 1 (.returned (.tuple #[.int .i64 4, .int .i64 1, .int .i64 0])) (by simp [sgn]) rfl)
      clear HP
      go_enter Try.func59, Try.ntmps59
      go_wp2_with fail
      go_ret3
      exact ⟨HE.out, rfl⟩
  · have HE := keep (HP.out 0 (.returned (.tuple #[.int .i64 0, .int .i64 0, .int .i64 10])) (by simp [sgn, n1, n2, n3, n4, n5, n6, n7, n8, n9, n10, n11, n12, n13, n14, n15, n16, n17, n18, n19, n20, n21]) rfl)
    clear HP
    go_enter Try.func59, Try.ntmps59
    go_wp2_with fail
    go_ret3
    exact ⟨HE.out, rfl⟩
end Go.Proofs.Ytgodjgbdjgiapaa
