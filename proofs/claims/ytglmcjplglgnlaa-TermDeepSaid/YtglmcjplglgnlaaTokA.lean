/-
  The program's and the document's tests of a byte; how many bytes are of a kind; what is skipped.
-/
import Derived.Test.YtglmcjplglgnlaaTokM
import Derived.Test.YtglmcjplglgnlaaChecked
import Derived.Test.YtglmcjplglgnlaaSpotA
import Derived.BigQuiet
import Derived.Deep.QuietTactic
namespace Go.Proofs.Ytglmcjplglgnlaa
open Go.RowKit

theorem isL_lo {c : Int} (h : 97 ≤ c) (h2 : c ≤ 122) : isL c = true := by simp [isL, h, h2]
theorem isL_up {c : Int} (h : 65 ≤ c) (h2 : c ≤ 90) : isL c = true := by simp [isL, h, h2]
theorem isL_no {c : Int} (h : c < 65 ∨ (90 < c ∧ c < 95) ∨ 122 < c) : isL c = false := by
  unfold isL
  have h1 : ¬ (97 ≤ c ∧ c ≤ 122) := by omega
  have h2 : ¬ (65 ≤ c ∧ c ≤ 90) := by omega
  have h3 : ¬ c = 95 := by omega
  simp [h1, h2, h3]
theorem letter_ways (c : Int) : (97 ≤ c ∧ c ≤ 122) ∨ (65 ≤ c ∧ c ≤ 90) ∨ c = 95 ∨ c < 65 ∨ (90 < c ∧ c < 95) ∨ c = 96 ∨ 122 < c := by omega

/-! ### The document's -/
set_option maxHeartbeats 1000000 in
theorem rletter_any (c : Int) (w : World) : Calls Try.prog 34 #[.int .u8 c] w fun e w' => e = .returned (.bool (isL c)) ∧ w = w' := by
  rcases letter_ways c with ⟨h, h2⟩ | ⟨h, h2⟩ | rfl | h | ⟨h, h2⟩ | rfl | h
  · rw [isL_lo h h2]
    go_enter Try.func34, Try.ntmps34
    go_wp2
    go_ret
    exact ⟨rfl, rfl⟩
  · rw [isL_up h h2]
    go_enter Try.func34, Try.ntmps34
    go_wp2
    go_ret
    exact ⟨rfl, rfl⟩
  · rw [show isL 95 = true by decide]
    go_enter Try.func34, Try.ntmps34
    go_wp2
    go_ret
    exact ⟨rfl, rfl⟩
  · rw [isL_no (.inl h)]
    have hne : (c == 95) = false := by simp; omega
    go_enter Try.func34, Try.ntmps34
    go_wp2
    go_ret
    exact ⟨rfl, rfl⟩
  · rw [isL_no (.inr (.inl ⟨h, h2⟩))]
    have hne : (c == 95) = false := by simp; omega
    have hd : decide (c ≤ 90) = false := by simp; omega
    go_enter Try.func34, Try.ntmps34
    go_wp2
    go_ret
    exact ⟨rfl, rfl⟩
  · rw [show isL 96 = false by decide]
    go_enter Try.func34, Try.ntmps34
    go_wp2
    go_ret
    exact ⟨rfl, rfl⟩
  · rw [isL_no (.inr (.inr h))]
    have hne : (c == 95) = false := by simp; omega
    have hd : decide (c ≤ 90) = false := by simp; omega
    have hd2 : decide (c ≤ 122) = false := by simp; omega
    go_enter Try.func34, Try.ntmps34
    go_wp2
    go_ret
    exact ⟨rfl, rfl⟩

set_option maxHeartbeats 1000000 in
theorem rdigit_any (c : Int) (w : World) : Calls Try.prog 32 #[.int .u8 c] w fun e w' => e = .returned (.bool (isD c)) ∧ w = w' := by
  by_cases h1 : 48 ≤ c
  · by_cases h2 : c ≤ 57
    · rw [show isD c = true by simp [isD, h1, h2]]
      go_enter Try.func32, Try.ntmps32
      go_wp2
      go_ret
      exact ⟨rfl, rfl⟩
    · rw [show isD c = false by simp [isD, h1, h2]]
      go_enter Try.func32, Try.ntmps32
      go_wp2
      go_ret
      exact ⟨rfl, rfl⟩
  · rw [show isD c = false by simp [isD, h1]]
    go_enter Try.func32, Try.ntmps32
    go_wp2
    go_ret
    exact ⟨rfl, rfl⟩

theorem hfk_aux {f : FuncId} {c : Int} {a q : Bool} (h : ∀ w, Calls Try.prog f #[.int .u8 c] w fun e w' => e = .returned (.bool a) ∧ w = w') (e : a = q) : ∀ w, Calls Try.prog f #[.int .u8 c] w fun e w' => e = .returned (.bool q) ∧ w = w' := e ▸ h

end Go.Proofs.Ytglmcjplglgnlaa
