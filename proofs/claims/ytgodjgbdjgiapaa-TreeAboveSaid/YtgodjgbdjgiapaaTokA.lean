/-
  The program's and the document's tests of a byte; how many bytes are of a kind; what is skipped.
-/
import Derived.Test.YtgodjgbdjgiapaaTokM
import Derived.Test.YtgodjgbdjgiapaaChecked
import Derived.Test.YtgodjgbdjgiapaaSpotA
import Derived.BigQuiet
import Derived.Deep.QuietTactic
namespace Go.Proofs.Ytgodjgbdjgiapaa
open Go.RowKit

theorem isL_lo {c : Int} (h : 97 ≤ c) (h2 : c ≤ 122) : isL c = true := by simp [isL, h, h2]
theorem isL_up {c : Int} (h : 65 ≤ c) (h2 : c ≤ 90) : isL c = true := by simp [isL, h, h2]
theorem isL_no {c : Int} (h : c < 65 ∨ (90 < c ∧ c < 95) ∨ 122 < c) : isL c = false := by
  unfold isL
  have h1 : ¬ (97 ≤ c ∧ c ≤ 122) := by omega
  have h2 : ¬ (65 ≤ c ∧ c ≤ 90) := by omega
  have h3 : ¬ c = 95 := by omega
  simp [h1, h2, h3]
theorem letter_ways (c : Int) : (97 ≤ c ∧ c ≤ 122) ∨ (65 ≤ c ∧ c ≤ 90) ∨ c = 95 ∨ c < 65 ∨ (90 < c ∧ c < 95) ∨ c = 96 ∨ 122 < c := by omega

set_option maxHeartbeats 1000000 in
theorem letter_any (c : Int) (w : World) : Calls Try.prog 55 #[.int .u8 c] w fun e w' => e = .returned (.bool (isL c)) ∧ w = w' := by
  rcases letter_ways c with ⟨h, h2⟩ | ⟨h, h2⟩ | rfl | h | ⟨h, h2⟩ | rfl | h
  · rw [isL_lo h h2]
    go_enter Try.func55, Try.ntmps55
    go_wp2
    go_ret
    exact ⟨rfl, rfl⟩
  · rw [isL_up h h2]
    go_enter Try.func55, Try.ntmps55
    go_wp2
    go_ret
    exact ⟨rfl, rfl⟩
  · rw [show isL 95 = true by decide]
    go_enter Try.func55, Try.ntmps55
    go_wp2
    go_ret
    exact ⟨rfl, rfl⟩
  · rw [isL_no (.inl h)]
    have hne : (c == 95) = false := by simp; omega
    go_enter Try.func55, Try.ntmps55
    go_wp2
    go_ret
    exact ⟨rfl, rfl⟩
  · rw [isL_no (.inr (.inl ⟨h, h2⟩))]
    have hne : (c == 95) = false := by simp; omega
    have hd : decide (c ≤ 90) = false := by simp; omega
    go_enter Try.func55, Try.ntmps55
    go_wp2
    go_ret
    exact ⟨rfl, rfl⟩
  · rw [show isL 96 = false by decide]
    go_enter Try.func55, Try.ntmps55
    go_wp2
    go_ret
    exact ⟨rfl, rfl⟩
  · rw [isL_no (.inr (.inr h))]
    have hne : (c == 95) = false := by simp; omega
    have hd : decide (c ≤ 90) = false := by simp; omega
    have hd2 : decide (c ≤ 122) = false := by simp; omega
    go_enter Try.func55, Try.ntmps55
    go_wp2
    go_ret
    exact ⟨rfl, rfl⟩

set_option maxHeartbeats 1000000 in
theorem digit_any (c : Int) (w : World) : Calls Try.prog 57 #[.int .u8 c] w fun e w' => e = .returned (.bool (isD c)) ∧ w = w' := by
  by_cases h1 : 48 ≤ c
  · by_cases h2 : c ≤ 57
    · rw [show isD c = true by simp [isD, h1, h2]]
      go_enter Try.func57, Try.ntmps57
      go_wp2
      go_ret
      exact ⟨rfl, rfl⟩
    · rw [show isD c = false by simp [isD, h1, h2]]
      go_enter Try.func57, Try.ntmps57
      go_wp2
      go_ret
      exact ⟨rfl, rfl⟩
  · rw [show isD c = false by simp [isD, h1]]
    go_enter Try.func57, Try.ntmps57
    go_wp2
    go_ret
    exact ⟨rfl, rfl⟩

set_option maxHeartbeats 1000000 in
theorem inName_any (c : Int) (w : World) : Calls Try.prog 61 #[.int .u8 c] w fun e w' => e = .returned (.bool (isN c)) ∧ w = w' := by
  have HL := keep (letter_any c)
  have HD := keep (digit_any c)
  unfold isN
  generalize isL c = p at *
  generalize isD c = q at *
  cases p with
  | true =>
    go_enter Try.func61, Try.ntmps61
    go_wp2_with (go_at_call 55; refine (HL.out _).mono ?_; rintro e w' ⟨rfl, rfl⟩)
    go_ret
    exact ⟨rfl, rfl⟩
  | false =>
    go_enter Try.func61, Try.ntmps61
    go_wp2_with (first
      | (go_at_call 55; refine (HL.out _).mono ?_; rintro e w' ⟨rfl, rfl⟩)
      | (go_at_call 57; refine (HD.out _).mono ?_; rintro e w' ⟨rfl, rfl⟩))
    go_ret
    exact ⟨rfl, rfl⟩

/-! ### The document's -/
set_option maxHeartbeats 1000000 in
theorem rletter_any (c : Int) (w : World) : Calls Try.prog 50 #[.int .u8 c] w fun e w' => e = .returned (.bool (isL c)) ∧ w = w' := by
  rcases letter_ways c with ⟨h, h2⟩ | ⟨h, h2⟩ | rfl | h | ⟨h, h2⟩ | rfl | h
  · rw [isL_lo h h2]
    go_enter Try.func50, Try.ntmps50
    go_wp2
    go_ret
    exact ⟨rfl, rfl⟩
  · rw [isL_up h h2]
    go_enter Try.func50, Try.ntmps50
    go_wp2
    go_ret
    exact ⟨rfl, rfl⟩
  · rw [show isL 95 = true by decide]
    go_enter Try.func50, Try.ntmps50
    go_wp2
    go_ret
    exact ⟨rfl, rfl⟩
  · rw [isL_no (.inl h)]
    have hne : (c == 95) = false := by simp; omega
    go_enter Try.func50, Try.ntmps50
    go_wp2
    go_ret
    exact ⟨rfl, rfl⟩
  · rw [isL_no (.inr (.inl ⟨h, h2⟩))]
    have hne : (c == 95) = false := by simp; omega
    have hd : decide (c ≤ 90) = false := by simp; omega
    go_enter Try.func50, Try.ntmps50
    go_wp2
    go_ret
    exact ⟨rfl, rfl⟩
  · rw [show isL 96 = false by decide]
    go_enter Try.func50, Try.ntmps50
    go_wp2
    go_ret
    exact ⟨rfl, rfl⟩
  · rw [isL_no (.inr (.inr h))]
    have hne : (c == 95) = false := by simp; omega
    have hd : decide (c ≤ 90) = false := by simp; omega
    have hd2 : decide (c ≤ 122) = false := by simp; omega
    go_enter Try.func50, Try.ntmps50
    go_wp2
    go_ret
    exact ⟨rfl, rfl⟩

set_option maxHeartbeats 1000000 in
theorem rdigit_any (c : Int) (w : World) : Calls Try.prog 51 #[.int .u8 c] w fun e w' => e = .returned (.bool (isD c)) ∧ w = w' := by
  by_cases h1 : 48 ≤ c
  · by_cases h2 : c ≤ 57
    · rw [show isD c = true by simp [isD, h1, h2]]
      go_enter Try.func51, Try.ntmps51
      go_wp2
      go_ret
      exact ⟨rfl, rfl⟩
    · rw [show isD c = false by simp [isD, h1, h2]]
      go_enter Try.func51, Try.ntmps51
      go_wp2
      go_ret
      exact ⟨rfl, rfl⟩
  · rw [show isD c = false by simp [isD, h1]]
    go_enter Try.func51, Try.ntmps51
    go_wp2
    go_ret
    exact ⟨rfl, rfl⟩

theorem hfk_aux {f : FuncId} {c : Int} {a q : Bool} (h : ∀ w, Calls Try.prog f #[.int .u8 c] w fun e w' => e = .returned (.bool a) ∧ w = w') (e : a = q) : ∀ w, Calls Try.prog f #[.int .u8 c] w fun e w' => e = .returned (.bool q) ∧ w = w' := e ▸ h

set_option maxHeartbeats 2000000 in
/-- A function that tests a byte. -/
theorem span_any (p : Int → Bool) (f : FuncId) (hk : ∀ args w, (callFunc f args).run Try.prog w = .ok (.enter f args) w)
    (hf : ∀ (c : Int) (w : World), Calls Try.prog f #[.int .u8 c] w fun e w' => e = .returned (.bool (p c)) ∧ w = w')
    (l : List UInt8) (hs : l.length ≤ 9223372036854775807) (w : World) : Calls Try.prog 60 #[.string (str l), .func (.func f) #[] #[]] w fun e w' => e = .returned (.int .i64 (spn p l)) ∧ w = w' := by
  have hz : (str l).size = l.length := str_size l
  have hdat := str_data l
  have hsI : ((str l).size : Int) ≤ 9223372036854775807 := by omega
  have HD : Keep (∀ k, k < (str l).size → ∃ b t, l.drop k = b :: t ∧ ob b = bt (str l) k) := ⟨fun k hlt => by
    obtain ⟨b, hb1, hb2⟩ := drop_bt (str l) hlt
    rw [hdat] at hb1
    exact ⟨b, _, hb1, hb2⟩⟩
  have HE : Keep (l.drop (str l).size = []) := ⟨List.drop_eq_nil_of_le (by omega)⟩
  have HL := keep (spn_le p l)
  have HZ := keep hz
  have H0 : Keep (0 + spn p (l.drop 0) = spn p l) := ⟨by simp⟩
  generalize str l = s at *
  have HF := keep hf
  clear hf hz hdat hs
  go_enter Try.func60, Try.ntmps60
  go_wp2_with fail
  go_loop [5] (fun iv => ∃ k : Nat, iv = .int .i64 (k : Int) ∧ k ≤ s.size ∧ Keep (k + spn p (l.drop k) = spn p l)) (fun iv => s.size - (intOf iv).toNat)
  case atStart => exact ⟨0, rfl, Nat.zero_le _, H0⟩
  case round =>
    obtain ⟨k, rfl, hk, HK⟩ := hrel
    clear H0
    by_cases hlt : k < s.size
    · obtain ⟨b, t, hb1, hb2⟩ := HD.out k hlt
      have hltI : (k : Int) < (s.size : Int) := by omega
      have hgb := get_bt s
      have HB1 := keep hb1
      have HPB := keep (show p (bt s k) = p (ob b) by rw [hb2])
      clear hb1 hb2
      generalize hq : p (ob b) = q at *
      have HQ := keep hq
      clear hq
      have HFK := keep (hfk_aux (HF.out (bt s k)) HPB.out)
      cases q with
      | true =>
        have HN := keep (spn_step HB1.out HK.out HQ.out)
        go_wp2_with fail
        refine (HFK.out _).mono ?_
        rintro e w' ⟨rfl, rfl⟩
        go_wp2_with fail
        go_round
        case rel => exact ⟨k + 1, by go_num, by omega, HN⟩
        case measure => simp [intOf]; omega
      | false =>
        have HN := keep (spn_stop HB1.out HK.out HQ.out)
        go_wp2_with fail
        refine (HFK.out _).mono ?_
        rintro e w' ⟨rfl, rfl⟩
        go_wp2_with fail
        go_ret
        exact ⟨ret_int (by rw [HN.out]), rfl⟩
    · obtain rfl : k = s.size := by omega
      have HN := keep (spn_end HE.out HK.out)
      go_wp2_with fail
      go_ret
      exact ⟨ret_int (by rw [← HN.out]), rfl⟩
end Go.Proofs.Ytgodjgbdjgiapaa
