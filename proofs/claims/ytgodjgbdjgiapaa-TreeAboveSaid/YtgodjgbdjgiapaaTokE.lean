/-
  The program's pieces and Name.
-/
import Derived.Test.YtgodjgbdjgiapaaTokD
namespace Go.Proofs.Ytgodjgbdjgiapaa
open Go.RowKit

set_option maxHeartbeats 2000000 in
theorem piece_any (l : List UInt8) (hs : l.length ≤ 9223372036854775807) (w : World) : Calls Try.prog 54 #[.string (str l)] w fun e w' => PcIs (pc l) e ∧ w = w' := by
  have hl : (str l).toList = l := by rw [ByteArray.toList_eq, str_data]
  by_cases h0 : l = []
  · subst h0
    have HE : Keep (PcIs (pc []) (.returned (.tuple #[.int .i64 0, .int .i64 0, .int .i64 0]))) := ⟨rfl⟩
    generalize pc [] = P at *
    generalize str [] = s at *
    clear hs
    go_enter Try.func54, Try.ntmps54
    go_wp2_with fail
    go_ret3
    exact ⟨HE.out, rfl⟩
  · have hlen : 0 < l.length := List.length_pos_iff.2 h0
    have hz : (str l).size = l.length := str_size l
    have hg := get_bt (str l)
    have hg0 := bt_at l hlen
    have hne : (l == []) = false := by simpa using h0
    have HP : Keep (∀ e, PcIs (if isL (byteAt l 0) then pcName l else if isD (byteAt l 0) then pcNum l else pcSign l) e → PcIs (pc l) e) := ⟨fun e h => by unfold pc; rw [if_neg h0]; exact h⟩
    have HL := keep (letter_any (byteAt l 0))
    have HD := keep (digit_any (byteAt l 0))
    have HN := keep (name_any l hs)
    have HU := keep (number_any l h0 hs)
    have HS := keep (sign_any l h0 hs)
    unfold PcIs at HN HU HS
    generalize pcName l = PN at *
    generalize pcNum l = PU at *
    generalize pcSign l = PS at *
    generalize pc l = P at *
    generalize isL (byteAt l 0) = p at *
    generalize isD (byteAt l 0) = q at *
    generalize byteAt l 0 = c at *
    generalize str l = s at *
    have hs0 : (0 : Int) < (s.size : Int) := by omega
    clear hs hz hlen h0
    cases p with
    | true =>
      have HE := keep (HP.out _ rfl)
      clear HP
      go_enter Try.func54, Try.ntmps54
      go_wp2_with (first
        | (go_at_call 55; refine (HL.out _).mono ?_; rintro e w' ⟨rfl, rfl⟩)
        | (go_at_call 56; refine (HN.out _).mono ?_; rintro e w' ⟨rfl, rfl⟩))
      go_ret3
      exact ⟨HE.out, rfl⟩
    | false =>
      cases q with
      | true =>
        have HE := keep (HP.out _ rfl)
        clear HP
        go_enter Try.func54, Try.ntmps54
        go_wp2_with (first
          | (go_at_call 55; refine (HL.out _).mono ?_; rintro e w' ⟨rfl, rfl⟩)
          | (go_at_call 57; refine (HD.out _).mono ?_; rintro e w' ⟨rfl, rfl⟩)
          | (go_at_call 58; refine (HU.out _).mono ?_; rintro e w' ⟨rfl, rfl⟩))
        go_ret3
        exact ⟨HE.out, rfl⟩
      | false =>
        have HE := keep (HP.out _ rfl)
        clear HP
        go_enter Try.func54, Try.ntmps54
        go_wp2_with (first
          | (go_at_call 55; refine (HL.out _).mono ?_; rintro e w' ⟨rfl, rfl⟩)
          | (go_at_call 57; refine (HD.out _).mono ?_; rintro e w' ⟨rfl, rfl⟩)
          | (go_at_call 59; refine (HS.out _).mono ?_; rintro e w' ⟨rfl, rfl⟩))
        go_ret3
        exact ⟨HE.out, rfl⟩

/-- Is it a name? -/
def isName (l : List UInt8) : Bool := ((pc l).1 == 1) && ((pc l).2.1 == l.length)
set_option maxHeartbeats 1000000 in
theorem isname_any (l : List UInt8) (hs : l.length ≤ 9223372036854775807) (w : World) : Calls Try.prog 47 #[.string (str l)] w fun e w' => e = .returned (.bool (isName l)) ∧ w = w' := by
  have HP := keep (piece_any l hs)
  have hz : (str l).size = l.length := str_size l
  have hdef : isName l = (((pc l).1 == 1) && ((pc l).2.1 == l.length)) := rfl
  unfold PcIs at HP
  rw [hdef]
  generalize pc l = P at *
  obtain ⟨K, n, E⟩ := P
  simp only at HP hdef ⊢
  rw [← hz]
  generalize str l = s at *
  clear hdef hz hs
  obtain ⟨p, hp⟩ : ∃ p, (K == 1) = p := ⟨_, rfl⟩
  obtain ⟨q, hq⟩ : ∃ q, ((n : Int) == (s.size : Int)) = q := ⟨_, rfl⟩
  have HQ : Keep ((n == s.size) = q) := ⟨by rw [← hq, Bool.eq_iff_iff, beq_iff_eq, beq_iff_eq]; omega⟩
  rw [hp, HQ.out]
  cases p with
  | true =>
    go_enter Try.func47, Try.ntmps47
    go_wp2_with (go_at_call 54; refine (HP.out _).mono ?_; rintro e w' ⟨rfl, rfl⟩)
    go_ret
    exact ⟨rfl, rfl⟩
  | false =>
    go_enter Try.func47, Try.ntmps47
    go_wp2_with (go_at_call 54; refine (HP.out _).mono ?_; rintro e w' ⟨rfl, rfl⟩)
    go_ret
    exact ⟨rfl, rfl⟩
end Go.Proofs.Ytgodjgbdjgiapaa
