/-
  The program's Word, and the pieces: names, numbers, signs; Name.
-/
import Derived.Test.YtgodjgbdjgiapaaTokB
namespace Go.Proofs.Ytgodjgbdjgiapaa
open Go.RowKit

set_option maxHeartbeats 4000000 in
theorem word_any (l : List UInt8) (w : World) : Calls Try.prog 62 #[.string (str l)] w fun e w' => e = .returned (.bool (isW l)) ∧ w = w' := by
  have hl : (str l).toList = l := by rw [ByteArray.toList_eq, str_data]
  generalize str l = s at *
  go_enter Try.func62, Try.ntmps62
  go_wp2_with fail
  all_goals
    go_ret
    exact ⟨ret_bool (by simp_all [isW, wordsL]), rfl⟩

theorem bt_at (l : List UInt8) {k : Nat} (h : k < l.length) : bt (str l) k = byteAt l k := by
  have h' : k < (str l).size := by rw [str_size]; exact h
  obtain ⟨b, h1, h2⟩ := drop_bt (str l) h'
  rw [str_data] at h1
  have : l[k]? = some b := by rw [← List.head?_drop, h1]; rfl
  unfold byteAt
  rw [← h2, this]; rfl
theorem at_end (l : List UInt8) {k : Nat} (h : l.length ≤ k) : byteAt l k = -1 := by unfold byteAt; rw [List.getElem?_eq_none h]
theorem at_bd (l : List UInt8) (k : Nat) : -1 ≤ byteAt l k ∧ byteAt l k ≤ 255 := by
  unfold byteAt
  cases l[k]? with
  | none => simp
  | some b => have := b.toNat_lt; simp only [ob]; omega

/-- A piece is told. -/
def PcIs (x : Int × Nat × Int) (e : Ending) : Prop := e = .returned (.tuple #[.int .i64 x.1, .int .i64 (x.2.1 : Int), .int .i64 x.2.2])

set_option maxHeartbeats 2000000 in
theorem name_any (l : List UInt8) (hs : l.length ≤ 9223372036854775807) (w : World) : Calls Try.prog 56 #[.string (str l)] w fun e w' => PcIs (pcName l) e ∧ w = w' := by
  have HS := keep (fun w => span_any isN 61 (fun _ _ => rfl) inName_any l hs w)
  have HX := keep (str_upto l (spn isN l))
  have HW := keep (fun w => word_any (l.take (spn isN l)) w)
  have hle := spn_le isN l
  have hz : (str l).size = l.length := str_size l
  have HP : Keep (∀ e, PcIs (if 16 < spn isN l then (0, 0, 5) else if isW (l.take (spn isN l)) then (3, spn isN l, 0) else (1, spn isN l, 0)) e → PcIs (pcName l) e) := ⟨fun e h => h⟩
  generalize isW (l.take (spn isN l)) = q at *
  generalize str (l.take (spn isN l)) = x at *
  generalize spn isN l = n at *
  generalize str l = s at *
  generalize pcName l = P at *
  have hx := HX.out
  have hn : (n : Int) ≤ (s.size : Int) := by omega
  have hn0 : (0 : Int) ≤ (n : Int) := by omega
  have hsI : (s.size : Int) ≤ 9223372036854775807 := by omega
  clear hs hz hle
  by_cases h16 : (16 : Int) < (n : Int)
  · have HE := keep (HP.out _ (by rw [if_pos (by omega)]; rfl))
    go_enter Try.func56, Try.ntmps56
    go_wp2_with (go_at_call 60; refine (HS.out _).mono ?_; rintro e w' ⟨rfl, rfl⟩)
    go_ret3
    exact ⟨HE.out, rfl⟩
  · cases q with
    | true =>
      have HE := keep (HP.out _ (by rw [if_neg (by omega), if_pos rfl]; rfl))
      go_enter Try.func56, Try.ntmps56
      go_wp2_with (first
        | (go_at_call 60; refine (HS.out _).mono ?_; rintro e w' ⟨rfl, rfl⟩)
        | (go_at_call 62; refine (HW.out _).mono ?_; rintro e w' ⟨rfl, rfl⟩))
      go_ret3
      exact ⟨HE.out, rfl⟩
    | false =>
      have HE := keep (HP.out _ (by rw [if_neg (by omega), if_neg (by simp)]; rfl))
      go_enter Try.func56, Try.ntmps56
      go_wp2_with (first
        | (go_at_call 60; refine (HS.out _).mono ?_; rintro e w' ⟨rfl, rfl⟩)
        | (go_at_call 62; refine (HW.out _).mono ?_; rintro e w' ⟨rfl, rfl⟩))
      go_ret3
      exact ⟨HE.out, rfl⟩

set_option maxHeartbeats 2000000 in
theorem number_any (l : List UInt8) (h0 : l ≠ []) (hs : l.length ≤ 9223372036854775807) (w : World) : Calls Try.prog 58 #[.string (str l)] w fun e w' => PcIs (pcNum l) e ∧ w = w' := by
  have HS := keep (fun w => span_any isD 57 (fun _ _ => rfl) digit_any l hs w)
  have hle := spn_le isD l
  have hlen : 0 < l.length := List.length_pos_iff.2 h0
  have hz : (str l).size = l.length := str_size l
  have hg := get_bt (str l)
  have hg0 := bt_at l hlen
  have HGN : Keep (∀ k, k < (str l).size → bt (str l) k = byteAt l k) := ⟨fun k hk => bt_at l (by omega)⟩
  have HEND := keep (fun k (h : (str l).size ≤ k) => at_end l (k := k) (by omega))
  have HP : Keep (∀ e, PcIs (if byteAt l 0 = 48 ∧ 1 < spn isD l then (0, 0, 3) else if 18 < spn isD l then (0, 0, 5) else if isL (byteAt l (spn isD l)) then (0, 0, 3) else (2, spn isD l, 0)) e → PcIs (pcNum l) e) := ⟨fun e h => h⟩
  generalize spn isD l = n at *
  generalize str l = s at *
  generalize pcNum l = P at *
  have hn : (n : Int) ≤ (s.size : Int) := by omega
  have hn0 : (0 : Int) ≤ (n : Int) := by omega
  have hsI : (s.size : Int) ≤ 9223372036854775807 := by omega
  have hs0 : (0 : Int) < (s.size : Int) := by omega
  clear hs hz hle hlen h0
  generalize byteAt l 0 = c at *
  have step : ∀ q r : Bool, (c == 48) = q → decide ((1 : Int) < (n : Int)) = r → (q && r) = false → Calls Try.prog 58 #[.string s] w fun e w' => PcIs P e ∧ w = w' := fun q r hq hr hqr => by
    have hno : ¬ (c = 48 ∧ 1 < n) := fun h => by
      have h1 : q = true := by rw [← hq]; simp [h.1]
      have h2 : r = true := by rw [← hr]; simp; omega
      rw [h1, h2] at hqr
      cases hqr
    have HP2 : Keep (∀ e, PcIs (if 18 < n then (0, 0, 5) else if isL (byteAt l n) then (0, 0, 3) else (2, n, 0)) e → PcIs P e) := ⟨fun e h => HP.out e (by rw [if_neg hno]; exact h)⟩
    clear HP hno
    by_cases h18 : (18 : Int) < (n : Int)
    · have HE := keep (HP2.out _ (by rw [if_pos (by omega)]; rfl))
      have hq2 : q = false := by
        have : r = true := by rw [← hr]; simp; omega
        rw [this] at hqr; simpa using hqr
      subst hq2
      clear hqr hr
      go_enter Try.func58, Try.ntmps58
      go_wp2_with (go_at_call 60; refine (HS.out _).mono ?_; rintro e w' ⟨rfl, rfl⟩)
      go_ret3
      exact ⟨HE.out, rfl⟩
    · have HP3 : Keep (∀ e, PcIs (if isL (byteAt l n) then (0, 0, 3) else (2, n, 0)) e → PcIs P e) := ⟨fun e h => HP2.out e (by rw [if_neg (by omega)]; exact h)⟩
      by_cases hlt : (n : Int) < (s.size : Int)
      · have hgn := HGN.out n (by omega)
        have HL := keep (letter_any (byteAt l n))
        generalize isL (byteAt l n) = p at *
        generalize byteAt l n = d at *
        cases p with
        | true =>
          have HE := keep (HP3.out _ (by rw [if_pos rfl]; rfl))
          cases q with
          | true =>
            have hr2 : r = false := by simpa using hqr
            subst hr2
            clear hqr
            go_enter Try.func58, Try.ntmps58
            go_wp2_with (first
      | (go_at_call 60; refine (HS.out _).mono ?_; rintro e w' ⟨rfl, rfl⟩)
      | (go_at_call 55; refine (HL.out _).mono ?_; rintro e w' ⟨rfl, rfl⟩))
            go_ret3
            exact ⟨HE.out, rfl⟩
          | false =>
            clear hqr hr
            go_enter Try.func58, Try.ntmps58
            go_wp2_with (first
      | (go_at_call 60; refine (HS.out _).mono ?_; rintro e w' ⟨rfl, rfl⟩)
      | (go_at_call 55; refine (HL.out _).mono ?_; rintro e w' ⟨rfl, rfl⟩))
            go_ret3
            exact ⟨HE.out, rfl⟩
        | false =>
          have HE := keep (HP3.out _ (by rw [if_neg (by simp)]; rfl))
          cases q with
          | true =>
            have hr2 : r = false := by simpa using hqr
            subst hr2
            clear hqr
            go_enter Try.func58, Try.ntmps58
            go_wp2_with (first
      | (go_at_call 60; refine (HS.out _).mono ?_; rintro e w' ⟨rfl, rfl⟩)
      | (go_at_call 55; refine (HL.out _).mono ?_; rintro e w' ⟨rfl, rfl⟩))
            go_ret3
            exact ⟨HE.out, rfl⟩
          | false =>
            clear hqr hr
            go_enter Try.func58, Try.ntmps58
            go_wp2_with (first
      | (go_at_call 60; refine (HS.out _).mono ?_; rintro e w' ⟨rfl, rfl⟩)
      | (go_at_call 55; refine (HL.out _).mono ?_; rintro e w' ⟨rfl, rfl⟩))
            go_ret3
            exact ⟨HE.out, rfl⟩
      · have HE := keep (HP3.out _ (by rw [HEND.out n (by omega), if_neg (by decide)]; rfl))
        cases q with
        | true =>
          have hr2 : r = false := by simpa using hqr
          subst hr2
          clear hqr
          go_enter Try.func58, Try.ntmps58
          go_wp2_with (go_at_call 60; refine (HS.out _).mono ?_; rintro e w' ⟨rfl, rfl⟩)
          go_ret3
          exact ⟨HE.out, rfl⟩
        | false =>
          clear hqr hr
          go_enter Try.func58, Try.ntmps58
          go_wp2_with (go_at_call 60; refine (HS.out _).mono ?_; rintro e w' ⟨rfl, rfl⟩)
          go_ret3
          exact ⟨HE.out, rfl⟩
  by_cases h48 : c = 48
  · by_cases h1 : (1 : Int) < (n : Int)
    · have HE := keep (HP.out _ (by rw [if_pos ⟨h48, by omega⟩]; rfl))
      have hq : (c == 48) = true := by simp [h48]
      have hr : decide ((1 : Int) < (n : Int)) = true := by simp; omega
      clear step h48
      go_enter Try.func58, Try.ntmps58
      go_wp2_with (go_at_call 60; refine (HS.out _).mono ?_; rintro e w' ⟨rfl, rfl⟩)
      go_ret3
      exact ⟨HE.out, rfl⟩
    · exact step _ _ rfl rfl (by simp; omega)
  · exact step _ _ rfl rfl (by simp [h48])

set_option maxHeartbeats 1000000 in
theorem follows_any (l : List UInt8) (b : Int) (hb : 0 ≤ b) (hs : l.length ≤ 9223372036854775807) (w : World) : Calls Try.prog 63 #[.string (str l), .int .u8 b] w fun e w' => e = .returned (.bool (byteAt l 1 == b)) ∧ w = w' := by
  have hz : (str l).size = l.length := str_size l
  have hg := get_bt (str l)
  by_cases h1 : 1 < l.length
  · have hg1 := bt_at l h1
    generalize byteAt l 1 = c at *
    generalize str l = s at *
    have hsI : (1 : Int) < (s.size : Int) := by omega
    clear hs hz h1
    go_enter Try.func63, Try.ntmps63
    go_wp2
    go_ret
    exact ⟨rfl, rfl⟩
  · rw [at_end l (by omega)]
    have HE : Keep (false = ((-1 : Int) == b)) := ⟨by symm; simp; omega⟩
    generalize str l = s at *
    have hsI : (s.size : Int) ≤ 1 := by omega
    clear hs hz h1
    go_enter Try.func63, Try.ntmps63
    go_wp2
    go_ret
    exact ⟨ret_bool HE.out, rfl⟩
end Go.Proofs.Ytgodjgbdjgiapaa
