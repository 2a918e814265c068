/-
  The program's Lines and Of, and the document's Of.
-/
import Derived.Test.YtikkblakncflfaaSpotA
import Derived.Test.YtikkblakncflfaaAny
namespace Go.Proofs.Ytikkblakncflfaa
open Go.RowKit

set_option maxHeartbeats 1000000 in
theorem lines_any (s : ByteArray) (hs : s.size ≤ 1000000) (w : World) : Calls Try.prog 11 #[.string s] w fun e w' => e = .returned (.int .i64 ((ofP s.data.toList).1 + 1 : Int)) ∧ w = w' := by
  have hle := ofP_le s.data.toList
  rw [← size_list] at hle
  have HC := keep (count_any s)
  generalize (ofP s.data.toList).1 = n at *
  have hn : (n : Int) ≤ 1000000 := by omega
  clear hs hle
  go_enter Try.func11, Try.ntmps11
  go_wp2_with (go_at_call 18; refine (HC.out _).mono ?_; rintro e w' ⟨rfl, rfl⟩)
  go_ret
  exact ⟨rfl, rfl⟩

theorem extract_all (s : ByteArray) (n : Nat) (h : s.size ≤ n) : str (s.data.toList.take n) = s := by
  rw [List.take_of_length_le (by rw [← size_list]; exact h), str_eta]

set_option maxHeartbeats 2000000 in
theorem of_any (s : ByteArray) (a : Int) (hs : s.size ≤ 1000000) (w : World) : Calls Try.prog 12 #[.string s, .int .i64 a] w fun e w' => e = .returned (.tuple #[.int .i64 ((ofP (s.data.toList.take a.toNat)).1 + 1 : Int), .int .i64 ((ofP (s.data.toList.take a.toNat)).2 + 1 : Int)]) ∧ w = w' := by
  have hsI : (s.size : Int) ≤ 1000000 := by omega
  obtain ⟨T, hT⟩ : ∃ T, T = str (s.data.toList.take a.toNat) := ⟨_, rfl⟩
  have hd : T.data.toList = s.data.toList.take a.toNat := by rw [hT, str_data]
  have hTs : T.size ≤ s.size := by rw [size_list, hd, size_list, List.length_take]; omega
  have hle := ofP_le T.data.toList
  rw [← size_list] at hle
  have HL := keep (last_any T (by omega))
  have HN := keep (lines_any T (by omega))
  rw [← hd]
  have HT := keep hT
  generalize (ofP T.data.toList).1 = n at *
  generalize (ofP T.data.toList).2 = m at *
  have hm : (m : Int) ≤ (T.size : Int) := by omega
  have hm0 : (0 : Int) ≤ (m : Int) := by omega
  have hz : (T.size : Int) ≤ 1000000 := by omega
  have hz0 : (0 : Int) ≤ (T.size : Int) := by omega
  have hw : IntKind.i64.wrap ((T.size : Int) - (m : Int) - 1 + 1) = (T.size : Int) - (m : Int) := by
    rw [show (T.size : Int) - (m : Int) - 1 + 1 = (T.size : Int) - (m : Int) by omega]
    exact IntWalk.i64_in _ ⟨by omega, by omega⟩
  have HE : Keep ((T.size : Int) - ((T.size : Int) - (m : Int)) + 1 = (m : Int) + 1) := ⟨by omega⟩
  by_cases h1 : a < 0
  · have hx : ByteArray.empty = T := by rw [hT, show a.toNat = 0 by omega]; rfl
    clear hs hTs hle hd hT
    have hk : (0 : Int) ≤ (s.size : Int) := by omega
    go_enter Try.func12, Try.ntmps12
    go_wp2_with (first
      | (go_at_call 19; refine (HL.out _).mono ?_; rintro e w' ⟨rfl, rfl⟩)
      | (go_at_call 11; refine (HN.out _).mono ?_; rintro e w' ⟨rfl, rfl⟩))
    go_ret2
    exact ⟨by rw [← HE.out]; rfl, rfl⟩
  · by_cases h2 : (s.size : Int) < a
    · have hx : s = T := by rw [hT, extract_all s _ (by omega)]
      have h3 : (s.size : Int) < if a < 0 then 0 else a := by rw [if_neg h1]; exact h2
      clear hs hTs hle hd hT HT
      subst hx
      go_enter Try.func12, Try.ntmps12
      go_wp2_with (first
        | (go_at_call 19; refine (HL.out _).mono ?_; rintro e w' ⟨rfl, rfl⟩)
        | (go_at_call 11; refine (HN.out _).mono ?_; rintro e w' ⟨rfl, rfl⟩))
      go_ret2
      exact ⟨by rw [← HE.out]; rfl, rfl⟩
    · have hx : s.extract 0 a.toNat = T := by rw [hT, extract_is]; simp
      have h3 : (if a < 0 then 0 else a) ≤ (s.size : Int) := by rw [if_neg h1]; omega
      have h4 : 0 ≤ a := by omega
      have h5 : a ≤ (s.size : Int) := by omega
      clear hs hTs hle hd hT
      go_enter Try.func12, Try.ntmps12
      go_wp2_with (first
        | (go_at_call 19; refine (HL.out _).mono ?_; rintro e w' ⟨rfl, rfl⟩)
        | (go_at_call 11; refine (HN.out _).mono ?_; rintro e w' ⟨rfl, rfl⟩))
      go_ret2
      exact ⟨by rw [← HE.out]; rfl, rfl⟩

set_option maxHeartbeats 4000000 in
theorem rof_any (s : ByteArray) (a : Int) (hs : s.size ≤ 1000000) (w : World) : Calls Try.prog 13 #[.string s, .int .i64 a] w fun e w' => e = .returned (.agg #[.int .i64 ((ofP (s.data.toList.take a.toNat)).1 + 1 : Int), .int .i64 ((ofP (s.data.toList.take a.toNat)).2 + 1 : Int)]) ∧ Below w.heap.size w w' := by
  have hsI : (s.size : Int) ≤ 1000000 := by omega
  have HS := keep hs
  clear hs
  go_enter Try.func13, Try.ntmps13
  go_wp2_with fail
  go_loop [5, 6, 7] (fun lv cv iv => ∃ (k l c : Nat), lv = .int .i64 ((l : Int) + 1) ∧ cv = .int .i64 ((c : Int) + 1) ∧ iv = .int .i64 (k : Int) ∧ k ≤ s.size ∧ l + c ≤ s.size ∧ Keep (k ≤ a.toNat ∧ ofP (s.data.toList.take k) = (l, c))) (fun _ _ iv => s.size - (intOf iv).toNat)
  case atStart => exact ⟨0, 0, 0, rfl, rfl, rfl, Nat.zero_le _, Nat.zero_le _, ⟨Nat.zero_le _, by simp [ofP]⟩⟩
  case round =>
    obtain ⟨k, l, c, rfl, rfl, rfl, hk, hlc, HK⟩ := hrel
    have hl : (l : Int) ≤ 1000000 := by have := HS.out; omega
    have hc : (c : Int) ≤ 1000000 := by have := HS.out; omega
    have hend : ∀ (h : s.data.toList.take k = s.data.toList.take a.toNat), Keep (ofP (s.data.toList.take a.toNat) = (l, c)) := fun h => ⟨by rw [← h]; exact HK.out.2⟩
    by_cases h1 : (k : Int) < a
    · by_cases h2 : k < s.size
      · have h2I : (k : Int) < (s.size : Int) := by omega
        obtain ⟨b, hb1, hb2⟩ := drop_bt s h2
        have HT : Keep (s.data.toList.take (k + 1) = s.data.toList.take k ++ [b]) := ⟨by
          rw [List.take_add_one, ← List.head?_drop, hb1]; rfl⟩
        have HLE := keep (ofP_le (s.data.toList.take (k + 1)))
        have HLL : Keep ((s.data.toList.take (k + 1)).length ≤ s.size) := ⟨by rw [size_list, List.length_take]; omega⟩
        have hgb := get_bt s
        by_cases h10 : b = 10
        · subst h10
          have hbt : bt s k = 10 := by rw [← hb2]; rfl
          have HN : Keep (ofP (s.data.toList.take (k + 1)) = (l + 1, 0)) := ⟨by rw [HT.out, ofP_snoc, if_pos rfl, HK.out.2]⟩
          clear hend hb1 hb2
          go_wp2_with fail
          go_round
          case rel => exact ⟨k + 1, l + 1, 0, by go_num, rfl, by go_num, by omega, by have h1 := HLE.out; rw [HN.out] at h1; have := HLL.out; simp only at h1; omega, ⟨by omega, HN.out⟩⟩
          case measure => simp [intOf]; omega
        · have hbt : (bt s k == 10) = false := by
            rw [← hb2, beq_eq_false_iff_ne]
            intro h
            exact h10 (UInt8.toNat_inj.1 (by simpa using Int.ofNat.inj h))
          have HN : Keep (ofP (s.data.toList.take (k + 1)) = (l, c + 1)) := ⟨by rw [HT.out, ofP_snoc, if_neg h10, HK.out.2]⟩
          clear hend hb1 hb2 h10
          go_wp2_with fail
          go_round
          case rel => exact ⟨k + 1, l, c + 1, rfl, by go_num, by go_num, by omega, by have h1 := HLE.out; rw [HN.out] at h1; have := HLL.out; simp only at h1; omega, ⟨by omega, HN.out⟩⟩
          case measure => simp [intOf]; omega
      · have HE := hend (by rw [List.take_of_length_le (by rw [← size_list]; omega), List.take_of_length_le (by rw [← size_list]; omega)])
        have hks : s.size = k := by omega
        have h3 : ¬ ((k : Int) < (s.size : Int)) := by omega
        clear hend h2 hks
        go_wp2_with fail
        rw [HE.out]
        go_returns
        exact ⟨rfl, (Below.refl _ _).alloc (Nat.le_refl _) _⟩
    · have HE := hend (by rw [show a.toNat = k by have := HK.out.1; omega])
      clear hend
      go_wp2_with fail
      rw [HE.out]
      go_returns
      exact ⟨rfl, (Below.refl _ _).alloc (Nat.le_refl _) _⟩
end Go.Proofs.Ytikkblakncflfaa
