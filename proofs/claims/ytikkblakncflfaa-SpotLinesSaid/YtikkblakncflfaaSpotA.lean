/-
  What the program calls of Go's library, at the text of one byte 10: strings.Count, strings.LastIndex, strings.Cut.
-/
import Derived.Test.YtikkblakncflfaaSpotM
import Derived.Test.YtikkblakncflfaaChecked
import Derived.Lib.Bytealg
import Derived.BigQuiet
import Derived.Deep.QuietTactic
namespace Go.Proofs.Ytikkblakncflfaa
open Go.RowKit

set_option maxHeartbeats 1000000 in
theorem count_any (s : ByteArray) (w : World) : Calls Try.prog 18 #[.string s, .string ⟨#[10]⟩] w fun e w' => e = .returned (.int .i64 ((ofP s.data.toList).1 : Int)) ∧ w = w' := by
  go_enter Try.func18, Try.ntmps18
  go_wp2
  rw [run_callFunc_extern Try.func22 (by kernel_rfl) (by kernel_rfl) (by kernel_rfl) (e := Extern.BytealgCount.count) (by kernel_rfl), Lib.run_countString]
  simp only [Result.andThen]
  rw [Oper.upon_value]
  go_wp2
  go_ret
  exact ⟨ret_int (by rw [ofP_count]; rfl), rfl⟩

set_option maxHeartbeats 1000000 in
theorem indexByte_any (s : ByteArray) (w : World) : Calls Try.prog 28 #[.string s, .int .u8 10] w fun e w' => e = .returned (.int .i64 (Lib.indexByte s.data.toList 10)) ∧ w = w' := by
  go_enter Try.func28, Try.ntmps28
  go_wp2
  rw [run_callFunc_extern Try.func32 (by kernel_rfl) (by kernel_rfl) (by kernel_rfl) (e := Extern.BytealgIndexByte.indexByte) (by kernel_rfl), Lib.run_indexByteString]
  simp only [Result.andThen]
  rw [Oper.upon_value]
  go_wp2
  go_ret
  exact ⟨rfl, rfl⟩

set_option maxHeartbeats 1000000 in
theorem index_any (s : ByteArray) (w : World) : Calls Try.prog 26 #[.string s, .string ⟨#[10]⟩] w fun e w' => e = .returned (.int .i64 (Lib.indexByte s.data.toList 10)) ∧ w = w' := by
  go_enter Try.func26, Try.ntmps26
  go_wp2_with (go_at_call 28; refine (indexByte_any _ _).mono ?_; rintro e w' ⟨rfl, rfl⟩)
  · have h : ([10] == s.toList) = true := by assumption
    have HE : Keep ((0 : Int) = Lib.indexByte s.data.toList 10) := ⟨by
      rw [← ByteArray.toList_eq, ← (eq_of_beq h)]; rfl⟩
    go_ret
    exact ⟨ret_int HE.out, rfl⟩
  · go_ret
    exact ⟨rfl, rfl⟩

/-- What is cut: the line ahead of the first byte 10, what stands behind it, and whether there is one. -/
def CutIs (s a r : List UInt8) (m : Bool) : Prop := (m = true ∧ s = a ++ 10 :: r ∧ ∀ b ∈ a, b ≠ 10) ∨ (m = false ∧ a = s ∧ r = [] ∧ ∀ b ∈ s, b ≠ 10)

set_option maxHeartbeats 2000000 in
theorem lcut_any (s : ByteArray) (hs : s.size ≤ 1000000) (w : World) : Calls Try.prog 20 #[.string s, .string ⟨#[10]⟩] w fun e w' => ∃ a r m, e = .returned (.tuple #[.string (str a), .string (str r), .bool m]) ∧ CutIs s.data.toList a r m ∧ Below w.heap.size w w' := by
  have HI := keep (index_any s)
  have HC := keep (index_cases s.data.toList 10)
  generalize Lib.indexByte s.data.toList 10 = I at *
  rcases HC.out with ⟨h1, h2⟩ | ⟨i, h1, h2, h3, h4⟩
  · have H2 := keep h2
    subst h1
    clear HC h2 hs
    go_enter Try.func20, Try.ntmps20
    go_wp2_with (go_at_call 26; refine (HI.out _).mono ?_; rintro e w' ⟨rfl, rfl⟩)
    go_ret3
    exact ⟨_, [], false, by rw [str_eta]; rfl, .inr ⟨rfl, rfl, rfl, H2.out⟩, Below.refl _ _⟩
  · have h2s : i < s.size := by rw [size_list]; exact h2
    have H3 : Keep (CutIs s.data.toList (s.data.toList.take i) (s.data.toList.drop (i + 1)) true) := ⟨.inl ⟨rfl, h3, h4⟩⟩
    have HA : Keep (s.extract 0 i = str (s.data.toList.take i)) := ⟨by rw [extract_is]; simp⟩
    have HB : Keep (s.extract (i + 1) s.size = str (s.data.toList.drop (i + 1))) := ⟨by rw [extract_is, List.take_of_length_le (by rw [List.length_drop, ← size_list]; exact Nat.le_refl _)]⟩
    have c0 : (0 : Int) ≤ (i : Int) := by omega
    have c1 : (i : Int) < (s.size : Int) := by omega
    have c2 : (i : Int) ≤ (s.size : Int) := by omega
    have c3 : (0 : Int) ≤ (i : Int) + 1 := by omega
    have c4 : (i : Int) + 1 ≤ (s.size : Int) := by omega
    have hsI : (s.size : Int) ≤ 1000000 := by omega
    subst h1
    clear HC h2 h3 h4 hs h2s
    go_enter Try.func20, Try.ntmps20
    go_wp2_with (go_at_call 26; refine (HI.out _).mono ?_; rintro e w' ⟨rfl, rfl⟩)
    go_quiet (fail)
    go_wp2
    go_ret3
    exact ⟨_, _, true, by rw [← HA.out, ← HB.out]; rfl, H3.out, ⟨rfl, rfl, rfl, Nat.le_refl _, fun _ _ => rfl⟩⟩

set_option maxHeartbeats 1000000 in
theorem cut_any (s : ByteArray) (hs : s.size ≤ 1000000) (w : World) : Calls Try.prog 17 #[.string s, .string ⟨#[10]⟩] w fun e w' => ∃ a r m, e = .returned (.tuple #[.string (str a), .string (str r), .bool m]) ∧ CutIs s.data.toList a r m ∧ Below w.heap.size w w' := by
  have HI := keep (lcut_any s hs)
  clear hs
  go_enter Try.func17, Try.ntmps17
  go_wp2_with (go_at_call 20; refine (HI.out _).mono ?_; rintro e w' ⟨a, r, m, rfl, hc, hb⟩; have HC := keep hc; have HB := keep hb; clear hc hb)
  go_ret3
  exact ⟨a, r, m, rfl, HC.out, HB.out⟩

set_option maxHeartbeats 4000000 in
theorem lastByte_any (s : ByteArray) (hs : s.size ≤ 1000000) (w : World) :
    Calls Try.prog 24 #[.string s, .int .u8 10] w fun e w' => e = .returned (.int .i64 ((s.size : Int) - ((ofP s.data.toList).2 : Int) - 1)) ∧ w = w' := by
  have hsI : (s.size : Int) ≤ 1000000 := by omega
  go_enter Try.func24, Try.ntmps24
  go_wp2_with fail
  go_loop [5] (fun vi => ∃ k : Nat, k ≤ s.size ∧ vi = .int .i64 ((k : Int) - 1) ∧ Keep (∀ b ∈ s.data.toList.drop k, b ≠ 10)) (fun vi => ((intOf vi) + 1).toNat)
  case atStart => exact ⟨s.size, Nat.le_refl _, by first | rfl | go_num | (congr 1; omega), ⟨by rw [List.drop_eq_nil_of_le (by rw [size_list]; exact Nat.le_refl _)]; simp⟩⟩
  case round =>
    obtain ⟨k, hk, rfl, HK⟩ := hrel
    cases k with
    | zero =>
      have HE : Keep ((-1 : Int) = (s.size : Int) - ((ofP s.data.toList).2 : Int) - 1) := ⟨by rw [last_none (by simpa using HK.out), size_list]; omega⟩
      rw [show ((0 : Nat) : Int) - 1 = -1 by omega]
      clear hk
      go_wp2_with fail
      go_ret
      exact ⟨ret_int HE.out, rfl⟩
    | succ k =>
      rw [show ((k + 1 : Nat) : Int) - 1 = (k : Int) by omega]
      have hlt : (k : Int) < (s.size : Int) := by omega
      have hgb := get_bt s
      obtain ⟨b, hb1, hb2⟩ := drop_bt s (n := k) (by omega)
      have HD := keep hb1
      have HKK := keep hk
      by_cases h10 : b = 10
      · subst h10
        have hbt : bt s k = 10 := by rw [← hb2]; rfl
        have HE : Keep ((k : Int) = (s.size : Int) - ((ofP s.data.toList).2 : Int) - 1) := ⟨by
          have h1 : s.data.toList[k]? = some 10 := by rw [← List.head?_drop, HD.out]; rfl
          rw [last_hit h1 HK.out, ← size_list]; omega⟩
        clear hk hb1 hb2
        go_wp2_with fail
        go_ret
        exact ⟨ret_int HE.out, rfl⟩
      · have hbt : (bt s k == 10) = false := by
          rw [← hb2, beq_eq_false_iff_ne]
          intro h
          exact h10 (UInt8.toNat_inj.1 (by simpa using Int.ofNat.inj h))
        have HN : Keep (∀ c ∈ s.data.toList.drop k, c ≠ 10) := ⟨by
          rw [HD.out]
          simp only [List.mem_cons]
          rintro c (rfl | hc)
          · exact h10
          · exact HK.out c hc⟩
        clear hk hb1 hb2 h10
        go_wp2_with fail
        go_round
        case rel => exact ⟨k, by have := HKK.out; omega, rfl, HN⟩
        case measure => simp [intOf]

set_option maxHeartbeats 1000000 in
theorem last_any (s : ByteArray) (hs : s.size ≤ 1000000) (w : World) :
    Calls Try.prog 19 #[.string s, .string ⟨#[10]⟩] w fun e w' => e = .returned (.int .i64 ((s.size : Int) - ((ofP s.data.toList).2 : Int) - 1)) ∧ w = w' := by
  have HL := keep (lastByte_any s hs)
  clear hs
  go_enter Try.func19, Try.ntmps19
  go_wp2_with (go_at_call 24; refine (HL.out _).mono ?_; rintro e w' ⟨rfl, rfl⟩)
  go_ret
  exact ⟨rfl, rfl⟩
end Go.Proofs.Ytikkblakncflfaa
