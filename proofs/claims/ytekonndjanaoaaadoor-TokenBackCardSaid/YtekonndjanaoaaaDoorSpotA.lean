/-
  What the program calls of Go's library, at the text of one byte 10: strings.Count, strings.LastIndex, strings.Cut.
-/
import Derived.Test.YtekonndjanaoaaaDoorSpotM
import Derived.Test.YtekonndjanaoaaaDoorChecked
import Derived.Lib.Bytealg
import Derived.BigQuiet
import Derived.Deep.QuietTactic
namespace Go.Proofs.YtekonndjanaoaaaDoor
open Go.RowKit

set_option maxHeartbeats 1000000 in
theorem indexByte_any (s : ByteArray) (w : World) : Calls Tryd.prog 52 #[.string s, .int .u8 10] w fun e w' => e = .returned (.int .i64 (Lib.indexByte s.data.toList 10)) ∧ w = w' := by
  go_enter Tryd.func52, Tryd.ntmps52
  go_wp2
  rw [run_callFunc_extern Tryd.func57 (by kernel_rfl) (by kernel_rfl) (by kernel_rfl) (e := Extern.BytealgIndexByte.indexByte) (by kernel_rfl), Lib.run_indexByteString]
  simp only [Result.andThen]
  rw [Oper.upon_value]
  go_wp2
  go_ret
  exact ⟨rfl, rfl⟩

set_option maxHeartbeats 1000000 in
theorem index_any (s : ByteArray) (w : World) : Calls Tryd.prog 48 #[.string s, .string ⟨#[10]⟩] w fun e w' => e = .returned (.int .i64 (Lib.indexByte s.data.toList 10)) ∧ w = w' := by
  go_enter Tryd.func48, Tryd.ntmps48
  go_wp2_with (go_at_call 52; refine (indexByte_any _ _).mono ?_; rintro e w' ⟨rfl, rfl⟩)
  · have h : ([10] == s.toList) = true := by assumption
    have HE : Keep ((0 : Int) = Lib.indexByte s.data.toList 10) := ⟨by
      rw [← ByteArray.toList_eq, ← (eq_of_beq h)]; rfl⟩
    go_ret
    exact ⟨ret_int HE.out, rfl⟩
  · go_ret
    exact ⟨rfl, rfl⟩

/-- What is cut: the line ahead of the first byte 10, what stands behind it, and whether there is one. -/
def CutIs (s a r : List UInt8) (m : Bool) : Prop := (m = true ∧ s = a ++ 10 :: r ∧ ∀ b ∈ a, b ≠ 10) ∨ (m = false ∧ a = s ∧ r = [] ∧ ∀ b ∈ s, b ≠ 10)

set_option maxHeartbeats 2000000 in
theorem lcut_any (s : ByteArray) (hs : s.size ≤ 1000000) (w : World) : Calls Tryd.prog 43 #[.string s, .string ⟨#[10]⟩] w fun e w' => ∃ a r m, e = .returned (.tuple #[.string (str a), .string (str r), .bool m]) ∧ CutIs s.data.toList a r m ∧ Below w.heap.size w w' := by
  have HI := keep (index_any s)
  have HC := keep (index_cases s.data.toList 10)
  generalize Lib.indexByte s.data.toList 10 = I at *
  rcases HC.out with ⟨h1, h2⟩ | ⟨i, h1, h2, h3, h4⟩
  · have H2 := keep h2
    subst h1
    clear HC h2 hs
    go_enter Tryd.func43, Tryd.ntmps43
    go_wp2_with (go_at_call 48; refine (HI.out _).mono ?_; rintro e w' ⟨rfl, rfl⟩)
    go_ret3
    exact ⟨_, [], false, by rw [str_eta]; rfl, .inr ⟨rfl, rfl, rfl, H2.out⟩, Below.refl _ _⟩
  · have h2s : i < s.size := by rw [size_list]; exact h2
    have H3 : Keep (CutIs s.data.toList (s.data.toList.take i) (s.data.toList.drop (i + 1)) true) := ⟨.inl ⟨rfl, h3, h4⟩⟩
    have HA : Keep (s.extract 0 i = str (s.data.toList.take i)) := ⟨by rw [extract_is]; simp⟩
    have HB : Keep (s.extract (i + 1) s.size = str (s.data.toList.drop (i + 1))) := ⟨by rw [extract_is, List.take_of_length_le (by rw [List.length_drop, ← size_list]; exact Nat.le_refl _)]⟩
    have c0 : (0 : Int) ≤ (i : Int) := by omega
    have c1 : (i : Int) < (s.size : Int) := by omega
    have c2 : (i : Int) ≤ (s.size : Int) := by omega
    have c3 : (0 : Int) ≤ (i : Int) + 1 := by omega
    have c4 : (i : Int) + 1 ≤ (s.size : Int) := by omega
    have hsI : (s.size : Int) ≤ 1000000 := by omega
    subst h1
    clear HC h2 h3 h4 hs h2s
    go_enter Tryd.func43, Tryd.ntmps43
    go_wp2_with (go_at_call 48; refine (HI.out _).mono ?_; rintro e w' ⟨rfl, rfl⟩)
    go_quiet (fail)
    go_wp2
    go_ret3
    exact ⟨_, _, true, by rw [← HA.out, ← HB.out]; rfl, H3.out, ⟨rfl, rfl, rfl, Nat.le_refl _, fun _ _ => rfl⟩⟩

set_option maxHeartbeats 1000000 in
theorem cut_any (s : ByteArray) (hs : s.size ≤ 1000000) (w : World) : Calls Tryd.prog 34 #[.string s, .string ⟨#[10]⟩] w fun e w' => ∃ a r m, e = .returned (.tuple #[.string (str a), .string (str r), .bool m]) ∧ CutIs s.data.toList a r m ∧ Below w.heap.size w w' := by
  have HI := keep (lcut_any s hs)
  clear hs
  go_enter Tryd.func34, Tryd.ntmps34
  go_wp2_with (go_at_call 43; refine (HI.out _).mono ?_; rintro e w' ⟨a, r, m, rfl, hc, hb⟩; have HC := keep hc; have HB := keep hb; clear hc hb)
  go_ret3
  exact ⟨a, r, m, rfl, HC.out, HB.out⟩

end Go.Proofs.YtekonndjanaoaaaDoor
