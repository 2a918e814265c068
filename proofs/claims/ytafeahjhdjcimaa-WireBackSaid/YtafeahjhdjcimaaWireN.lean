/-
  What is written is read as it was: plain mathematics.
-/
import Derived.Test.YtafeahjhdjcimaaWireV
namespace Go.Proofs.Ytafeahjhdjcimaa
open Go.RowKit

theorem head_num {u : Nat} (hu : u < 18446744073709551616) (r : List UInt8) : headE (num u ++ r) = 0 ∧ headU (num u ++ r) = u ∧ headL (num u ++ r) = r := by
  unfold headE headU headL
  rw [getL_put hu r]
  exact ⟨rfl, rfl, by simp⟩
theorem back_num {u : Nat} (hu : u < 18446744073709551616) (r : List UInt8) : numV (num u ++ r) 0 = u ∧ numS (num u ++ r) 0 = (r, 0) := by
  obtain ⟨h0, h1, h2⟩ := head_num hu r
  unfold numV numS
  rw [if_pos rfl, if_pos rfl, h0, h1, h2]
  exact ⟨rfl, rfl⟩
theorem back_int {n : Int} (h0 : -9223372036854775808 ≤ n) (h1 : n ≤ 9223372036854775807) (r : List UInt8) : zag (numV (intB n ++ r) 0) = n ∧ numS (intB n ++ r) 0 = (r, 0) := by
  have hz := zig_bd h0 h1
  obtain ⟨h, h'⟩ := back_num (u := (zig n).toNat) (by omega) r
  unfold intB
  rw [h, h']
  refine ⟨?_, rfl⟩
  rw [show (((zig n).toNat : Nat) : Int) = zig n by omega]
  exact zag_zig n
theorem back_bool (b : Bool) (r : List UInt8) : boolV (boolB b ++ r) 0 = b ∧ boolS (boolB b ++ r) 0 = (r, 0) := by
  cases b <;> exact ⟨rfl, rfl⟩
theorem back_raw (l r : List UInt8) : rawV (l.length : Int) (l ++ r) 0 = l ∧ rawS (l.length : Int) (l ++ r) 0 = (r, 0) := by
  unfold rawV rawS
  rw [if_pos ⟨rfl, by omega, by rw [List.length_append]; omega⟩, if_pos rfl, if_neg (by omega), if_pos (by rw [List.length_append]; omega), Int.toNat_natCast]
  exact ⟨List.take_left, by rw [List.drop_left]⟩
theorem back_upto {u : Nat} (hu : u < 18446744073709551616) (r : List UInt8) : uptoV (u : Int) (num u ++ r) 0 = u ∧ uptoS (u : Int) (num u ++ r) 0 = (r, 0) := by
  obtain ⟨h0, h1, h2⟩ := head_num hu r
  unfold uptoV uptoS
  rw [h0, h1, h2, if_pos ⟨rfl, rfl, Int.le_refl _⟩, if_pos rfl, if_pos rfl, if_pos (Int.le_refl _)]
  exact ⟨rfl, rfl⟩
theorem back_text {s : ByteArray} (hs : s.size < 18446744073709551616) (r : List UInt8) : textV (s.size : Int) (textB s ++ r) 0 = s.data.toList ∧ textS (s.size : Int) (textB s ++ r) 0 = (r, 0) := by
  unfold textV textS textB
  rw [List.append_assoc, (back_upto hs (s.data.toList ++ r)).1, (back_upto hs (s.data.toList ++ r)).2]
  have := back_raw s.data.toList r
  rw [← size_list] at this
  exact this
theorem ints_back : ∀ (xs : List Int) (r : List UInt8), (∀ z ∈ xs, -9223372036854775808 ≤ z ∧ z ≤ 9223372036854775807) → intsT xs.length (xs.flatMap intB ++ r) = (some xs, (r, 0))
  | [], r, _ => rfl
  | n :: xs, r, h => by
    have hn := h n (List.mem_cons_self ..)
    have hz := zig_bd hn.1 hn.2
    obtain ⟨h0, h1, h2⟩ := head_num (u := (zig n).toNat) (by omega) (xs.flatMap intB ++ r)
    have e : (n :: xs).flatMap intB ++ r = num (zig n).toNat ++ (xs.flatMap intB ++ r) := by simp [List.flatMap_cons, intB]
    rw [e, List.length_cons, intsT, if_pos h0, h1, h2, ints_back xs r (fun z hz => h z (List.mem_cons_of_mem _ hz)), show (((zig n).toNat : Nat) : Int) = zig n by omega, zag_zig]
    rfl
theorem back_ints {xs : List Int} (hl : xs.length < 18446744073709551616) (r : List UInt8) (h : ∀ z ∈ xs, -9223372036854775808 ≤ z ∧ z ≤ 9223372036854775807) : intsV (xs.length : Int) (intsB xs ++ r) 0 = xs ∧ intsS (xs.length : Int) (intsB xs ++ r) 0 = (r, 0) := by
  unfold intsV intsS intsB
  rw [List.append_assoc, (back_upto hl _).1, (back_upto hl _).2]
  simp only [Int.toNat_natCast, ints_back xs r h, if_true, Option.getD_some]
  exact ⟨trivial, trivial⟩
end Go.Proofs.Ytafeahjhdjcimaa
