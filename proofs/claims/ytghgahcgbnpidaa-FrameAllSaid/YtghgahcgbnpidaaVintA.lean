/-
  Zig and Zag, the program's and the document's: what each answers, as plain numbers.
-/
import Derived.Test.YtghgahcgbnpidaaRows
import Derived.Test.YtghgahcgbnpidaaKit
namespace Go.Proofs.Ytghgahcgbnpidaa
open Go.RowKit

def zig (n : Int) : Int := if n < 0 then -2 * n - 1 else 2 * n
def zag (u : Int) : Int := if u % 2 = 1 then -(u / 2) - 1 else u / 2

theorem zig_neg {n : Int} (h : n < 0) : zig n = -2 * n - 1 := by unfold zig; rw [if_pos h]
theorem zig_pos {n : Int} (h : 0 ≤ n) : zig n = 2 * n := by unfold zig; rw [if_neg (by omega)]
theorem zag_odd {u : Int} (h : u % 2 = 1) : zag u = -(u / 2) - 1 := by unfold zag; rw [if_pos h]
theorem zag_even {u : Int} (h : u % 2 = 0) : zag u = u / 2 := by unfold zag; rw [if_neg (by omega)]
theorem zig_bd {n : Int} (h0 : -9223372036854775808 ≤ n) (h1 : n ≤ 9223372036854775807) : 0 ≤ zig n ∧ zig n < 18446744073709551616 := by unfold zig; omega
theorem zag_bd {u : Int} (h0 : 0 ≤ u) (h1 : u < 18446744073709551616) : -9223372036854775808 ≤ zag u ∧ zag u ≤ 9223372036854775807 := by unfold zag; omega
theorem zag_zig (n : Int) : zag (zig n) = n := by unfold zag zig; split <;> split <;> omega
theorem zig_zag (u : Int) (h0 : 0 ≤ u) : zig (zag u) = u := by unfold zag zig; split <;> split <;> omega

/-- All ones, turned. -/
theorem xor_ones (a : Nat) (h : a < 2 ^ 64) : a ^^^ (2 ^ 64 - 1) = 2 ^ 64 - (a + 1) := by
  apply Nat.eq_of_testBit_eq
  intro i
  rw [Nat.testBit_two_pow_sub_succ h, Nat.testBit_xor, Nat.testBit_two_pow_sub_one]
  by_cases hi : i < 64
  · simp [hi]
  · have h2 : a < 2 ^ i := Nat.lt_of_lt_of_le h (Nat.pow_le_pow_right (by omega) (by omega))
    simp [hi, Nat.testBit_lt_two_pow h2]

theorem xor_all (x : Int) (h0 : 0 ≤ x) (h1 : x < 18446744073709551616) : bits .xor .u64 x 18446744073709551615 = 18446744073709551615 - x := by
  obtain ⟨a, rfl⟩ := Int.eq_ofNat_of_zero_le h0
  have h := bits_xor_u64_nat a 18446744073709551615 (by omega) (by omega)
  have e := xor_ones a (by omega)
  rw [show ((18446744073709551615 : Nat) : Int) = 18446744073709551615 from rfl] at h
  rw [h, show (18446744073709551615 : Nat) = 2 ^ 64 - 1 from rfl, e]
  omega

theorem xor_none (x : Int) (h0 : 0 ≤ x) (h1 : x < 18446744073709551616) : bits .xor .u64 x 0 = x := by
  obtain ⟨a, rfl⟩ := Int.eq_ofNat_of_zero_le h0
  have h := bits_xor_u64_nat a 0 (by omega) (by omega)
  rw [show ((0 : Nat) : Int) = 0 from rfl] at h
  rw [h, Nat.xor_zero]

theorem xor_all_i64 (x : Int) (h0 : -9223372036854775808 ≤ x) (h1 : x ≤ 9223372036854775807) : bits .xor .i64 x (-1) = -1 - x := by
  show IntKind.i64.wrap (((BitVec.ofInt 64 x ^^^ BitVec.ofInt 64 (-1)).toNat : Nat) : Int) = _
  have e : BitVec.ofInt 64 (-1) = BitVec.allOnes 64 := by decide
  rw [e, BitVec.xor_allOnes, BitVec.toNat_not, BitVec.toNat_ofInt, IntKind.wrap_i64]
  omega

theorem xor_none_i64 (x : Int) (h0 : -9223372036854775808 ≤ x) (h1 : x ≤ 9223372036854775807) : bits .xor .i64 x 0 = x := by
  show IntKind.i64.wrap (((BitVec.ofInt 64 x ^^^ BitVec.ofInt 64 0).toNat : Nat) : Int) = _
  have e : BitVec.ofInt 64 0 = 0#64 := by decide
  rw [e, BitVec.xor_zero, BitVec.toNat_ofInt, IntKind.wrap_i64]
  omega

theorem zag_bits (u : Int) (h0 : 0 ≤ u) (h1 : u < 18446744073709551616) :
    bits .xor .i64 (u / 2) (wrap64 (-wrap64 (bits .and .u64 u 1))) = zag u := by
  rw [and_one_u64 u h0 (by omega)]
  have e1 : wrap64 (u % 2) = u % 2 := IntWalk.wrap64_in _ ⟨by omega, by omega⟩
  have e2 : wrap64 (-(u % 2)) = -(u % 2) := IntWalk.wrap64_in _ ⟨by omega, by omega⟩
  rw [e1, e2]
  by_cases hn : u % 2 = 1
  · rw [zag_odd hn, hn, xor_all_i64 _ (by omega) (by omega)]; omega
  · have hz : u % 2 = 0 := by omega
    rw [zag_even hz, hz, show (-(0 : Int)) = 0 from rfl, xor_none_i64 _ (by omega) (by omega)]

theorem zig_bits_neg {n : Int} (h0 : -9223372036854775808 ≤ n) (hn : n < 0) :
    bits .xor .u64 (IntKind.u64.wrap (IntKind.u64.wrap n * 2)) (IntKind.u64.wrap (n / 9223372036854775808)) = zig n := by
  have e1 : IntKind.u64.wrap n = n + 18446744073709551616 := by rw [IntKind.wrap_u64]; omega
  have e2 : IntKind.u64.wrap ((n + 18446744073709551616) * 2) = 2 * n + 18446744073709551616 := by rw [IntKind.wrap_u64]; omega
  have e3 : n / 9223372036854775808 = -1 := by omega
  have e4 : IntKind.u64.wrap (-1) = 18446744073709551615 := by rw [IntKind.wrap_u64]; omega
  rw [e1, e2, e3, e4, xor_all _ (by omega) (by omega), zig_neg hn]
  omega

theorem zig_bits_pos {n : Int} (hn : 0 ≤ n) (h1 : n ≤ 9223372036854775807) :
    bits .xor .u64 (n * 2) (n / 9223372036854775808) = zig n := by
  have e3 : n / 9223372036854775808 = 0 := by omega
  rw [e3, xor_none _ (by omega) (by omega), zig_pos hn]
  omega

end Go.Proofs.Ytghgahcgbnpidaa
