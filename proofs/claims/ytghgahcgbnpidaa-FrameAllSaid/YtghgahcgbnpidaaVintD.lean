/-
  How many bytes a number has: the program's Size, by the library's Len64.
-/
import Derived.Test.YtghgahcgbnpidaaVintC
namespace Go.Proofs.Ytghgahcgbnpidaa
open Go.RowKit

/-- How many bits a number has. -/
def bl (x : Nat) : Nat := if x = 0 then 0 else x.log2 + 1

theorem bl_bd {x : Nat} (h : x ≠ 0) : 2 ^ (bl x - 1) ≤ x ∧ x < 2 ^ bl x ∧ 1 ≤ bl x := by
  unfold bl
  rw [if_neg h]
  exact ⟨by simpa using Nat.log2_self_le h, Nat.lt_log2_self, by omega⟩

theorem bl_of {x k : Nat} (h1 : 2 ^ k ≤ x) (h2 : x < 2 ^ (k + 1)) : bl x = k + 1 := by
  have h0 : x ≠ 0 := by have := Nat.one_le_pow k 2 (by omega); omega
  obtain ⟨a, b, c⟩ := bl_bd h0
  have l1 : bl x - 1 < k + 1 := (Nat.pow_lt_pow_iff_right (by omega)).1 (Nat.lt_of_le_of_lt a h2)
  have l2 : k < bl x := (Nat.pow_lt_pow_iff_right (by omega)).1 (Nat.lt_of_le_of_lt h1 b)
  omega

theorem bl_shift {x n : Nat} (h : 2 ^ n ≤ x) : bl x = n + bl (x / 2 ^ n) := by
  have hp : 0 < 2 ^ n := Nat.two_pow_pos n
  have h0 : x / 2 ^ n ≠ 0 := by have := Nat.div_pos h hp; omega
  obtain ⟨a, b, c⟩ := bl_bd h0
  have e : n + bl (x / 2 ^ n) = (n + (bl (x / 2 ^ n) - 1)) + 1 := by omega
  rw [e]
  refine bl_of ?_ ?_
  · rw [Nat.pow_add, Nat.mul_comm]; exact (Nat.le_div_iff_mul_le hp).1 a
  · rw [show n + (bl (x / 2 ^ n) - 1) + 1 = bl (x / 2 ^ n) + n from by omega, Nat.pow_add]
    exact (Nat.div_lt_iff_lt_mul hp).1 b

def tabL : List UInt8 := (List.range 256).map fun i => UInt8.ofNat (bl i)

theorem tab_get {A : ByteArray} (hA : A = ⟨tabL.toArray⟩) {y : Nat} (hy : y < 256) (hi : y < A.size) : (A[y]'hi).toNat = bl y := by
  subst hA
  have hb : bl y < 256 := by
    by_cases e : y = 0
    · subst e; decide
    · obtain ⟨a, b, c⟩ := bl_bd e
      have : bl y - 1 < 8 := (Nat.pow_lt_pow_iff_right (a := 2) (by omega)).1 (by omega)
      omega
  have e : (⟨tabL.toArray⟩ : ByteArray)[y]'hi = tabL[y]'(by simp [tabL]; omega) := rfl
  rw [e]
  simp [tabL]
  omega

theorem bl_small {y : Nat} (hy : y < 256) : bl y ≤ 8 := by
  by_cases e : y = 0
  · subst e; decide
  · obtain ⟨a, b, c⟩ := bl_bd e
    have : bl y - 1 < 8 := (Nat.pow_lt_pow_iff_right (a := 2) (by omega)).1 (by omega)
    omega

theorem leaf0 {A : ByteArray} (hA : A = ⟨tabL.toArray⟩) {x : Int} (h0 : 0 ≤ x) (hlt : x < 256) (hi : x.toNat < A.size) : wrap64 (wrap64 ((A[x.toNat]'hi).toNat : Int)) = (bl x.toNat : Int) := by
  have hb := bl_small (y := x.toNat) (by omega)
  have e1 : wrap64 ((bl x.toNat : Nat) : Int) = (bl x.toNat : Int) := IntWalk.wrap64_in _ ⟨by omega, by omega⟩
  rw [tab_get hA (by omega) hi, e1, e1]

theorem wsum (n b : Nat) (hn : n ≤ 56) (hb : b ≤ 8) : wrap64 ((n : Int) + wrap64 (b : Int)) = ((n + b : Nat) : Int) := by
  have e1 : wrap64 (b : Int) = (b : Int) := IntWalk.wrap64_in _ ⟨by omega, by omega⟩
  have e2 : wrap64 ((n : Int) + (b : Int)) = (n : Int) + (b : Int) := IntWalk.wrap64_in _ ⟨by omega, by omega⟩
  rw [e1, e2, Int.natCast_add]

theorem leaf {A : ByteArray} (hA : A = ⟨tabL.toArray⟩) {x y N : Int} (n : Nat) (M : Int) (hM : M.toNat = 2 ^ n) (hM0 : 0 < M) (hN : N = n) (hn : n ≤ 56) (h0 : 0 ≤ x) (hy : y = x / M) (hbig : M ≤ x) (hlt : y < 256) (hi : y.toNat < A.size) :
    wrap64 (N + wrap64 ((A[y.toNat]'hi).toNat : Int)) = (bl x.toNat : Int) := by
  have hy0 : 0 ≤ y := by rw [hy]; exact Int.ediv_nonneg h0 (by omega)
  have hb := bl_small (y := y.toNat) (by omega)
  have e : y.toNat = x.toNat / 2 ^ n := by
    obtain ⟨a, rfl⟩ := Int.eq_ofNat_of_zero_le h0
    have hm : M = ((2 ^ n : Nat) : Int) := by omega
    rw [hy, hm, ← Int.natCast_ediv, Int.toNat_natCast, Int.toNat_natCast]
  have hs := bl_shift (x := x.toNat) (n := n) (by rw [← hM]; omega)
  rw [tab_get hA (by omega) hi, hN, wsum n _ hn hb, hs, ← e]

set_option maxRecDepth 100000 in
set_option maxHeartbeats 1000000 in
theorem len64_any (x : Int) (w : World) (h0 : 0 ≤ x) (h1 : x ≤ 18446744073709551615) :
    Calls Try.prog 37 #[.int .u64 x] w fun e w' => e = .returned (.int .i64 (bl x.toNat)) ∧ w = w' := by
  go_enter Try.func37, Try.ntmps37
  go_wp2
  · go_ret; exact ⟨ret_int (leaf (by decide +kernel) 56 72057594037927936 (by decide) (by omega) (by omega) (by omega) h0 (by omega) (by omega) (by omega) _), rfl⟩
  · go_ret; exact ⟨ret_int (leaf (by decide +kernel) 48 281474976710656 (by decide) (by omega) (by omega) (by omega) h0 (by omega) (by omega) (by omega) _), rfl⟩
  · go_ret; exact ⟨ret_int (leaf (by decide +kernel) 40 1099511627776 (by decide) (by omega) (by omega) (by omega) h0 (by omega) (by omega) (by omega) _), rfl⟩
  · go_ret; exact ⟨ret_int (leaf (by decide +kernel) 32 4294967296 (by decide) (by omega) (by omega) (by omega) h0 (by omega) (by omega) (by omega) _), rfl⟩
  · go_ret; exact ⟨ret_int (leaf (by decide +kernel) 24 16777216 (by decide) (by omega) (by omega) (by omega) h0 (by omega) (by omega) (by omega) _), rfl⟩
  · go_ret; exact ⟨ret_int (leaf (by decide +kernel) 16 65536 (by decide) (by omega) (by omega) (by omega) h0 (by omega) (by omega) (by omega) _), rfl⟩
  · go_ret; exact ⟨ret_int (leaf (by decide +kernel) 8 256 (by decide) (by omega) (by omega) (by omega) h0 (by omega) (by omega) (by omega) _), rfl⟩
  · go_ret; exact ⟨ret_int (leaf0 (by decide +kernel) h0 (by omega) _), rfl⟩
end Go.Proofs.Ytghgahcgbnpidaa
