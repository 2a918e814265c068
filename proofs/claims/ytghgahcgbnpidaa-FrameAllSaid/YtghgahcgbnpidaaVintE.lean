/-
  The program's Size.
-/
import Derived.Test.YtghgahcgbnpidaaVintD
namespace Go.Proofs.Ytghgahcgbnpidaa
open Go.RowKit

theorem bl_odd {w : Nat} (h : 1 ≤ w) : bl (w / 2 * 2 + 1) = bl w := by
  by_cases h2 : 2 ≤ w
  · have a := bl_shift (x := w) (n := 1) (by omega)
    have b := bl_shift (x := w / 2 * 2 + 1) (n := 1) (by omega)
    rw [a, b]
    congr 2
    omega
  · obtain rfl : w = 1 := by omega
    rfl

theorem numF_bl (f : Nat) : ∀ u, u < 128 ^ (f + 1) → (numF f u).length = (bl (u / 2 * 2 + 1) + 6) / 7 := by
  have small : ∀ u, u < 128 → (bl (u / 2 * 2 + 1) + 6) / 7 = 1 := by
    intro u hu
    have h0 : u / 2 * 2 + 1 ≠ 0 := by omega
    obtain ⟨a, b, c⟩ := bl_bd h0
    have : bl (u / 2 * 2 + 1) - 1 < 7 := (Nat.pow_lt_pow_iff_right (a := 2) (by omega)).1 (by omega)
    omega
  induction f with
  | zero => intro u hu; rw [small u (by omega)]; rfl
  | succ f ih =>
    intro u hu
    by_cases h : u < 128
    · rw [small u h]; simp [numF, h]
    · have e : u / 128 < 128 ^ (f + 1) := by
        rw [Nat.div_lt_iff_lt_mul (by omega)]; rw [Nat.pow_succ] at hu; exact hu
      have hs := bl_shift (x := u) (n := 7) (by omega)
      have hl : (numF (f + 1) u).length = (numF f (u / 128)).length + 1 := by simp [numF, h]
      rw [hl, ih _ e, bl_odd (by omega), bl_odd (by omega), hs, show (2 : Nat) ^ 7 = 128 from rfl]
      omega

theorem num_bl {u : Nat} (hu : u < 18446744073709551616) : (num u).length = (bl (u / 2 * 2 + 1) + 6) / 7 := numF_bl 10 u (by omega)

theorem or_one (u : Int) (h0 : 0 ≤ u) (h1 : u < 18446744073709551616) : bits .or .u64 u 1 = u / 2 * 2 + 1 := by
  obtain ⟨a, rfl⟩ := Int.eq_ofNat_of_zero_le h0
  have h := bits_or_u64_nat a 1 (by omega) (by omega)
  rw [show ((1 : Nat) : Int) = 1 from rfl] at h
  have e1 : (a ||| 1) / 2 = a / 2 := by rw [Nat.or_div_two]; simp
  have e2 : (a ||| 1) % 2 = 1 := by simp [Nat.or_mod_two_eq_one]
  rw [h]
  omega

set_option maxHeartbeats 400000 in
theorem size_any (u : Int) (w : World) (h0 : 0 ≤ u) (h1 : u < 18446744073709551616) :
    Calls Try.prog 35 #[.int .u64 u] w fun e w' => e = .returned (.int .i64 ((num u.toNat).length)) ∧ w = w' := by
  have hor := or_one u h0 h1
  have hb : bl (u / 2 * 2 + 1).toNat ≤ 64 := by
    have h : (u / 2 * 2 + 1).toNat ≠ 0 := by omega
    obtain ⟨a, b, c⟩ := bl_bd h
    have : bl (u / 2 * 2 + 1).toNat - 1 < 64 := (Nat.pow_lt_pow_iff_right (a := 2) (by omega)).1 (by omega)
    omega
  have hn := num_bl (u := u.toNat) (by omega)
  have e : (u / 2 * 2 + 1).toNat = u.toNat / 2 * 2 + 1 := by omega
  rw [← e] at hn
  have HN := keep hn
  clear hn e
  have HC := len64_any (u / 2 * 2 + 1) w (by omega) (by omega)
  have HC := keep HC
  clear h1
  generalize bl (u / 2 * 2 + 1).toNat = n at *
  go_enter Try.func35, Try.ntmps35
  go_wp2_with fail
  refine HC.out.mono ?_
  rintro e w' ⟨rfl, rfl⟩
  go_wp2_with fail
  go_ret
  exact ⟨ret_int (by rw [HN.out]; omega), rfl⟩

end Go.Proofs.Ytghgahcgbnpidaa
