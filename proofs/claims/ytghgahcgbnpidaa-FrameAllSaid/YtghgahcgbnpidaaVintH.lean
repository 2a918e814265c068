/-
  Get and GetInt at every place.
-/
import Derived.Test.YtghgahcgbnpidaaVintG
namespace Go.Proofs.Ytghgahcgbnpidaa
open Go.RowKit

/-- What Get answers, at whatever place. -/
def getI (s : ByteArray) (at_ : Int) : Nat × Nat × Nat := if 0 ≤ at_ ∧ at_ ≤ s.size then getV s at_.toNat else (0, 0, 1)

theorem getI_in {s : ByteArray} {a : Nat} (h : a ≤ s.size) : getI s a = getV s a := by
  unfold getI; rw [if_pos ⟨by omega, by omega⟩, Int.toNat_natCast]
theorem getI_out {s : ByteArray} {at_ : Int} (h : at_ < 0 ∨ s.size < at_) : getI s at_ = (0, 0, 1) := by
  unfold getI; rw [if_neg (by omega)]

theorem getL_bd : ∀ (l : List UInt8) (k u : Nat), u < 128 ^ k → k ≤ 9 → (getL l k u).1 < 18446744073709551616
  | [], k, u, _, _ => by simp [getL]
  | b :: r, k, u, hu, hk => by
    unfold getL
    split
    · simp
    · rename_i hb
      have hb9 : k = 9 → b.toNat ≤ 1 := by omega
      have h := (or_digit (acc := u) (k := k) (c := ((b.toNat % 128 : Nat) : Int)) hu hk (by omega) (by omega) (by omega)).2
      rw [Int.toNat_natCast] at h
      split
      · exact h
      · refine getL_bd r (k + 1) _ ?_ (by omega)
        have : b.toNat % 128 ≤ 127 := by omega
        have := Nat.mul_le_mul_right (128 ^ k) this
        rw [Nat.pow_succ]
        omega

theorem getV_bd (s : ByteArray) (a : Nat) : (getV s a).1 < 18446744073709551616 := by
  have := getL_bd (s.data.toList.drop a) 0 0 (by simp) (by omega)
  unfold getV; split
  · exact this
  · simp
theorem getI_bd (s : ByteArray) (at_ : Int) : (getI s at_).1 < 18446744073709551616 := by
  unfold getI; split
  · exact getV_bd _ _
  · simp

theorem tup_out {s : ByteArray} {at_ : Int} (h : at_ < 0 ∨ s.size < at_) : Ending.returned (.tuple #[.int .u64 0, .int .i64 0, .int .i64 1]) = tup3 (getI s at_) := by rw [getI_out h]; rfl
theorem agg_out {s : ByteArray} {at_ : Int} (h : at_ < 0 ∨ s.size < at_) : Ending.returned (.agg #[.int .u64 0, .int .i64 0, .int .i64 1]) = agg3 (getI s at_) := by rw [getI_out h]; rfl

set_option maxHeartbeats 400000 in
theorem get_any (s : ByteArray) (at_ : Int) (w : World) (hs : s.size ≤ 1000000) :
    Calls Try.prog 27 #[.string s, .int .i64 at_] w fun e w' => e = tup3 (getI s at_) ∧ w = w' := by
  by_cases h0 : at_ < 0
  · go_enter Try.func27, Try.ntmps27
    go_wp2
    go_step3
    go_wp2
    (try rw [Exit.noGoto_ret])
    go_ret3
    exact ⟨tup_out (.inl (by omega)), rfl⟩
  · by_cases h1 : (s.size : Int) < at_
    · go_enter Try.func27, Try.ntmps27
      go_wp2
      go_step3
      go_wp2
      (try rw [Exit.noGoto_ret])
      go_ret3
      exact ⟨tup_out (.inr (by omega)), rfl⟩
    · obtain ⟨a, rfl⟩ := Int.eq_ofNat_of_zero_le (show 0 ≤ at_ by omega)
      rw [getI_in (by omega)]
      exact get_in s a w hs (by omega)

set_option maxHeartbeats 400000 in
theorem refGet_any (s : ByteArray) (at_ : Int) (w : World) (hs : s.size ≤ 1000000) :
    Calls Try.prog 29 #[.string s, .int .i64 at_] w fun e w' => e = agg3 (getI s at_) ∧ Below w.heap.size w w' := by
  by_cases h0 : at_ < 0
  · go_enter Try.func29, Try.ntmps29
    go_wp2
    go_returns
    exact ⟨agg_out (.inl (by omega)), (Below.refl _ _).alloc (Nat.le_refl _) _⟩
  · by_cases h1 : (s.size : Int) < at_
    · go_enter Try.func29, Try.ntmps29
      go_wp2
      go_returns
      exact ⟨agg_out (.inr (by omega)), (Below.refl _ _).alloc (Nat.le_refl _) _⟩
    · obtain ⟨a, rfl⟩ := Int.eq_ofNat_of_zero_le (show 0 ≤ at_ by omega)
      rw [getI_in (by omega)]
      exact refGet_in s a w hs (by omega)

end Go.Proofs.Ytghgahcgbnpidaa
