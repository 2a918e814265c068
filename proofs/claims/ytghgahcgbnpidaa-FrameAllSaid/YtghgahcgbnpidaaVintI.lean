/-
  What was put is got; what is got, put again, is the same bytes: plain mathematics.
-/
import Derived.Test.YtghgahcgbnpidaaVintH
namespace Go.Proofs.Ytghgahcgbnpidaa
open Go.RowKit

theorem getL_num (f : Nat) : ∀ (u k acc : Nat) (r : List UInt8), u < 128 ^ (f + 1) → acc + u * 128 ^ k < 18446744073709551616 → (0 < k → 0 < u) → k ≤ 9 →
    getL (numF f u ++ r) k acc = (acc + u * 128 ^ k, k + (numF f u).length, 0) := by
  have one : ∀ (u k acc : Nat) (r : List UInt8), u < 128 → acc + u * 128 ^ k < 18446744073709551616 → (0 < k → 0 < u) → k ≤ 9 → getL (UInt8.ofNat u :: r) k acc = (acc + u * 128 ^ k, k + 1, 0) := by
    intro u k acc r hu hs hz hk
    have e : (UInt8.ofNat u).toNat = u := by simp; omega
    have h9 : k = 9 → u ≤ 1 := by
      rintro rfl
      have e9 : (128 : Nat) ^ 9 = 9223372036854775808 := by decide
      rw [e9] at hs
      omega
    unfold getL
    rw [e, if_neg (by omega), if_pos hu, Nat.mod_eq_of_lt hu]
  induction f with
  | zero =>
    intro u k acc r hu hs hz hk
    simp only [numF, List.cons_append, List.nil_append, List.length_cons, List.length_nil]
    exact one u k acc r (by omega) hs hz hk
  | succ f ih =>
    intro u k acc r hu hs hz hk
    by_cases h : u < 128
    · simp only [numF, h, if_true, List.cons_append, List.nil_append, List.length_cons, List.length_nil]
      exact one u k acc r h hs hz hk
    · have e1 : numF (f + 1) u = UInt8.ofNat (u % 128 + 128) :: numF f (u / 128) := by simp only [numF, h, if_false]
      have eb : (UInt8.ofNat (u % 128 + 128)).toNat = u % 128 + 128 := by simp; omega
      have hp : 128 ^ (k + 1) = 128 ^ k * 128 := Nat.pow_succ ..
      have hd : u * 128 ^ k = u % 128 * 128 ^ k + u / 128 * 128 ^ (k + 1) := by
        rw [hp, ← Nat.mul_assoc, Nat.mul_right_comm, ← Nat.add_mul, Nat.mul_comm (u / 128), Nat.mod_add_div]
      have hk8 : k ≤ 8 := by
        rcases Nat.lt_or_ge k 9 with h8 | h8
        · omega
        · obtain rfl : k = 9 := by omega
          have e9 : (128 : Nat) ^ 9 = 9223372036854775808 := by decide
          rw [e9] at hs
          omega
      have hu' : u / 128 < 128 ^ (f + 1) := by
        rw [Nat.div_lt_iff_lt_mul (by omega)]; rw [Nat.pow_succ] at hu; exact hu
      rw [e1, List.cons_append]
      unfold getL
      rw [eb, if_neg (by omega), if_neg (by omega), show (u % 128 + 128) % 128 = u % 128 from by omega, ih (u / 128) (k + 1) _ r hu' (by omega) (by omega) (by omega), hd]
      simp only [List.length_cons, Prod.mk.injEq]
      exact ⟨by omega, by omega, trivial⟩

theorem getL_put {u : Nat} (hu : u < 18446744073709551616) (r : List UInt8) : getL (num u ++ r) 0 0 = (u, (num u).length, 0) := by
  have h := getL_num 10 u 0 0 r (by omega) (by simpa using hu) (by omega) (by omega)
  simpa [num] using h

/-- What is got is what its bytes say. -/
theorem getL_back : ∀ (l : List UInt8) (k acc v c : Nat), k ≤ 9 → getL l k acc = (v, c, 0) →
    ∃ u n, v = acc + u * 128 ^ k ∧ c = k + n ∧ n ≤ l.length ∧ (0 < k → 0 < u) ∧ u < 128 ^ n ∧ 1 ≤ n ∧ n + k ≤ 10 ∧ ∀ f, u < 128 ^ (f + 1) → numF f u = l.take n
  | [], k, acc, v, c, _, h => by simp [getL] at h
  | b :: r, k, acc, v, c, hk, h => by
    unfold getL at h
    have hb := b.toNat_lt
    split at h
    · simp at h
    · rename_i hbad
      split at h
      · rename_i hl
        simp only [Prod.mk.injEq] at h
        refine ⟨b.toNat, 1, by rw [← h.1, Nat.mod_eq_of_lt hl], by omega, by simp, by omega, by omega, by omega, by omega, ?_⟩
        intro f hf
        cases f with
        | zero => simp [numF]
        | succ f => simp [numF, hl]
      · rename_i hl
        obtain ⟨u, n, hv, hc, hn, hz, hlt, h1, h10, hf⟩ := getL_back r (k + 1) _ v c (by omega) h
        have hp : 128 ^ (k + 1) = 128 ^ k * 128 := Nat.pow_succ ..
        have hu0 := hz (by omega)
        have ed : (b.toNat % 128 + u * 128) / 128 = u := by omega
        have em : (b.toNat % 128 + u * 128) % 128 = b.toNat % 128 := by omega
        refine ⟨b.toNat % 128 + u * 128, n + 1, ?_, by omega, by simp; omega, by omega, ?_, by omega, by omega, ?_⟩
        · rw [hv, hp, Nat.add_mul, Nat.mul_assoc u, Nat.mul_comm 128, Nat.add_assoc]
        · rw [Nat.pow_succ]; omega
        · intro f hfu
          cases f with
          | zero => exfalso; omega
          | succ f =>
            have hfu' : u < 128 ^ (f + 1) := by
              have : 128 ^ (f + 1 + 1) = 128 ^ (f + 1) * 128 := Nat.pow_succ ..
              omega
            have e1 : numF (f + 1) (b.toNat % 128 + u * 128) = UInt8.ofNat ((b.toNat % 128 + u * 128) % 128 + 128) :: numF f ((b.toNat % 128 + u * 128) / 128) := by
              have : ¬ b.toNat % 128 + u * 128 < 128 := by omega
              simp only [numF, this, if_false]
            rw [e1, em, ed, hf f hfu', List.take_succ_cons]
            congr 1
            apply UInt8.toNat_inj.1
            simp
            omega

theorem getL_again {l : List UInt8} {v c : Nat} (h : getL l 0 0 = (v, c, 0)) : num v = l.take c ∧ c ≤ l.length := by
  have hb := getL_bd l 0 0 (by simp) (by omega)
  rw [h] at hb
  obtain ⟨u, n, hv, hc, hn, _, _, _, _, hf⟩ := getL_back l 0 0 v c (by omega) h
  simp at hv hc
  subst hv hc
  exact ⟨hf 10 (by simp only at hb; omega), hn⟩

/-- What was put is got, whatever stands ahead and behind. -/
theorem getV_put (a b : ByteArray) {u : Nat} (hu : u < 18446744073709551616) (s : ByteArray) (hs : s.data.toList = a.data.toList ++ num u ++ b.data.toList) : getV s a.size = (u, a.size + (num u).length, 0) := by
  refine getV_ok ?_
  rw [hs, List.append_assoc, List.drop_append_of_le_length (by rw [← size_list]; omega), List.drop_eq_nil_of_le (by rw [← size_list]; omega), List.nil_append]
  exact getL_put hu _

/-- What is got, put again, is the same bytes. -/
theorem getV_again (b : ByteArray) {v c : Nat} (h : getV b 0 = (v, c, 0)) : b.extract 0 c = ⟨(num v).toArray⟩ ∧ c ≤ b.size := by
  unfold getV at h
  split at h
  · rename_i he
    simp only [Prod.mk.injEq, Nat.zero_add, and_true] at h
    have e : getL (b.data.toList.drop 0) 0 0 = (v, c, 0) := by
      rw [← h.1, ← h.2]; exact Prod.ext rfl (Prod.ext rfl he)
    have := getL_again e
    rw [List.drop_zero] at this
    refine ⟨?_, by rw [size_list]; exact this.2⟩
    apply ByteArray.ext
    rw [this.1]
    apply Array.toList_inj.1
    simp [List.extract]
  · rename_i he
    simp only [Prod.mk.injEq] at h
    exact absurd h.2.2 he
end Go.Proofs.Ytghgahcgbnpidaa
