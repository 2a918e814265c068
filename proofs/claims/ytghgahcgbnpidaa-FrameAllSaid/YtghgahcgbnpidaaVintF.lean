/-
  The number at a place of a string: the program's Get, and the document's.
-/
import Derived.Test.YtghgahcgbnpidaaVintP
namespace Go.Proofs.Ytghgahcgbnpidaa
open Go.RowKit

/-- What stands from a place on: the number, how many bytes it has, and what is wrong. -/
def getL : List UInt8 → Nat → Nat → Nat × Nat × Nat
  | [], _, _ => (0, 0, 2)
  | b :: r, k, u => if (k = 9 ∧ 1 < b.toNat) ∨ (0 < k ∧ b.toNat = 0) then (0, 0, 3) else if b.toNat < 128 then (u + b.toNat % 128 * 128 ^ k, k + 1, 0) else getL r (k + 1) (u + b.toNat % 128 * 128 ^ k)

/-- k bytes are gone through. -/
structure Got (s : ByteArray) (a k acc : Nat) : Prop where
  reads : getL (s.data.toList.drop a) 0 0 = getL (s.data.toList.drop (a + k)) k acc
  small : acc < 128 ^ k
  few : k ≤ 9
  inside : a + k ≤ s.size

theorem Got.zero {s : ByteArray} {a : Nat} (h : a ≤ s.size) : Got s a 0 0 := ⟨rfl, by simp, by omega, h⟩

theorem Got.ends {s : ByteArray} {a k acc : Nat} (h : Got s a k acc) (he : a + k = s.size) : getL (s.data.toList.drop a) 0 0 = (0, 0, 2) := by
  rw [h.reads, List.drop_eq_nil_of_le (by rw [← size_list]; omega)]; rfl

theorem Got.bad {s : ByteArray} {a k acc : Nat} (h : Got s a k acc) (he : a + k < s.size) (hb : (k = 9 ∧ 1 < bt s (a + k)) ∨ (0 < k ∧ bt s (a + k) = 0)) : getL (s.data.toList.drop a) 0 0 = (0, 0, 3) := by
  obtain ⟨b, e, eb⟩ := drop_bt s he
  rw [h.reads, e, getL, if_pos (by omega)]

theorem Got.last {s : ByteArray} {a k acc : Nat} (h : Got s a k acc) (he : a + k < s.size) (hb : ¬ ((k = 9 ∧ 1 < bt s (a + k)) ∨ (0 < k ∧ bt s (a + k) = 0))) (hl : bt s (a + k) < 128) :
    getL (s.data.toList.drop a) 0 0 = (acc + (bt s (a + k) % 128).toNat * 128 ^ k, k + 1, 0) := by
  obtain ⟨b, e, eb⟩ := drop_bt s he
  have e1 : b.toNat % 128 = (bt s (a + k) % 128).toNat := by omega
  rw [h.reads, e, getL, if_neg (by omega), if_pos (by omega), e1]

theorem Got.more {s : ByteArray} {a k acc : Nat} (h : Got s a k acc) (he : a + k < s.size) (hb : ¬ ((k = 9 ∧ 1 < bt s (a + k)) ∨ (0 < k ∧ bt s (a + k) = 0))) (hl : 128 ≤ bt s (a + k)) :
    Got s a (k + 1) (acc + (bt s (a + k) % 128).toNat * 128 ^ k) := by
  obtain ⟨b, e, eb⟩ := drop_bt s he
  have e1 : b.toNat % 128 = (bt s (a + k) % 128).toNat := by omega
  have hf := h.few
  have hs := h.small
  refine ⟨?_, ?_, by omega, by omega⟩
  · rw [h.reads, e, getL, if_neg (by omega), if_neg (by omega), e1, Nat.add_assoc]
  · have : (bt s (a + k) % 128).toNat ≤ 127 := by omega
    have := Nat.mul_le_mul_right (128 ^ k) this
    rw [Nat.pow_succ]
    omega

theorem pow_7 (k : Nat) : (2 : Nat) ^ (7 * k) = 128 ^ k := by rw [Nat.pow_mul]

/-- The digit k laid behind what is there. -/
theorem or_digit {acc k : Nat} {c : Int} (hs : acc < 128 ^ k) (hk : k ≤ 9) (h0 : 0 ≤ c) (h1 : c ≤ 127) (h9 : k = 9 → c ≤ 1) :
    bits .or .u64 (acc : Int) (IntKind.u64.wrap (c * 2 ^ (7 * k))) = ((acc + c.toNat * 128 ^ k : Nat) : Int) ∧ acc + c.toNat * 128 ^ k < 18446744073709551616 := by
  obtain ⟨d, rfl⟩ := Int.eq_ofNat_of_zero_le h0
  have hp : (128 : Nat) ^ k * (if k = 9 then 2 else 128) ≤ 18446744073709551616 := by
    have hk' : k = 0 ∨ k = 1 ∨ k = 2 ∨ k = 3 ∨ k = 4 ∨ k = 5 ∨ k = 6 ∨ k = 7 ∨ k = 8 ∨ k = 9 := by omega
    rcases hk' with rfl | rfl | rfl | rfl | rfl | rfl | rfl | rfl | rfl | rfl <;> decide
  have hd : d + 1 ≤ (if k = 9 then 2 else 128) := by split <;> omega
  have hm := Nat.mul_le_mul_left (128 ^ k) hd
  have hb : acc + d * 128 ^ k < 18446744073709551616 := by
    rw [Nat.mul_add, Nat.mul_one, Nat.mul_comm] at hm
    omega
  have e1 : ((d : Int) * 2 ^ (7 * k)) = ((d * 2 ^ (7 * k) : Nat) : Int) := by rw [Int.natCast_mul, Int.natCast_pow]; rfl
  have hlt : d * 2 ^ (7 * k) < 18446744073709551616 := by rw [pow_7]; omega
  have e2 : IntKind.u64.wrap ((d * 2 ^ (7 * k) : Nat) : Int) = ((d * 2 ^ (7 * k) : Nat) : Int) := IntWalk.u64_in _ ⟨by omega, by omega⟩
  have e3 : acc ||| d * 2 ^ (7 * k) = d * 2 ^ (7 * k) + acc := by
    rw [Nat.or_comm, Nat.mul_comm, Nat.two_pow_add_eq_or_of_lt (by rw [pow_7]; exact hs)]
  rw [Int.toNat_natCast]
  refine ⟨?_, hb⟩
  rw [e1, e2, bits_or_u64_nat _ _ (by omega) hlt, e3, pow_7, Nat.add_comm]

/-- What Get answers. -/
def getV (s : ByteArray) (a : Nat) : Nat × Nat × Nat :=
  if (getL (s.data.toList.drop a) 0 0).2.2 = 0 then ((getL (s.data.toList.drop a) 0 0).1, a + (getL (s.data.toList.drop a) 0 0).2.1, 0) else (0, 0, (getL (s.data.toList.drop a) 0 0).2.2)

def tup3 (x : Nat × Nat × Nat) : Ending := .returned (.tuple #[.int .u64 x.1, .int .i64 x.2.1, .int .i64 x.2.2])

theorem getV_bad {s : ByteArray} {a c : Nat} (h : getL (s.data.toList.drop a) 0 0 = (0, 0, c)) (hc : c ≠ 0) : getV s a = (0, 0, c) := by
  unfold getV; rw [h]; simp [hc]
theorem getV_ok {s : ByteArray} {a u k : Nat} (h : getL (s.data.toList.drop a) 0 0 = (u, k, 0)) : getV s a = (u, a + k, 0) := by
  unfold getV; rw [h]; simp

theorem ret_bad {s : ByteArray} {a : Nat} (c : Nat) (h : getL (s.data.toList.drop a) 0 0 = (0, 0, c)) (hc : c ≠ 0) : Ending.returned (.tuple #[.int .u64 0, .int .i64 0, .int .i64 (c : Int)]) = tup3 (getV s a) := by
  rw [getV_bad h hc]; rfl
theorem ret_last {s : ByteArray} {a u k : Nat} {U X : Int} (h : getL (s.data.toList.drop a) 0 0 = (u, k + 1, 0)) (hU : U = (u : Int)) (hX : X = (a : Int) + k + 1) : Ending.returned (.tuple #[.int .u64 U, .int .i64 X, .int .i64 0]) = tup3 (getV s a) := by
  rw [getV_ok h, hU, hX]
  have e : ((a + (k + 1) : Nat) : Int) = (a : Int) + k + 1 := by omega
  show _ = Ending.returned (.tuple #[.int .u64 (u : Int), .int .i64 ((a + (k + 1) : Nat) : Int), .int .i64 ((0 : Nat) : Int)])
  rw [e]; rfl

set_option maxHeartbeats 400000 in
theorem get_in (s : ByteArray) (a : Nat) (w : World) (hs : s.size ≤ 1000000) (ha : a ≤ s.size) :
    Calls Try.prog 27 #[.string s, .int .i64 a] w fun e w' => e = tup3 (getV s a) ∧ w = w' := by
  have hb := get_bt s
  have hn : decide (s.size < a) = false := by simp; omega
  have hn0 : decide ((a : Int) < 0) = false := by simp
  go_enter Try.func27, Try.ntmps27
  go_wp2
  go_step3
  go_wp2
  go_step3
  go_wp2
  go_loop [7, 8, 9] (fun u nx i => ∃ k acc : Nat, u = .int .u64 acc ∧ nx = .int .i64 ((a : Int) + k) ∧ i = .int .i64 k ∧ Got s a k acc) (fun _ _ i => 9 - (intOf i).toNat)
  case atStart => exact ⟨0, 0, rfl, by simp, rfl, Got.zero ha⟩
  case round =>
    obtain ⟨k, acc, rfl, rfl, rfl, hG⟩ := hrel
    have hk := hG.few
    have hin := hG.inside
    have hbd := bt_bd s (a + k)
    by_cases hend : a + k = s.size
    · have ht : ((a : Int) + k == (s.size : Int)) = true := by simp; omega
      have HE := keep hend
      clear hend
      go_wp2
      go_ret3
      exact ⟨ret_bad 2 (hG.ends HE.out) (by omega), rfl⟩
    · have hlt : a + k < s.size := by omega
      have ht : ((a : Int) + k == (s.size : Int)) = false := by simp; omega
      clear hend
      go_wp2
      · go_ret3; exact ⟨ret_bad 3 (hG.bad hlt (by omega)) (by omega), rfl⟩
      · have hz := WalkArith.int_eq (show (bt s (a + k) == 0) = true by assumption)
        go_ret3; exact ⟨ret_bad 3 (hG.bad hlt (by omega)) (by omega), rfl⟩
      · have hz := WalkArith.int_ne (show (bt s (a + k) == 0) = false by assumption)
        go_ret3; exact ⟨ret_last (hG.last hlt (by omega) (by omega)) (or_digit (c := bt s (a + k) % 128) hG.small hk (by omega) (by omega) (by omega)).1 (by omega), rfl⟩
      · have hz := WalkArith.int_eq (show (bt s (a + k) == 0) = true by assumption)
        go_ret3; exact ⟨ret_bad 3 (hG.bad hlt (by omega)) (by omega), rfl⟩
      · have hz := WalkArith.int_ne (show (bt s (a + k) == 0) = false by assumption)
        go_ret3; exact ⟨ret_last (hG.last hlt (by omega) (by omega)) (or_digit (c := bt s (a + k) % 128) hG.small hk (by omega) (by omega) (by omega)).1 (by omega), rfl⟩
      · have hz := WalkArith.int_ne (show (bt s (a + k) == 0) = false by assumption)
        go_round
        case rel => exact ⟨k + 1, _, val_int (or_digit (c := bt s (a + k) % 128) hG.small hk (by omega) (by omega) (by omega)).1, val_int (by omega), by go_num, hG.more hlt (by omega) (by omega)⟩
        case measure => simp [intOf]; omega
      · go_ret3; exact ⟨ret_last (hG.last hlt (by omega) (by omega)) (or_digit (c := bt s (a + k) % 128) hG.small hk (by omega) (by omega) (by omega)).1 (by omega), rfl⟩
      · go_round
        case rel => exact ⟨k + 1, _, val_int (or_digit (c := bt s (a + k) % 128) hG.small hk (by omega) (by omega) (by omega)).1, val_int (by omega), by go_num, hG.more hlt (by omega) (by omega)⟩
        case measure => simp [intOf]; omega
end Go.Proofs.Ytghgahcgbnpidaa
