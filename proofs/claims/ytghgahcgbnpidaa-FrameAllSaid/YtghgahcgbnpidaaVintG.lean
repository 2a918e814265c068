/-
  The document's Get, and the program's at every place; GetInt.
-/
import Derived.Test.YtghgahcgbnpidaaVintF
namespace Go.Proofs.Ytghgahcgbnpidaa
open Go.RowKit

def agg3 (x : Nat × Nat × Nat) : Ending := .returned (.agg #[.int .u64 x.1, .int .i64 x.2.1, .int .i64 x.2.2])

theorem pow_128 {k : Nat} (hk : k ≤ 9) : 128 ^ k ≤ 9223372036854775808 := by
  have hk' : k = 0 ∨ k = 1 ∨ k = 2 ∨ k = 3 ∨ k = 4 ∨ k = 5 ∨ k = 6 ∨ k = 7 ∨ k = 8 ∨ k = 9 := by omega
  rcases hk' with rfl | rfl | rfl | rfl | rfl | rfl | rfl | rfl | rfl | rfl <;> decide

theorem agg_bad {s : ByteArray} {a : Nat} (c : Nat) (h : getL (s.data.toList.drop a) 0 0 = (0, 0, c)) (hc : c ≠ 0) : Ending.returned (.agg #[.int .u64 0, .int .i64 0, .int .i64 (c : Int)]) = agg3 (getV s a) := by
  rw [getV_bad h hc]; rfl
theorem agg_last {s : ByteArray} {a u k : Nat} {U X : Int} (h : getL (s.data.toList.drop a) 0 0 = (u, k + 1, 0)) (hU : U = (u : Int)) (hX : X = (a : Int) + k + 1) : Ending.returned (.agg #[.int .u64 U, .int .i64 X, .int .i64 0]) = agg3 (getV s a) := by
  rw [getV_ok h, hU, hX]
  have e : ((a + (k + 1) : Nat) : Int) = (a : Int) + k + 1 := by omega
  show _ = Ending.returned (.agg #[.int .u64 (u : Int), .int .i64 ((a + (k + 1) : Nat) : Int), .int .i64 ((0 : Nat) : Int)])
  rw [e]; rfl

theorem sum_digit {acc k P : Nat} {c : Int} (hs : acc < P) (hp : 128 ^ k = P) (hk : k ≤ 9) (h0 : 0 ≤ c) (h1 : c ≤ 127) (h9 : k = 9 → c ≤ 1) :
    IntKind.u64.wrap ((acc : Int) + IntKind.u64.wrap (c * (P : Int))) = ((acc + c.toNat * 128 ^ k : Nat) : Int) ∧ acc + c.toNat * 128 ^ k < 18446744073709551616 := by
  have h := (or_digit (acc := acc) (k := k) (by rw [hp]; exact hs) hk h0 h1 h9).2
  obtain ⟨d, rfl⟩ := Int.eq_ofNat_of_zero_le h0
  rw [Int.toNat_natCast] at h ⊢
  refine ⟨?_, h⟩
  rw [← hp]
  have e1 : (d : Int) * ((128 ^ k : Nat) : Int) = ((d * 128 ^ k : Nat) : Int) := by rw [Int.natCast_mul]
  rw [e1]
  generalize d * 128 ^ k = D at *
  have e2 : IntKind.u64.wrap (D : Int) = (D : Int) := IntWalk.u64_in _ ⟨by omega, by omega⟩
  have e3 : IntKind.u64.wrap ((acc : Int) + (D : Int)) = (acc : Int) + (D : Int) := IntWalk.u64_in _ ⟨by omega, by omega⟩
  rw [e2, e3, Int.natCast_add]

theorem unit_next {k P : Nat} (hp : 128 ^ k = P) (hk : k ≤ 8) : IntKind.u64.wrap ((P : Int) * 128) = ((P * 128 : Nat) : Int) := by
  have h := pow_128 (k := k + 1) (by omega)
  rw [Nat.pow_succ, hp] at h
  rw [IntWalk.u64_in _ ⟨by omega, by omega⟩]
  omega

set_option maxHeartbeats 1000000 in
theorem refGet_in (s : ByteArray) (a : Nat) (w : World) (hs : s.size ≤ 1000000) (ha : a ≤ s.size) :
    Calls Try.prog 29 #[.string s, .int .i64 a] w fun e w' => e = agg3 (getV s a) ∧ Below w.heap.size w w' := by
  have hb := get_bt s
  have hn : decide (s.size < a) = false := by simp; omega
  have hn0 : decide ((a : Int) < 0) = false := by simp
  go_enter Try.func29, Try.ntmps29
  go_wp2
  go_loop [5, 6, 7] (fun u un i => ∃ k acc : Nat, u = .int .u64 acc ∧ un = .int .u64 ((128 ^ k : Nat) : Int) ∧ i = .int .i64 k ∧ Got s a k acc) (fun _ _ i => 10 - (intOf i).toNat)
  case atStart => exact ⟨0, 0, rfl, by simp, rfl, Got.zero ha⟩
  case round =>
    obtain ⟨k, acc, rfl, rfl, rfl, hG⟩ := hrel
    have hk := hG.few
    have hin := hG.inside
    have hbd := bt_bd s (a + k)
    have hu1 := pow_128 hk
    generalize hp : 128 ^ k = P at *
    have HP := keep hp
    clear hp
    by_cases hend : a + k = s.size
    · have ht : decide ((s.size : Int) ≤ (a : Int) + k) = true := by simp; omega
      have HE := keep hend
      clear hend
      go_wp2
      go_returns
      exact ⟨agg_bad 2 (hG.ends HE.out) (by omega), (Below.refl _ _).alloc (Nat.le_refl _) _⟩
    · have hlt : a + k < s.size := by omega
      have ht : decide ((s.size : Int) ≤ (a : Int) + k) = false := by simp; omega
      clear hend
      by_cases c0 : bt s (a + k) = 0
      · have hz : (bt s (a + k) == 0) = true := by simp [c0]
        have C0 := keep c0
        clear c0
        go_wp2
        · have c0 := C0.out
          go_returns; exact ⟨agg_bad 3 (hG.bad hlt (by omega)) (by omega), (Below.refl _ _).alloc (Nat.le_refl _) _⟩
        · have c0 := C0.out
          go_returns; exact ⟨agg_bad 3 (hG.bad hlt (by omega)) (by omega), (Below.refl _ _).alloc (Nat.le_refl _) _⟩
        · have c0 := C0.out
          go_returns; exact ⟨agg_bad 3 (hG.bad hlt (by omega)) (by omega), (Below.refl _ _).alloc (Nat.le_refl _) _⟩
        · have c0 := C0.out
          go_returns; exact ⟨agg_last (hG.last hlt (by omega) (by omega)) (sum_digit (c := bt s (a + k) % 128) (by rw [← HP.out]; exact hG.small) HP.out hk (by omega) (by omega) (by omega)).1 (by omega), (Below.refl _ _).alloc (Nat.le_refl _) _⟩
        · have c0 := C0.out
          exfalso; omega
      · have hz : (bt s (a + k) == 0) = false := by simp [c0]
        go_wp2
        · go_returns; exact ⟨agg_last (hG.last hlt (by omega) (by omega)) (sum_digit (c := bt s (a + k) % 128) (by rw [← HP.out]; exact hG.small) HP.out hk (by omega) (by omega) (by omega)).1 (by omega), (Below.refl _ _).alloc (Nat.le_refl _) _⟩
        · go_returns; exact ⟨agg_bad 3 (hG.bad hlt (by omega)) (by omega), (Below.refl _ _).alloc (Nat.le_refl _) _⟩
        · go_returns; exact ⟨agg_last (hG.last hlt (by omega) (by omega)) (sum_digit (c := bt s (a + k) % 128) (by rw [← HP.out]; exact hG.small) HP.out hk (by omega) (by omega) (by omega)).1 (by omega), (Below.refl _ _).alloc (Nat.le_refl _) _⟩
        · trace "round"
          go_round
          case rel => exact ⟨k + 1, _, val_int (sum_digit (c := bt s (a + k) % 128) (by rw [← HP.out]; exact hG.small) HP.out hk (by omega) (by omega) (by omega)).1, val_int (by rw [Nat.pow_succ, HP.out]; exact unit_next HP.out (by omega)), by go_num, hG.more hlt (by omega) (by omega)⟩
          case measure => simp [intOf]; omega
end Go.Proofs.Ytghgahcgbnpidaa
