/-
  The sum of IEEE 802.3 as plain mathematics: the register's steps are linear over exclusive or, and lose nothing; bits turned within 32 in a row are seen.
-/
import Derived.Test.YtghgahcgbnpidaaKit
namespace Go.Proofs.Ytghgahcgbnpidaa

def stp (x : Nat) : Nat := if x % 2 = 1 then x / 2 ^^^ 3988292384 else x / 2

theorem stp_xor (a b : Nat) : stp (a ^^^ b) = stp a ^^^ stp b := by
  have e1 : (a ^^^ b) / 2 = a / 2 ^^^ b / 2 := Nat.xor_div_two
  have e2 : (a ^^^ b) % 2 = 1 ↔ ¬ ((a % 2 = 1) ↔ (b % 2 = 1)) := Nat.xor_mod_two_eq_one
  unfold stp
  rw [e1]
  by_cases ha : a % 2 = 1 <;> by_cases hb : b % 2 = 1 <;> simp only [e2, ha, hb, if_true, if_false, not_true, not_false_iff, iff_self, iff_true, true_iff]
  · rw [Nat.xor_assoc, Nat.xor_comm (b / 2), ← Nat.xor_assoc 3988292384, Nat.xor_self, Nat.zero_xor]
  · rw [Nat.xor_assoc, Nat.xor_comm (b / 2), Nat.xor_assoc]
  · rw [Nat.xor_assoc]

theorem stp_even (x : Nat) : stp (2 * x) = x := by unfold stp; rw [if_neg (by omega)]; omega
theorem stp_zero : stp 0 = 0 := rfl
theorem stp_lt {x : Nat} (h : x < 4294967296) : stp x < 4294967296 := by
  unfold stp; split
  · exact Nat.xor_lt_two_pow (n := 32) (by omega) (by omega)
  · omega
theorem stp_eq_zero {x : Nat} (h : x < 4294967296) (e : stp x = 0) : x = 0 := by
  unfold stp at e
  split at e
  · have e' := congrArg (· ^^^ 3988292384) e
    simp only [Nat.xor_assoc, Nat.xor_self, Nat.xor_zero, Nat.zero_xor] at e'
    omega
  · omega

def stpN : Nat → Nat → Nat
  | 0, x => x
  | n + 1, x => stpN n (stp x)

theorem stpN_add (m n x : Nat) : stpN (m + n) x = stpN n (stpN m x) := by
  induction m generalizing x with
  | zero => rw [Nat.zero_add]; rfl
  | succ m ih => rw [Nat.add_right_comm]; exact ih _
theorem stpN_succ (n x : Nat) : stpN (n + 1) x = stp (stpN n x) := stpN_add n 1 x
theorem stpN_xor (n a b : Nat) : stpN n (a ^^^ b) = stpN n a ^^^ stpN n b := by
  induction n generalizing a b with
  | zero => rfl
  | succ n ih => show stpN n (stp (a ^^^ b)) = _; rw [stp_xor, ih]; rfl
theorem stpN_pow (n x : Nat) : stpN n (2 ^ n * x) = x := by
  induction n generalizing x with
  | zero => simp [stpN]
  | succ n ih =>
    show stpN n (stp _) = _
    rw [Nat.pow_succ, Nat.mul_comm (2 ^ n) 2, Nat.mul_assoc, stp_even, ih]
theorem stpN_zero (n : Nat) : stpN n 0 = 0 := by
  have := stpN_pow n 0; simpa using this
theorem stpN_lt (n : Nat) {x : Nat} (h : x < 4294967296) : stpN n x < 4294967296 := by
  induction n generalizing x with
  | zero => exact h
  | succ n ih => exact ih (stp_lt h)
theorem stpN_eq_zero (n : Nat) {x : Nat} (h : x < 4294967296) (e : stpN n x = 0) : x = 0 := by
  induction n generalizing x with
  | zero => exact e
  | succ n ih => exact stp_eq_zero h (ih (stp_lt h) e)

/-- Bits turned within 32 in a row, gone through: none is left just if none was turned. -/
theorem burst (n k : Nat) {F : Nat} (h : F < 4294967296) : stpN n (2 ^ k * F) = 0 ↔ F = 0 := by
  constructor
  · intro e
    by_cases hk : k ≤ n
    · have : n = k + (n - k) := by omega
      rw [this, stpN_add, stpN_pow] at e
      exact stpN_eq_zero _ h e
    · have : k = n + (k - n) := by omega
      rw [this, Nat.pow_add, Nat.mul_assoc, stpN_pow] at e
      rcases Nat.mul_eq_zero.1 e with e | e
      · have := Nat.two_pow_pos (k - n); omega
      · exact e
  · rintro rfl; simp [stpN_zero]

/-! ### Bytes as one number -/
def val : List UInt8 → Nat
  | [] => 0
  | b :: r => b.toNat ^^^ 2 ^ 8 * val r

theorem low_xor (b v : Nat) (h : b < 256) : b ^^^ 2 ^ 8 * v = 2 ^ 8 * v + b := by
  apply Nat.eq_of_testBit_eq
  intro i
  rw [Nat.testBit_two_pow_mul_add _ (show b < 2 ^ 8 from h), Nat.testBit_xor, Nat.testBit_two_pow_mul]
  by_cases hi : i < 8
  · simp [hi, show ¬ 8 ≤ i by omega]
  · have : b < 2 ^ i := Nat.lt_of_lt_of_le h (Nat.pow_le_pow_right (n := 2) (by omega) (show 8 ≤ i by omega))
    simp [hi, Nat.testBit_lt_two_pow this, show 8 ≤ i by omega]

theorem val_cons (b : UInt8) (r : List UInt8) : val (b :: r) = 256 * val r + b.toNat := low_xor _ _ b.toNat_lt

theorem val_inj : ∀ {a b : List UInt8}, a.length = b.length → val a = val b → a = b
  | [], [], _, _ => rfl
  | [], _ :: _, h, _ => by simp at h
  | _ :: _, [], h, _ => by simp at h
  | x :: a, y :: b, h, e => by
    rw [val_cons, val_cons] at e
    have hx := x.toNat_lt
    have hy := y.toNat_lt
    have e1 : x = y := UInt8.toNat_inj.1 (by omega)
    have e2 : val a = val b := by omega
    rw [e1, val_inj (by simpa using h) e2]

theorem val_append (a b : List UInt8) : val (a ++ b) = val a ^^^ 2 ^ (8 * a.length) * val b := by
  induction a with
  | nil => simp [val]
  | cons x a ih =>
    show x.toNat ^^^ 2 ^ 8 * val (a ++ b) = (x.toNat ^^^ 2 ^ 8 * val a) ^^^ _
    have e : 2 ^ (8 * (x :: a).length) * val b = 2 ^ 8 * (2 ^ (8 * a.length) * val b) := by
      rw [List.length_cons, Nat.mul_add, Nat.pow_add, Nat.mul_one, Nat.mul_comm (2 ^ _) (2 ^ 8), Nat.mul_assoc]
    rw [ih, e, Nat.xor_assoc]
    congr 1
    apply Nat.eq_of_testBit_eq
    intro i
    simp only [Nat.testBit_xor, Nat.testBit_two_pow_mul]
    cases decide (i ≥ 8) <;> simp

theorem val_set : ∀ (l : List UInt8) (k j : Nat) (h : k < l.length), j < 8 → val (l.set k (l[k]'h ^^^ UInt8.ofNat (2 ^ j))) = val l ^^^ 2 ^ (8 * k + j)
  | x :: l, 0, j, _, hj => by
    have hp : 2 ^ j < 256 := Nat.pow_lt_pow_right (a := 2) (by omega) hj
    have e : (x ^^^ UInt8.ofNat (2 ^ j)).toNat = x.toNat ^^^ 2 ^ j := by
      rw [UInt8.toNat_xor, UInt8.toNat_ofNat']; rw [Nat.mod_eq_of_lt hp]
    show (x ^^^ UInt8.ofNat (2 ^ j)).toNat ^^^ 2 ^ 8 * val l = (x.toNat ^^^ 2 ^ 8 * val l) ^^^ 2 ^ (8 * 0 + j)
    rw [e, Nat.xor_assoc, Nat.xor_assoc, Nat.mul_zero, Nat.zero_add, Nat.xor_comm (2 ^ j)]
  | x :: l, k + 1, j, h, hj => by
    have h' : k < l.length := by simpa using h
    have ih := val_set l k j h' hj
    show x.toNat ^^^ 2 ^ 8 * val (l.set k (l[k]'h' ^^^ UInt8.ofNat (2 ^ j))) = (x.toNat ^^^ 2 ^ 8 * val l) ^^^ _
    have e : 2 ^ (8 * (k + 1) + j) = 2 ^ 8 * 2 ^ (8 * k + j) := by rw [← Nat.pow_add]; congr 1; omega
    rw [ih, e, Nat.xor_assoc]
    congr 1
    apply Nat.eq_of_testBit_eq
    intro i
    simp only [Nat.testBit_xor, Nat.testBit_two_pow_mul]
    cases decide (i ≥ 8) <;> simp

/-! ### The register behind bytes -/
def psh : Nat → List UInt8 → Nat
  | c, [] => c
  | c, b :: r => psh (stpN 8 (c ^^^ b.toNat)) r

theorem psh_val (c : Nat) (l : List UInt8) : psh c l = stpN (8 * l.length) (c ^^^ val l) := by
  induction l generalizing c with
  | nil => show c = stpN 0 (c ^^^ 0); rw [Nat.xor_zero]; rfl
  | cons b r ih =>
    show psh (stpN 8 (c ^^^ b.toNat)) r = stpN (8 * (r.length + 1)) (c ^^^ (b.toNat ^^^ 2 ^ 8 * val r))
    have e : 8 * (r.length + 1) = 8 + 8 * r.length := by omega
    rw [ih, e, stpN_add, ← Nat.xor_assoc, stpN_xor 8 _ (2 ^ 8 * _), stpN_pow]
theorem psh_append (c : Nat) (a b : List UInt8) : psh c (a ++ b) = psh (psh c a) b := by
  induction a generalizing c with
  | nil => rfl
  | cons x a ih => exact ih _
theorem psh_lt {c : Nat} (h : c < 4294967296) (l : List UInt8) : psh c l < 4294967296 := by
  induction l generalizing c with
  | nil => exact h
  | cons b r ih => exact ih (stpN_lt 8 (Nat.xor_lt_two_pow (n := 32) h (by have := b.toNat_lt; omega)))

def ones : Nat := 4294967295
def moreN (c : Nat) (l : List UInt8) : Nat := psh (c ^^^ ones) l ^^^ ones
def sumN (l : List UInt8) : Nat := moreN 0 l

theorem xor_ones_lt {c : Nat} (h : c < 4294967296) : c ^^^ ones < 4294967296 := Nat.xor_lt_two_pow (n := 32) h (by decide)
theorem xor_xor (a b : Nat) : a ^^^ b ^^^ b = a := by rw [Nat.xor_assoc, Nat.xor_self, Nat.xor_zero]
theorem moreN_lt {c : Nat} (h : c < 4294967296) (l : List UInt8) : moreN c l < 4294967296 := xor_ones_lt (psh_lt (xor_ones_lt h) l)
theorem sumN_lt (l : List UInt8) : sumN l < 4294967296 := moreN_lt (by omega) l
theorem more_sum (a b : List UInt8) : moreN (sumN a) b = sumN (a ++ b) := by
  unfold sumN moreN; rw [xor_xor, psh_append]
theorem more_nil (c : Nat) : moreN c [] = c := xor_xor c ones

def bytes4 (c : Nat) : List UInt8 := [UInt8.ofNat c, UInt8.ofNat (c / 256), UInt8.ofNat (c / 65536), UInt8.ofNat (c / 16777216)]
theorem val_bytes4 {c : Nat} (h : c < 4294967296) : val (bytes4 c) = c := by
  unfold bytes4
  rw [val_cons, val_cons, val_cons, val_cons]
  simp only [UInt8.toNat_ofNat']
  show 256 * (256 * (256 * (256 * 0 + _) + _) + _) + _ = _
  omega

/-- One round by the table. -/
theorem round8 (c b : Nat) : stpN 8 (c ^^^ b) = c / 256 ^^^ stpN 8 (c % 256 ^^^ b) := by
  have e : c = c % 256 ^^^ 2 ^ 8 * (c / 256) := by rw [low_xor _ _ (by omega)]; omega
  have e2 : c ^^^ b = 2 ^ 8 * (c / 256) ^^^ (c % 256 ^^^ b) := by
    rw [← Nat.xor_assoc, Nat.xor_comm (2 ^ 8 * _), ← e]
  rw [e2, stpN_xor, stpN_pow]

theorem psh_same (c : Nat) {s t : List UInt8} {k F : Nat} (hl : t.length = s.length) (hv : val t = val s ^^^ 2 ^ k * F) (hF : F < 4294967296) : psh c t = psh c s ↔ t = s := by
  have e : psh c t = psh c s ^^^ stpN (8 * s.length) (2 ^ k * F) := by rw [psh_val, psh_val, hv, hl, ← Nat.xor_assoc, stpN_xor]
  constructor
  · intro h
    rw [e] at h
    have h0 : stpN (8 * s.length) (2 ^ k * F) = 0 := by
      have := congrArg (psh c s ^^^ ·) h
      simpa [← Nat.xor_assoc] using this
    have hF0 := (burst _ k hF).1 h0
    exact val_inj hl (by rw [hv, hF0]; simp)
  · rintro rfl; rfl

theorem sum_same {s t : List UInt8} {k F : Nat} (hl : t.length = s.length) (hv : val t = val s ^^^ 2 ^ k * F) (hF : F < 4294967296) : sumN t = sumN s ↔ t = s := by
  rw [← psh_same (0 ^^^ ones) hl hv hF]
  constructor
  · intro h
    have h : psh (0 ^^^ ones) t ^^^ ones ^^^ ones = psh (0 ^^^ ones) s ^^^ ones ^^^ ones := congrArg (· ^^^ ones) h
    rwa [xor_xor, xor_xor] at h
  · intro h; unfold sumN moreN; rw [h]

/-- Bytes that are isSealed. -/
def isSealed (u : List UInt8) : Prop := bytes4 (sumN (u.take (u.length - 4))) = u.drop (u.length - 4)

theorem isSealed_iff {u : List UInt8} (h : 4 ≤ u.length) : isSealed u ↔ stpN (8 * (u.length - 4)) (ones ^^^ val u) = ones := by
  have el : (u.take (u.length - 4)).length = u.length - 4 := by rw [List.length_take]; omega
  have ev : val u = val (u.take (u.length - 4)) ^^^ 2 ^ (8 * (u.length - 4)) * val (u.drop (u.length - 4)) := by
    have := val_append (u.take (u.length - 4)) (u.drop (u.length - 4))
    rwa [List.take_append_drop, el] at this
  have e1 : isSealed u ↔ sumN (u.take (u.length - 4)) = val (u.drop (u.length - 4)) := by
    unfold isSealed
    constructor
    · intro h; rw [← h, val_bytes4 (sumN_lt _)]
    · intro h2
      refine val_inj ?_ ?_
      · rw [List.length_drop]; show 4 = _; omega
      · rw [val_bytes4 (sumN_lt _), h2]
  have e2 : sumN (u.take (u.length - 4)) = stpN (8 * (u.length - 4)) (ones ^^^ val (u.take (u.length - 4))) ^^^ ones := by
    unfold sumN moreN; rw [psh_val, el, Nat.zero_xor]
  rw [e1, e2, ev, ← Nat.xor_assoc, stpN_xor (8 * (u.length - 4)) _ (2 ^ _ * _), stpN_pow]
  generalize stpN (8 * (u.length - 4)) (ones ^^^ val (u.take (u.length - 4))) = A
  generalize val (u.drop (u.length - 4)) = B
  constructor
  · rintro rfl; rw [← Nat.xor_assoc, Nat.xor_self, Nat.zero_xor]
  · intro h; rw [← h, ← Nat.xor_assoc, Nat.xor_self, Nat.zero_xor]

theorem isSealed_seal (s : List UInt8) : isSealed (s ++ bytes4 (sumN s)) := by
  unfold isSealed
  have e : (s ++ bytes4 (sumN s)).length - 4 = s.length := by simp [bytes4]
  rw [e]; simp

theorem isSealed_same {s u : List UInt8} {k F : Nat} (hl : u.length = (s ++ bytes4 (sumN s)).length) (hv : val u = val (s ++ bytes4 (sumN s)) ^^^ 2 ^ k * F) (hF : F < 4294967296) : isSealed u ↔ u = s ++ bytes4 (sumN s) := by
  constructor
  · intro h
    have h4 : 4 ≤ (s ++ bytes4 (sumN s)).length := by simp [bytes4]
    have hs := (isSealed_iff h4).1 (isSealed_seal s)
    rw [isSealed_iff (by omega), hv, hl, ← Nat.xor_assoc, stpN_xor, hs] at h
    have h0 : stpN (8 * ((s ++ bytes4 (sumN s)).length - 4)) (2 ^ k * F) = 0 := by
      have := congrArg (ones ^^^ ·) h
      simpa [← Nat.xor_assoc] using this
    have hF0 := (burst _ k hF).1 h0
    exact val_inj hl (by rw [hv, hF0]; simp)
  · rintro rfl; exact isSealed_seal s
end Go.Proofs.Ytghgahcgbnpidaa
