/-
  The document's functions: where a piece begins, numbers, whether a text is in a list, the words, the signs.
-/
import Derived.Test.YtgodjgbdjgiapaaTokE
import Derived.Test.YtgodjgbdjgiapaaSetM
import Derived.Lib.SmallJoins
namespace Go.Proofs.Ytgodjgbdjgiapaa
open Go.RowKit Go.Joins

theorem skp_step {l : List UInt8} {b : UInt8} {t : List UInt8} {k R : Nat} {r r' : Bool} (h : l.drop k = b :: t) (hk : k + skp r (l.drop k) = R) (hs : skp r (b :: t) = skp r' t + 1) : k + 1 + skp r' (l.drop (k + 1)) = R := by
  have : l.drop (k + 1) = t := by rw [← List.drop_drop, h]; rfl
  rw [h, hs] at hk
  rw [this]; omega
theorem skp_nl {r : Bool} {b : UInt8} {t : List UInt8} (h : ob b = 10) : skp r (b :: t) = skp false t + 1 := by rw [skp, if_pos h]
theorem skp_hash' {r : Bool} {b : UInt8} {t : List UInt8} (h : ob b = 35) : skp r (b :: t) = skp true t + 1 := by rw [skp, if_neg (by omega), if_pos h]
theorem skp_in {b : UInt8} {t : List UInt8} (h : ob b ≠ 10) (h2 : ob b ≠ 35) : skp true (b :: t) = skp true t + 1 := by rw [skp, if_neg h, if_neg h2, if_pos (c := true = true ∨ _) (.inl rfl)]

/-- What the document's Next gives. -/
def GotIs (x : Tok × Int × Int) (e : Ending) : Prop := e = .returned (.agg #[.int .i64 x.1.K, .string x.1.S, .int .i64 x.1.V, .int .i64 x.1.A, .int .i64 x.2.1, .int .i64 x.2.2])

/-- What digits give. -/
def dgt (r : List UInt8) (b : Nat) : Tok × Int × Int :=
  if (pcNum r).2.2 ≠ 0 then (zt, b, (pcNum r).2.2) else (⟨2, str (r.take (spn isD r)), worth (r.take (spn isD r)), b⟩, (b : Int) + spn isD r, 0)
theorem dgt_zero {r : List UInt8} {b : Nat} (h : byteAt r 0 = 48 ∧ 1 < spn isD r) : dgt r b = (zt, (b : Int), 3) := by
  have : pcNum r = (0, 0, 3) := by unfold pcNum; rw [if_pos h]
  unfold dgt; rw [this]; rfl
theorem dgt_long {r : List UInt8} {b : Nat} (h : ¬ (byteAt r 0 = 48 ∧ 1 < spn isD r)) (h2 : 18 < spn isD r) : dgt r b = (zt, (b : Int), 5) := by
  have : pcNum r = (0, 0, 5) := by unfold pcNum; rw [if_neg h, if_pos h2]
  unfold dgt; rw [this]; rfl
theorem dgt_letter {r : List UInt8} {b : Nat} (h : ¬ (byteAt r 0 = 48 ∧ 1 < spn isD r)) (h2 : ¬ 18 < spn isD r) (h3 : isL (byteAt r (spn isD r)) = true) : dgt r b = (zt, (b : Int), 3) := by
  have : pcNum r = (0, 0, 3) := by unfold pcNum; rw [if_neg h, if_neg h2, if_pos h3]
  unfold dgt; rw [this]; rfl
theorem dgt_ok {r : List UInt8} {b : Nat} (h : ¬ (byteAt r 0 = 48 ∧ 1 < spn isD r)) (h2 : ¬ 18 < spn isD r) (h3 : isL (byteAt r (spn isD r)) = false) : dgt r b = (⟨2, str (r.take (spn isD r)), worth (r.take (spn isD r)), b⟩, (b : Int) + spn isD r, 0) := by
  have : pcNum r = (2, spn isD r, 0) := by unfold pcNum; rw [if_neg h, if_neg h2, if_neg (by rw [h3]; simp)]
  unfold dgt; rw [this]; rfl
theorem at_drop (l : List UInt8) (b k : Nat) : byteAt (l.drop b) k = byteAt l (b + k) := by unfold byteAt; rw [List.getElem?_drop]

end Go.Proofs.Ytgodjgbdjgiapaa
