/-
  The program's signs, its pieces and Name.
-/
import Derived.Test.YtglmcjplglgnlaaTokC
namespace Go.Proofs.Ytglmcjplglgnlaa
open Go.RowKit

theorem pcSign_of {l : List UInt8} {n : Nat} {e : Ending} (h : sgn (byteAt l 0) (byteAt l 1) = n) (he : PcIs (if n = 0 then (0, 0, 10) else (4, n, 0)) e) : PcIs (pcSign l) e := by
  unfold pcSign; rw [h]; exact he
theorem sgn_ways (c : Int) : (c = 38 ∨ c = 124) ∨ (c = 61 ∨ c = 33 ∨ c = 60 ∨ c = 62) ∨ (c = 123 ∨ c = 125 ∨ c = 40 ∨ c = 41 ∨ c = 91 ∨ c = 93 ∨ c = 59 ∨ c = 44 ∨ c = 58 ∨ c = 63 ∨ c = 43 ∨ c = 45 ∨ c = 42 ∨ c = 47 ∨ c = 37) ∨
    (c ≠ 38 ∧ c ≠ 124 ∧ c ≠ 61 ∧ c ≠ 33 ∧ c ≠ 60 ∧ c ≠ 62 ∧ c ≠ 123 ∧ c ≠ 125 ∧ c ≠ 40 ∧ c ≠ 41 ∧ c ≠ 91 ∧ c ≠ 93 ∧ c ≠ 59 ∧ c ≠ 44 ∧ c ≠ 58 ∧ c ≠ 63 ∧ c ≠ 43 ∧ c ≠ 45 ∧ c ≠ 42 ∧ c ≠ 47 ∧ c ≠ 37) := by omega

end Go.Proofs.Ytglmcjplglgnlaa
