/-
  What the program calls of Go's library, at the text of one byte 10: strings.Count, strings.LastIndex, strings.Cut.
-/
import Derived.Test.YtglmcjplglgnlaaSpotM
import Derived.Test.YtglmcjplglgnlaaChecked
import Derived.Lib.Bytealg
import Derived.BigQuiet
import Derived.Deep.QuietTactic
namespace Go.Proofs.Ytglmcjplglgnlaa
open Go.RowKit

/-- What is cut: the line ahead of the first byte 10, what stands behind it, and whether there is one. -/
def CutIs (s a r : List UInt8) (m : Bool) : Prop := (m = true ∧ s = a ++ 10 :: r ∧ ∀ b ∈ a, b ≠ 10) ∨ (m = false ∧ a = s ∧ r = [] ∧ ∀ b ∈ s, b ≠ 10)

end Go.Proofs.Ytglmcjplglgnlaa
