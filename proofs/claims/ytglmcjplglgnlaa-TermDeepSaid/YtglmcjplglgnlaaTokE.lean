/-
  The program's pieces and Name.
-/
import Derived.Test.YtglmcjplglgnlaaTokD
namespace Go.Proofs.Ytglmcjplglgnlaa
open Go.RowKit

/-- Is it a name? -/
def isName (l : List UInt8) : Bool := ((pc l).1 == 1) && ((pc l).2.1 == l.length)
end Go.Proofs.Ytglmcjplglgnlaa
