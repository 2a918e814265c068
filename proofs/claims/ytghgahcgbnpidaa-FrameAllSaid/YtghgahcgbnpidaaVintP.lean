/-
  The program's PutInt.
-/
import Derived.Test.YtghgahcgbnpidaaVintC
namespace Go.Proofs.Ytghgahcgbnpidaa
open Go.RowKit

end Go.Proofs.Ytghgahcgbnpidaa
