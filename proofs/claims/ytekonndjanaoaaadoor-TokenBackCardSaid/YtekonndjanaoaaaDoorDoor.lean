/-
  What a law's card wants where package-level variables are listed: one start that fits: the world that holds them as their initialisers lay them.
-/
import Derived.Test.YtekonndjanaoaaaDoorRows
import Derived.Test.YtekonndjanaoaaaDoorCards
import Derived.Test.YtekonndjanaoaaaDoorTie
import Derived.WalkKit
import Derived.ProofKit
import Derived.OpenShut
import Derived.ShutString
import Derived.Carry
import Derived.Deep.DeepHandedRow
import Derived.LaidLaws
namespace Go.Proofs.YtekonndjanaoaaaDoor
open Go.RowKit

abbrev synS : ByteArray := ⟨#[105, 110, 118, 97, 108, 105, 100, 32, 115, 121, 110, 116, 97, 120]⟩
abbrev rngS : ByteArray := ⟨#[118, 97, 108, 117, 101, 32, 111, 117, 116, 32, 111, 102, 32, 114, 97, 110, 103, 101]⟩
/-- So many blocks has the settled world. -/
noncomputable def low : Nat := (World.holding Tryd.prog default ⟨#[], #[], []⟩).heap.size
/-- The cells of a table. -/
def cellsOfD : DataW Unit → Array Value
  | .agg l => (l.map fun | .lit (.int k n) => Value.int k n | _ => .int .i64 0).toArray
  | _ => #[]
def putIn (d : Array Value) : Obj → Obj
  | .cells _ t frozen => .cells d t frozen
  | o => o
/-- The settled world with two blocks more, each an errors.errorString; the listed variables hold what their initialisers lay. -/
noncomputable def laidWorld (os : Os) : World :=
  let w0 := World.holding Tryd.prog os ⟨#[.cells #[.string synS] 78, .cells #[.string rngS] 78], #[], []⟩
  { w0 with heap := ((((w0.heap.modify 0 (putIn #[.iface 76 (.pointer (some ⟨low, 0, none⟩))])).modify 1 (putIn #[.iface 76 (.pointer (some ⟨low + 1, 0, none⟩))])).modify 3 (putIn (cellsOfD Rows.laid_internal_strconv_uint64pow10))).modify 4 (putIn (cellsOfD Rows.laid_math_bits_deBruijn32tab))).modify 5 (putIn (cellsOfD Rows.laid_math_bits_deBruijn64tab)) }
abbrev laids : List (String × DataW Unit) := [("math/bits.deBruijn32tab", Rows.laid_math_bits_deBruijn32tab), ("math/bits.deBruijn64tab", Rows.laid_math_bits_deBruijn64tab), ("internal/strconv.uint64pow10", Rows.laid_internal_strconv_uint64pow10), ("strconv.ErrRange", Rows.laid_strconv_ErrRange), ("strconv.ErrSyntax", Rows.laid_strconv_ErrSyntax)]
theorem laid_met (os : Os) (args : Array Value) : laidMet Tryd.prog laids ((laidWorld os).forCall (fun _ _ => 0) ⟨#[], args, []⟩).memory :=
  laidMet_of_run' 8 (by kernel_rfl) (by kernel_rfl)
end Go.Proofs.YtekonndjanaoaaaDoor
