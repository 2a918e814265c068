/-
  No cell of these rows narrows 'for every input' (looked for: loops, veiled, ifaces, maps, wideKeys, modest, calm, conditions, laid).
  DERIVED. THE GIVEN ROWS OF THIS SEAT. 4 by the template 'for every input the law returns true; each argument reads behind the call as it read before'; 0 by the template 'total and deterministic' (their statements: YtjfgnmkgljljbaaTotals.lean).
  GIVEN WITH THE SEED: the statements are not yours to turn. If you find one false, say at which input.
  Laid BY PROGRAM, IN A SANDBOX (cutbox-rows.mjs): the forced cells as the released guide's own fill.sh prints them over the translation b7828a11a51dbecd… (all of the seat's roots in one cut). By AI agents, Wed Nov 11 2026. No macro, syntax, notation, axiom, sorry.
-/
import Derived.Test.YtjfgnmkgljljbaaChecked
import GoSem.Claim
import GoSem.ClaimJoined
import GoSem.ClaimMapViews
import Derived.JoinedTies
import Derived.KernelRfl
namespace Go.Proofs.Ytjfgnmkgljljbaa
/- THE CELL 'sum', in the pinned program and in every row, IS THE sha256 OF THE DUMP (.gsa) THAT YtjfgnmkgljljbaaProg.lean LOADS. Nothing in Lean hashes anything: it is a label: what it is worth is what the hold of that sum in a sandbox is worth. -/
noncomputable def Try.pinned : Pinned := { name := "ytjfgnmkgljljbaa", sum := "b7828a11a51dbecd05fef5401c400689b38f9ec8c2ae35ca9f91075f46a89a63", checked := Try.checked }
namespace Rows
def none {H : Type} : Left H := { results := [], args := [] }

/-- 'retracelaw06.SetPlays': WHATEVER THE INPUT: true; the input reads as it did. -/
def setPlaysSpec : ChangeSpec := { name := "setPlays", fn := fun _ => fun
  | [d1, d2, d3] => { results := [.lit (.bool true)], args := [d1, d2, d3] }
  | _ => none }
def setPlaysRow : OpenClaim := { program := "ytjfgnmkgljljbaa", sum := "b7828a11a51dbecd05fef5401c400689b38f9ec8c2ae35ca9f91075f46a89a63", func := "retrace/retracelaw06.SetPlays", spec := "setPlays", recurses := true, apart := false }
def SetPlaysSaid : Prop := setPlaysRow.holds Try.pinned (OpenSpec.ofChange setPlaysSpec)

/-- ITS FALSE NEIGHBOUR: 'it returns false'. Refute it at one input. -/
def setPlaysWrong : ChangeSpec := { name := "setPlays", fn := fun _ => fun
  | [d1, d2, d3] => { results := [.lit (.bool false)], args := [d1, d2, d3] }
  | _ => none }
def SetPlaysWrongFalsely : Prop := setPlaysRow.holds Try.pinned (OpenSpec.ofChange setPlaysWrong)

/-- 'retracelaw06.SetGoes': WHATEVER THE INPUT: true; the input reads as it did. -/
def setGoesSpec : ChangeSpec := { name := "setGoes", fn := fun _ => fun
  | [d1, d2] => { results := [.lit (.bool true)], args := [d1, d2] }
  | _ => none }
def setGoesRow : OpenClaim := { program := "ytjfgnmkgljljbaa", sum := "b7828a11a51dbecd05fef5401c400689b38f9ec8c2ae35ca9f91075f46a89a63", func := "retrace/retracelaw06.SetGoes", spec := "setGoes", unfollowed := true, recurses := true, apart := false }
def SetGoesSaid : Prop := setGoesRow.holds Try.pinned (OpenSpec.ofChange setGoesSpec)

/-- ITS FALSE NEIGHBOUR: 'it returns false'. Refute it at one input. -/
def setGoesWrong : ChangeSpec := { name := "setGoes", fn := fun _ => fun
  | [d1, d2] => { results := [.lit (.bool false)], args := [d1, d2] }
  | _ => none }
def SetGoesWrongFalsely : Prop := setGoesRow.holds Try.pinned (OpenSpec.ofChange setGoesWrong)

/-- 'retracelaw06.SetOrder': WHATEVER THE INPUT: true; the input reads as it did. -/
def setOrderSpec : ChangeSpec := { name := "setOrder", fn := fun _ => fun
  | [d] => { results := [.lit (.bool true)], args := [d] }
  | _ => none }
def setOrderRow : OpenClaim := { program := "ytjfgnmkgljljbaa", sum := "b7828a11a51dbecd05fef5401c400689b38f9ec8c2ae35ca9f91075f46a89a63", func := "retrace/retracelaw06.SetOrder", spec := "setOrder", recurses := true, apart := false }
def SetOrderSaid : Prop := setOrderRow.holds Try.pinned (OpenSpec.ofChange setOrderSpec)

/-- ITS FALSE NEIGHBOUR: 'it returns false'. Refute it at one input. -/
def setOrderWrong : ChangeSpec := { name := "setOrder", fn := fun _ => fun
  | [d] => { results := [.lit (.bool false)], args := [d] }
  | _ => none }
def SetOrderWrongFalsely : Prop := setOrderRow.holds Try.pinned (OpenSpec.ofChange setOrderWrong)

/-- 'retracelaw06.SetNone': WHATEVER THE INPUT: true; the input reads as it did. -/
def setNoneSpec : ChangeSpec := { name := "setNone", fn := fun _ => fun
  | [d1, d2] => { results := [.lit (.bool true)], args := [d1, d2] }
  | _ => none }
def setNoneRow : OpenClaim := { program := "ytjfgnmkgljljbaa", sum := "b7828a11a51dbecd05fef5401c400689b38f9ec8c2ae35ca9f91075f46a89a63", func := "retrace/retracelaw06.SetNone", spec := "setNone", unfollowed := true, recurses := true, apart := false }
def SetNoneSaid : Prop := setNoneRow.holds Try.pinned (OpenSpec.ofChange setNoneSpec)

/-- ITS FALSE NEIGHBOUR: 'it returns false'. Refute it at one input. -/
def setNoneWrong : ChangeSpec := { name := "setNone", fn := fun _ => fun
  | [d1, d2] => { results := [.lit (.bool false)], args := [d1, d2] }
  | _ => none }
def SetNoneWrongFalsely : Prop := setNoneRow.holds Try.pinned (OpenSpec.ofChange setNoneWrong)

/- THE SECOND FORM. 'bulk': how many values and letters a reading holds, each counted each time it is reached (what is shared counts as often as it is met; a slice's spare places count too). A statement '..UptoSaid' is the law's where the arguments, and the package variables that the reading takes, are together of bulk at most 1048576: NARROWER than '..Said'. Prove '..Said' where nothing that the law and all that it calls make is longer than what came in: it says more and counts as full. Else prove '..UptoSaid'. A law counts once. -/
mutual
def uptoBulk {H : Type} : DataW H → Nat
  | .lit (.string bytes) => bytes.length + 1
  | .lit _ => 1
  | .nil => 1
  | .ptr d => uptoBulk d + 1
  | .slice elems spare => uptoBulkAll elems + uptoBulkAll spare + 1
  | .agg parts => uptoBulkAll parts + 1
  | .iface _ d => uptoBulk d + 1
  | .map entries => uptoBulkEntries entries + 1
  | .held _ => 1
def uptoBulkAll {H : Type} : List (DataW H) → Nat
  | [] => 0
  | d :: r => uptoBulk d + uptoBulkAll r
def uptoBulkEntries {H : Type} : List (Lit × DataW H) → Nat
  | [] => 0
  | x :: r => uptoBulkEntry x + uptoBulkEntries r
def uptoBulkEntry {H : Type} : Lit × DataW H → Nat
  | (.string bytes, d) => bytes.length + uptoBulk d + 1
  | (_, d) => uptoBulk d + 1
 end
def uptoSmall : (H : Type) → List (DataW H) → Bool := fun _ ds => decide (uptoBulkAll ds ≤ 1048576)
def OpenSpec.upto (s : _root_.Go.ChangeSpec) : _root_.Go.OpenSpec := { _root_.Go.OpenSpec.ofChange s with cond := some uptoSmall }

/-- 'retracelaw06.SetPlays', WHERE WHAT IT READS IS OF BULK AT MOST 1048576: true; the input reads as it did. -/
def setPlaysUptoRow : OpenClaim := { program := "ytjfgnmkgljljbaa", sum := "b7828a11a51dbecd05fef5401c400689b38f9ec8c2ae35ca9f91075f46a89a63", func := "retrace/retracelaw06.SetPlays", spec := "setPlays", recurses := true, apart := false, narrowed := true }
def SetPlaysUptoSaid : Prop := setPlaysUptoRow.holds Try.pinned (OpenSpec.upto setPlaysSpec)

/-- 'retracelaw06.SetGoes', WHERE WHAT IT READS IS OF BULK AT MOST 1048576: true; the input reads as it did. -/
def setGoesUptoRow : OpenClaim := { program := "ytjfgnmkgljljbaa", sum := "b7828a11a51dbecd05fef5401c400689b38f9ec8c2ae35ca9f91075f46a89a63", func := "retrace/retracelaw06.SetGoes", spec := "setGoes", unfollowed := true, recurses := true, apart := false, narrowed := true }
def SetGoesUptoSaid : Prop := setGoesUptoRow.holds Try.pinned (OpenSpec.upto setGoesSpec)

/-- 'retracelaw06.SetOrder', WHERE WHAT IT READS IS OF BULK AT MOST 1048576: true; the input reads as it did. -/
def setOrderUptoRow : OpenClaim := { program := "ytjfgnmkgljljbaa", sum := "b7828a11a51dbecd05fef5401c400689b38f9ec8c2ae35ca9f91075f46a89a63", func := "retrace/retracelaw06.SetOrder", spec := "setOrder", recurses := true, apart := false, narrowed := true }
def SetOrderUptoSaid : Prop := setOrderUptoRow.holds Try.pinned (OpenSpec.upto setOrderSpec)

/-- 'retracelaw06.SetNone', WHERE WHAT IT READS IS OF BULK AT MOST 1048576: true; the input reads as it did. -/
def setNoneUptoRow : OpenClaim := { program := "ytjfgnmkgljljbaa", sum := "b7828a11a51dbecd05fef5401c400689b38f9ec8c2ae35ca9f91075f46a89a63", func := "retrace/retracelaw06.SetNone", spec := "setNone", unfollowed := true, recurses := true, apart := false, narrowed := true }
def SetNoneUptoSaid : Prop := setNoneUptoRow.holds Try.pinned (OpenSpec.upto setNoneSpec)

end Rows
end Go.Proofs.Ytjfgnmkgljljbaa
