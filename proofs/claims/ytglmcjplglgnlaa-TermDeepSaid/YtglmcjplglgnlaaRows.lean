/-
  No cell of these rows narrows 'for every input' (looked for: loops, veiled, ifaces, maps, wideKeys, modest, calm, conditions, laid).
  DERIVED. THE GIVEN ROWS OF THIS SEAT. 4 by the template 'for every input the law returns true; each argument reads behind the call as it read before'; 0 by the template 'total and deterministic' (their statements: YtglmcjplglgnlaaTotals.lean).
  GIVEN WITH THE SEED: the statements are not yours to turn. If you find one false, say at which input.
  Laid BY PROGRAM, IN A SANDBOX (cutbox-rows.mjs): the forced cells as the released guide's own fill.sh prints them over the translation e64d99f98b02e019… (all of the seat's roots in one cut). By AI agents, Wed Nov 11 2026. No macro, syntax, notation, axiom, sorry.
-/
import Derived.Test.YtglmcjplglgnlaaChecked
import GoSem.Claim
import GoSem.ClaimJoined
import GoSem.ClaimMapViews
import Derived.JoinedTies
import Derived.KernelRfl
namespace Go.Proofs.Ytglmcjplglgnlaa
/- THE CELL 'sum', in the pinned program and in every row, IS THE sha256 OF THE DUMP (.gsa) THAT YtglmcjplglgnlaaProg.lean LOADS. Nothing in Lean hashes anything: it is a label: what it is worth is what the hold of that sum in a sandbox is worth. -/
noncomputable def Try.pinned : Pinned := { name := "ytglmcjplglgnlaa", sum := "e64d99f98b02e019cd691b4c5a7771cb7badea64d871e82802e32f52b7c6411d", checked := Try.checked }
namespace Rows
def none {H : Type} : Left H := { results := [], args := [] }

/-- 'retracelaw10.TermParses': WHATEVER THE INPUT: true; the input reads as it did. -/
def termParsesSpec : ChangeSpec := { name := "termParses", fn := fun _ => fun
  | [d1, d2] => { results := [.lit (.bool true)], args := [d1, d2] }
  | _ => none }
def termParsesRow : OpenClaim := { program := "ytglmcjplglgnlaa", sum := "e64d99f98b02e019cd691b4c5a7771cb7badea64d871e82802e32f52b7c6411d", func := "retrace/retracelaw10.TermParses", spec := "termParses", inPlace := ["slices.overlaps[retrace/api.Node]"], recurses := true, plainKeys := false, apart := false }
def TermParsesSaid : Prop := termParsesRow.holds Try.pinned (OpenSpec.ofChange termParsesSpec)

/-- ITS FALSE NEIGHBOUR: 'it returns false'. Refute it at one input. -/
def termParsesWrong : ChangeSpec := { name := "termParses", fn := fun _ => fun
  | [d1, d2] => { results := [.lit (.bool false)], args := [d1, d2] }
  | _ => none }
def TermParsesWrongFalsely : Prop := termParsesRow.holds Try.pinned (OpenSpec.ofChange termParsesWrong)

/-- 'retracelaw10.TermTexts': WHATEVER THE INPUT: true; the input reads as it did. -/
def termTextsSpec : ChangeSpec := { name := "termTexts", fn := fun _ => fun
  | [d] => { results := [.lit (.bool true)], args := [d] }
  | _ => none }
def termTextsRow : OpenClaim := { program := "ytglmcjplglgnlaa", sum := "e64d99f98b02e019cd691b4c5a7771cb7badea64d871e82802e32f52b7c6411d", func := "retrace/retracelaw10.TermTexts", spec := "termTexts", inPlace := ["slices.overlaps[retrace/api.Node]"], recurses := true, plainKeys := false, apart := false }
def TermTextsSaid : Prop := termTextsRow.holds Try.pinned (OpenSpec.ofChange termTextsSpec)

/-- ITS FALSE NEIGHBOUR: 'it returns false'. Refute it at one input. -/
def termTextsWrong : ChangeSpec := { name := "termTexts", fn := fun _ => fun
  | [d] => { results := [.lit (.bool false)], args := [d] }
  | _ => none }
def TermTextsWrongFalsely : Prop := termTextsRow.holds Try.pinned (OpenSpec.ofChange termTextsWrong)

/-- 'retracelaw10.TermDeep': WHATEVER THE INPUT: true; the input reads as it did. -/
def termDeepSpec : ChangeSpec := { name := "termDeep", fn := fun _ => fun
  | [d1, d2, d3] => { results := [.lit (.bool true)], args := [d1, d2, d3] }
  | _ => none }
def termDeepRow : OpenClaim := { program := "ytglmcjplglgnlaa", sum := "e64d99f98b02e019cd691b4c5a7771cb7badea64d871e82802e32f52b7c6411d", func := "retrace/retracelaw10.TermDeep", spec := "termDeep", inPlace := ["slices.overlaps[retrace/api.Node]"], recurses := true, plainKeys := false, apart := false }
def TermDeepSaid : Prop := termDeepRow.holds Try.pinned (OpenSpec.ofChange termDeepSpec)

/-- ITS FALSE NEIGHBOUR: 'it returns false'. Refute it at one input. -/
def termDeepWrong : ChangeSpec := { name := "termDeep", fn := fun _ => fun
  | [d1, d2, d3] => { results := [.lit (.bool false)], args := [d1, d2, d3] }
  | _ => none }
def TermDeepWrongFalsely : Prop := termDeepRow.holds Try.pinned (OpenSpec.ofChange termDeepWrong)

/-- 'retracelaw10.TermSigns': WHATEVER THE INPUT: true; the input reads as it did. -/
def termSignsSpec : ChangeSpec := { name := "termSigns", fn := fun _ => fun
  | [d] => { results := [.lit (.bool true)], args := [d] }
  | _ => none }
def termSignsRow : OpenClaim := { program := "ytglmcjplglgnlaa", sum := "e64d99f98b02e019cd691b4c5a7771cb7badea64d871e82802e32f52b7c6411d", func := "retrace/retracelaw10.TermSigns", spec := "termSigns", inPlace := ["slices.overlaps[retrace/api.Node]"], recurses := true, plainKeys := false, apart := false }
def TermSignsSaid : Prop := termSignsRow.holds Try.pinned (OpenSpec.ofChange termSignsSpec)

/-- ITS FALSE NEIGHBOUR: 'it returns false'. Refute it at one input. -/
def termSignsWrong : ChangeSpec := { name := "termSigns", fn := fun _ => fun
  | [d] => { results := [.lit (.bool false)], args := [d] }
  | _ => none }
def TermSignsWrongFalsely : Prop := termSignsRow.holds Try.pinned (OpenSpec.ofChange termSignsWrong)

/- THE SECOND FORM. 'bulk': how many values and letters a reading holds, each counted each time it is reached (what is shared counts as often as it is met; a slice's spare places count too). A statement '..UptoSaid' is the law's where the arguments, and the package variables that the reading takes, are together of bulk at most 1048576: NARROWER than '..Said'. Prove '..Said' where nothing that the law and all that it calls make is longer than what came in: it says more and counts as full. Else prove '..UptoSaid'. A law counts once. -/
mutual
def uptoBulk {H : Type} : DataW H → Nat
  | .lit (.string bytes) => bytes.length + 1
  | .lit _ => 1
  | .nil => 1
  | .ptr d => uptoBulk d + 1
  | .slice elems spare => uptoBulkAll elems + uptoBulkAll spare + 1
  | .agg parts => uptoBulkAll parts + 1
  | .iface _ d => uptoBulk d + 1
  | .map entries => uptoBulkEntries entries + 1
  | .held _ => 1
def uptoBulkAll {H : Type} : List (DataW H) → Nat
  | [] => 0
  | d :: r => uptoBulk d + uptoBulkAll r
def uptoBulkEntries {H : Type} : List (Lit × DataW H) → Nat
  | [] => 0
  | x :: r => uptoBulkEntry x + uptoBulkEntries r
def uptoBulkEntry {H : Type} : Lit × DataW H → Nat
  | (.string bytes, d) => bytes.length + uptoBulk d + 1
  | (_, d) => uptoBulk d + 1
 end
def uptoSmall : (H : Type) → List (DataW H) → Bool := fun _ ds => decide (uptoBulkAll ds ≤ 1048576)
def OpenSpec.upto (s : _root_.Go.ChangeSpec) : _root_.Go.OpenSpec := { _root_.Go.OpenSpec.ofChange s with cond := some uptoSmall }

/-- 'retracelaw10.TermParses', WHERE WHAT IT READS IS OF BULK AT MOST 1048576: true; the input reads as it did. -/
def termParsesUptoRow : OpenClaim := { program := "ytglmcjplglgnlaa", sum := "e64d99f98b02e019cd691b4c5a7771cb7badea64d871e82802e32f52b7c6411d", func := "retrace/retracelaw10.TermParses", spec := "termParses", inPlace := ["slices.overlaps[retrace/api.Node]"], recurses := true, plainKeys := false, apart := false, narrowed := true }
def TermParsesUptoSaid : Prop := termParsesUptoRow.holds Try.pinned (OpenSpec.upto termParsesSpec)

/-- 'retracelaw10.TermTexts', WHERE WHAT IT READS IS OF BULK AT MOST 1048576: true; the input reads as it did. -/
def termTextsUptoRow : OpenClaim := { program := "ytglmcjplglgnlaa", sum := "e64d99f98b02e019cd691b4c5a7771cb7badea64d871e82802e32f52b7c6411d", func := "retrace/retracelaw10.TermTexts", spec := "termTexts", inPlace := ["slices.overlaps[retrace/api.Node]"], recurses := true, plainKeys := false, apart := false, narrowed := true }
def TermTextsUptoSaid : Prop := termTextsUptoRow.holds Try.pinned (OpenSpec.upto termTextsSpec)

/-- 'retracelaw10.TermDeep', WHERE WHAT IT READS IS OF BULK AT MOST 1048576: true; the input reads as it did. -/
def termDeepUptoRow : OpenClaim := { program := "ytglmcjplglgnlaa", sum := "e64d99f98b02e019cd691b4c5a7771cb7badea64d871e82802e32f52b7c6411d", func := "retrace/retracelaw10.TermDeep", spec := "termDeep", inPlace := ["slices.overlaps[retrace/api.Node]"], recurses := true, plainKeys := false, apart := false, narrowed := true }
def TermDeepUptoSaid : Prop := termDeepUptoRow.holds Try.pinned (OpenSpec.upto termDeepSpec)

/-- 'retracelaw10.TermSigns', WHERE WHAT IT READS IS OF BULK AT MOST 1048576: true; the input reads as it did. -/
def termSignsUptoRow : OpenClaim := { program := "ytglmcjplglgnlaa", sum := "e64d99f98b02e019cd691b4c5a7771cb7badea64d871e82802e32f52b7c6411d", func := "retrace/retracelaw10.TermSigns", spec := "termSigns", inPlace := ["slices.overlaps[retrace/api.Node]"], recurses := true, plainKeys := false, apart := false, narrowed := true }
def TermSignsUptoSaid : Prop := termSignsUptoRow.holds Try.pinned (OpenSpec.upto termSignsSpec)

end Rows
end Go.Proofs.Ytglmcjplglgnlaa
