/-
  For every string and every int, retracelaw04.FrameNext answers true, and what it is given reads as before. No condition.
-/
import Derived.Test.YtghgahcgbnpidaaRows
import Derived.Test.YtghgahcgbnpidaaFrameL
import Derived.WalkKit
import Derived.Below
import Derived.ChangeOld
import Derived.Deep.RegionHeld3
import Derived.StillTailTactics
import Derived.ProofKit
import Derived.OpenShut
import Derived.ShutString
namespace Go.Proofs.Ytghgahcgbnpidaa.frameNext
open Go.ChangeShapes Go.WideShapes Go.ChangeAt Go.RowKit
open Go.ChangeMaps (open_string shut_string)
set_option linter.unusedVariables false      -- a walk need not use every 'w<i>' (that an integer argument fits its kind)

theorem own : ownKnob Try.prog.godebug = none := by kernel_rfl

-- For every string and every int, retracelaw04.FrameNext answers true, and what it is given reads as before. No condition.
/-! ### STEP 1: THE WALK: the Go text returns true. 'Below w.heap.size w w'': the world has at most new blocks (Derived/RowKit3.lean). Part the cases AHEAD of 'go_enter' where a test parts the walk; take each callee by a contract of your own. -/
set_option maxHeartbeats 2000000 in
theorem walk (a0 : ByteArray) (a1 : Int) (w0 : a0.size ≤ maxLen) (w1 : (Lit.int .i64 a1).wf = true) (w : World) :
    Calls Try.prog 4 #[.string a0, .int .i64 a1] w fun e w' => e = .returned (.bool true) ∧ Below w.heap.size w w' := by
  by_cases hlen : (3000 : Int) < (a0.size : Int)
  · clear w0 w1
    go_enter Try.func4, Try.ntmps4
    go_wp2_with fail
    refine (live_any w).mono ?_
    rintro e w1 ⟨rfl, hb⟩
    have HBw1 := keep hb
    clear hb
    go_wp2_with fail
    go_ret
    exact ⟨rfl, HBw1.out⟩
  · have hs : a0.size ≤ 100000 := by omega
    have hs1 : (a0.size : Int) ≤ 3000 := by omega
    have N1 := fun w => fnext_any a0 a1 w hs
    have N2 := fun w => refNext_any a0 a1 w hs
    generalize nxI a0 a1 = x at *
    obtain ⟨⟨K, S⟩, n, er⟩ := x
    unfold nxT Fr.agg at N1
    unfold gotT at N2
    simp only at N1 N2
    have N1' := keep N1
    have N2' := keep N2
    clear w0 w1 hs N1 N2 hlen
    go_enter Try.func4, Try.ntmps4
    go_wp2_with fail
    refine (N1'.out w).mono ?_
    rintro e w1 ⟨rfl, hb⟩
    have HBw1 := keep hb
    have HX := keep ((BoxL.new w1 [.int .i64 K, .string S] 23))
    clear hb
    go_wp2_with fail
    refine (N2'.out _).mono ?_
    rintro e w2 ⟨rfl, hb⟩
    have HBw2 := keep ((HBw1.out.alloc HBw1.out.size (.cells #[.int .i64 K, .string S] 23)).trans (hb.mono (by have := HBw1.out.size; simp; omega)))
    have HX2 := keep (HX.out.to hb)
    have hc0 := HX2.out.row 0 _ rfl
    have hc1 := HX2.out.row 1 _ rfl
    have hl := HX2.out.lt
    clear hb
    go_wp2_with fail
    refine (live_any _).mono ?_
    rintro e w3 ⟨rfl, hb⟩
    have HBw3 := keep ((HBw2.out.alloc HBw2.out.size _).trans (hb.mono (by have := HBw2.out.size; simp; omega)))
    clear hb
    go_wp2_with fail
    go_ret
    exact ⟨rfl, HBw3.out⟩

/-! ### THE ROW's STEP: WRITTEN OUT: LEAVE IT -/
set_option maxRecDepth 100000 in
theorem lifted (os : Os) (started : os.Started) (H : Type) (enc : TypeId × Value → H) :
    ReturnsInHanded {} Try.checked os 4 .any (Rows.frameNextSpec.pre6 enc Try.prog Try.f4 Rows.frameNextRow.domain false) (Rows.frameNextSpec.post enc Try.prog Try.f4 false true false false) := by
  refine returnsInHanded_of_change (C := Try.checked) own started (by kernel_rfl) Try.func4
    (ChangeSpec.witness6 (enc := enc) (C := Try.checked) false ⟨#[], #[.string ByteArray.empty, .int .i64 0], []⟩ 8 (by kernel_rfl) (by kernel_rfl) (by kernel_rfl) (by kernel_rfl)) ?_
  intro W base args ds gs before hval0 hW hcnd _
  have hval : ∀ (j : Nat) t v, Try.f4.params[j]? = some t → args[j]? = some v → Value.okWide Try.prog W .any base t v := hval0
  have hW' := hW
  obtain ⟨p, q, hA0, hV, rfl, hfz, hnd⟩ := hW
  have hA : DataW.TrodAll enc Try.prog W 0 (fun _ => true) true Try.f4.params.toList args.toList ds p := hA0
  rw [Try.params4] at hA hval
  obtain ⟨v0, vs0, d0, ds0, p0, q0, hargs, rfl, rfl, h0, r0⟩ := trodAll_cons hA
  obtain ⟨v1, vs1, d1, ds1, p1, q1, rfl, rfl, rfl, h1, r1⟩ := trodAll_cons r0
  obtain ⟨rfl, rfl, rfl⟩ := trodAll_nil r1
  obtain rfl : args = #[v0, v1] := by cases args; simp_all
  obtain ⟨rfl, rfl⟩ := trodVars_none hV
  obtain ⟨a0, rfl, rfl, rfl, w0⟩ := open_string Try.underlying9 (hval 0 9 v0 rfl rfl) h0
  obtain ⟨a1, rfl, rfl, rfl, w1⟩ := open_int Try.underlying3 (hval 1 3 v1 rfl rfl) h1
  clear hA0 hval0
  simp only [List.append_nil] at hW'
  refine (walk a0 a1 w0 w1 W).mono fun e W' ⟨he, hg⟩ => ?_
  subst he
  exact ⟨_, rfl, _, _, _, [], _, [], hW', (trodAll_cons_mk (shut_bool Try.underlying4 _) trodAll_mk0), (trodAll_cons_mk (shut_string Try.underlying9 w0) (trodAll_cons_mk (shut_int Try.underlying3 w1) trodAll_mk0)), rfl, hg.frame _, fun h => by cases h⟩

theorem over : Rows.frameNextRow.holds Try.pinned (OpenSpec.ofChange Rows.frameNextSpec) :=
  OpenClaim.holds_of_wide 4 Try.f4 rfl rfl rfl rfl rfl rfl rfl ⟨rfl, rfl, rfl, rfl, rfl⟩ rfl rfl rfl rfl rfl (by kernel_rfl) Try.func4 (by kernel_rfl)
    (of_decide_eq_true (by kernel_rfl)) (by unfold Func.isWrapper; first | (rw [if_pos (by decide +kernel)]; kernel_rfl) | (rw [if_neg (by decide +kernel)]; exact ⟨rfl, rfl⟩))
    (fun os started H enc _ => lifted os started H enc)

/-- ████ THE STATEMENT ████ -/
theorem proved : Rows.FrameNextSaid :=
  over
#print axioms proved
end Go.Proofs.Ytghgahcgbnpidaa.frameNext
