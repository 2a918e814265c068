/-
  For every uint32 and every string, retracelaw02.CrcTells answers true, and what it is given reads as before. No condition.
-/
import Derived.Test.YtmkgokmophjfeaaRows
import Derived.Test.YtmkgokmophjfeaaCrcG
import Derived.WalkKit
import Derived.Below
import Derived.ChangeOld
import Derived.Deep.RegionHeld3
import Derived.StillTailTactics
import Derived.ProofKit
import Derived.OpenShut
import Derived.ShutString
namespace Go.Proofs.Ytmkgokmophjfeaa.crcTells
open Go.ChangeShapes Go.WideShapes Go.ChangeAt Go.RowKit
open Go.ChangeMaps (open_string shut_string)
set_option linter.unusedVariables false      -- a walk need not use every 'w<i>' (that an integer argument fits its kind)

theorem own : ownKnob Try.prog.godebug = none := by kernel_rfl

-- For every uint32 and every string, retracelaw02.CrcTells answers true, and what it is given reads as before. No condition.
/-! ### STEP 1: THE WALK: the Go text returns true. 'Below w.heap.size w w'': the world has at most new blocks (Derived/RowKit3.lean). Part the cases AHEAD of 'go_enter' where a test parts the walk; take each callee by a contract of your own. -/
set_option maxHeartbeats 2000000 in
theorem walk (a0 : Int) (a1 : ByteArray) (w0 : (Lit.int .u32 a0).wf = true) (w1 : a1.size ≤ maxLen) (w : World) :
    Calls Try.prog 3 #[.int .u32 a0, .string a1] w fun e w' => e = .returned (.bool true) ∧ Below w.heap.size w w' := by
-- For every uint32 and every string, retracelaw02.CrcTells answers true, and what it is given reads as before. No condition.
  by_cases hlen : (500 : Int) < (a1.size : Int)
  · clear w0 w1
    go_enter Try.func3, Try.ntmps3
    go_wp2_with fail
    refine (live_any w).mono ?_
    rintro e w1 ⟨rfl, hb⟩
    have HB := keep hb
    clear hb
    go_wp2_with fail
    go_ret
    exact ⟨rfl, HB.out⟩
  · have b0 := wf_bounds_u32 w0
    have hs : a1.size ≤ 1000000 := by omega
    have hs1 : (a1.size : Int) ≤ 500 := by omega
    have hq := sumI_bd a1
    have S1 := keep (fun w => sum_any a1 w hs)
    have S2 := keep (fun w => refSum_any a1 w hs)
    have M1 := keep (fun w => more_any a0 a1 w b0.1 b0.2 hs)
    have M2 := keep (fun w => refMore_any a0 a1 w b0.1 b0.2 hs)
    have B1 := keep (fun w => bytes_any a0 w b0.1 b0.2)
    have B2 := keep (fun w => refBytes_any a0 w b0.1 b0.2)
    have L1 := keep (fun w => seal_any a1 w hs)
    have B3 := keep (fun w => refBytes_any (sumI a1) w hq.1 hq.2)
    have HZ := seal4_size (sumI a1)
    have e1 : ((sumN a1.data.toList : Nat) : Int) = sumI a1 := rfl
    rw [e1] at S1 S2
    clear w0 w1 b0 hs hq e1
    generalize sumI a1 = q at *
    generalize seal4 q = sq at *
    generalize seal4 a0 = sa at *
    generalize ((moreN a0.toNat a1.data.toList : Nat) : Int) = mo at *
    go_enter Try.func3, Try.ntmps3
    go_wp2_with fail
    refine (S1.out w).mono ?_
    rintro e w1 ⟨rfl, hb⟩
    have HB1 := keep hb
    clear hb
    go_wp2_with fail
    refine (S2.out w1).mono ?_
    rintro e w' ⟨rfl, rfl⟩
    go_wp2_with fail
    refine (M1.out w1).mono ?_
    rintro e w2 ⟨rfl, hb⟩
    have HB2 := keep (HB1.out.trans (hb.mono HB1.out.size))
    clear hb
    go_wp2_with fail
    refine (M2.out w2).mono ?_
    rintro e w' ⟨rfl, rfl⟩
    go_wp2_with fail
    refine (B1.out w2).mono ?_
    rintro e w3 ⟨rfl, hb⟩
    have HB3 := keep (HB2.out.trans (hb.mono HB2.out.size))
    clear hb
    go_wp2_with fail
    refine (B2.out w3).mono ?_
    rintro e w4 ⟨rfl, hb⟩
    have HB4 := keep (HB3.out.trans (hb.mono HB3.out.size))
    clear hb
    go_wp2_with fail
    refine (L1.out w4).mono ?_
    rintro e w5 ⟨rfl, hb⟩
    have HB5 := keep (HB4.out.trans (hb.mono HB4.out.size))
    clear hb
    go_wp2_with fail
    refine (S2.out w5).mono ?_
    rintro e w' ⟨rfl, rfl⟩
    go_wp2_with fail
    refine (B3.out w5).mono ?_
    rintro e w6 ⟨rfl, hb⟩
    have HB6 := keep (HB5.out.trans (hb.mono HB5.out.size))
    clear hb
    go_wp2_with fail
    refine (live_any w6).mono ?_
    rintro e w7 ⟨rfl, hb⟩
    have HB7 := keep (HB6.out.trans (hb.mono HB6.out.size))
    clear hb
    go_wp2_with fail
    go_ret
    exact ⟨rfl, HB7.out⟩

/-! ### THE ROW's STEP: WRITTEN OUT: LEAVE IT -/
set_option maxRecDepth 100000 in
theorem lifted (os : Os) (started : os.Started) (H : Type) (enc : TypeId × Value → H) :
    ReturnsInHanded {} Try.checked os 3 .any (Rows.crcTellsSpec.pre6 enc Try.prog Try.f3 Rows.crcTellsRow.domain false) (Rows.crcTellsSpec.post enc Try.prog Try.f3 false true false false) := by
  refine returnsInHanded_of_change (C := Try.checked) own started (by kernel_rfl) Try.func3
    (ChangeSpec.witness6 (enc := enc) (C := Try.checked) false ⟨#[], #[.int .u32 0, .string ByteArray.empty], []⟩ 8 (by kernel_rfl) (by kernel_rfl) (by kernel_rfl) (by kernel_rfl)) ?_
  intro W base args ds gs before hval0 hW hcnd _
  have hval : ∀ (j : Nat) t v, Try.f3.params[j]? = some t → args[j]? = some v → Value.okWide Try.prog W .any base t v := hval0
  have hW' := hW
  obtain ⟨p, q, hA0, hV, rfl, hfz, hnd⟩ := hW
  have hA : DataW.TrodAll enc Try.prog W 0 (fun _ => true) true Try.f3.params.toList args.toList ds p := hA0
  rw [Try.params3] at hA hval
  obtain ⟨v0, vs0, d0, ds0, p0, q0, hargs, rfl, rfl, h0, r0⟩ := trodAll_cons hA
  obtain ⟨v1, vs1, d1, ds1, p1, q1, rfl, rfl, rfl, h1, r1⟩ := trodAll_cons r0
  obtain ⟨rfl, rfl, rfl⟩ := trodAll_nil r1
  obtain rfl : args = #[v0, v1] := by cases args; simp_all
  obtain ⟨rfl, rfl⟩ := trodVars_none hV
  obtain ⟨a0, rfl, rfl, rfl, w0⟩ := open_int Try.underlying22 (hval 0 22 v0 rfl rfl) h0
  obtain ⟨a1, rfl, rfl, rfl, w1⟩ := open_string Try.underlying9 (hval 1 9 v1 rfl rfl) h1
  clear hA0 hval0
  simp only [List.append_nil] at hW'
  refine (walk a0 a1 w0 w1 W).mono fun e W' ⟨he, hg⟩ => ?_
  subst he
  exact ⟨_, rfl, _, _, _, [], _, [], hW', (trodAll_cons_mk (shut_bool Try.underlying4 _) trodAll_mk0), (trodAll_cons_mk (shut_int Try.underlying22 w0) (trodAll_cons_mk (shut_string Try.underlying9 w1) trodAll_mk0)), rfl, hg.frame _, fun h => by cases h⟩

theorem over : Rows.crcTellsRow.holds Try.pinned (OpenSpec.ofChange Rows.crcTellsSpec) :=
  OpenClaim.holds_of_wide 3 Try.f3 rfl rfl rfl rfl rfl rfl rfl ⟨rfl, rfl, rfl, rfl, rfl⟩ rfl rfl rfl rfl rfl (by kernel_rfl) Try.func3 (by kernel_rfl)
    (of_decide_eq_true (by kernel_rfl)) (by unfold Func.isWrapper; first | (rw [if_pos (by decide +kernel)]; kernel_rfl) | (rw [if_neg (by decide +kernel)]; exact ⟨rfl, rfl⟩))
    (fun os started H enc _ => lifted os started H enc)

/-- ████ THE STATEMENT ████ -/
theorem proved : Rows.CrcTellsSaid :=
  over
#print axioms proved
end Go.Proofs.Ytmkgokmophjfeaa.crcTells
