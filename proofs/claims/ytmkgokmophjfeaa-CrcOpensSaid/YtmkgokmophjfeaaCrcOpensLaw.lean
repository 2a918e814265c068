/-
  For every string, retracelaw02.CrcOpens answers true, and what it is given reads as before. No condition.
-/
import Derived.Test.YtmkgokmophjfeaaRows
import Derived.Test.YtmkgokmophjfeaaCrcG
import Derived.WalkKit
import Derived.Below
import Derived.ChangeOld
import Derived.Deep.RegionHeld3
import Derived.StillTailTactics
import Derived.ProofKit
import Derived.OpenShut
import Derived.ShutString
namespace Go.Proofs.Ytmkgokmophjfeaa.crcOpens
open Go.ChangeShapes Go.WideShapes Go.ChangeAt Go.RowKit
open Go.ChangeMaps (open_string shut_string)
set_option linter.unusedVariables false      -- a walk need not use every 'w<i>' (that an integer argument fits its kind)

theorem own : ownKnob Try.prog.godebug = none := by kernel_rfl

-- For every string, retracelaw02.CrcOpens answers true, and what it is given reads as before. No condition.
/-! ### STEP 1: THE WALK: the Go text returns true. 'Below w.heap.size w w'': the world has at most new blocks (Derived/RowKit3.lean). Part the cases AHEAD of 'go_enter' where a test parts the walk; take each callee by a contract of your own. -/
set_option maxHeartbeats 2000000 in
theorem walk (a0 : ByteArray) (w0 : a0.size ≤ maxLen) (w : World) :
    Calls Try.prog 5 #[.string a0] w fun e w' => e = .returned (.bool true) ∧ Below w.heap.size w w' := by
-- For every string, retracelaw02.CrcOpens answers true, and what it is given reads as before. No condition.
  by_cases hlen : (300 : Int) < (a0.size : Int)
  · clear w0
    go_enter Try.func5, Try.ntmps5
    go_wp2_with fail
    refine (live_any w).mono ?_
    rintro e w1 ⟨rfl, hb⟩
    have HBw1 := keep hb
    clear hb
    go_wp2_with fail
    go_ret
    exact ⟨rfl, HBw1.out⟩
  · have hs1 : (a0.size : Int) ≤ 300 := by omega
    have O1 := fun w => open_any a0 w (by omega)
    by_cases h4 : a0.size < 4
    · have e : openT a0 = .tuple #[.string ⟨#[]⟩, .int .i64 2] := by unfold openT; rw [if_pos h4]
      rw [e] at O1
      have O1 := keep O1
      have hn : (a0.size : Int) - 4 < 0 := by omega
      clear w0 hlen h4 e
      go_enter Try.func5, Try.ntmps5
      go_wp2_with fail
      refine (O1.out w).mono ?_
      rintro e w1 ⟨rfl, hb⟩
      have HBw1 := keep hb
      clear hb
      go_wp2_with fail
      refine (live_any w1).mono ?_
      rintro e w2 ⟨rfl, hb⟩
      have HBw2 := keep (HBw1.out.trans (hb.mono HBw1.out.size))
      clear hb
      go_wp2_with fail
      go_ret
      exact ⟨rfl, HBw2.out⟩
    · obtain ⟨n, hn⟩ : ∃ n, n = a0.size - 4 := ⟨_, rfl⟩
      have hsz : (a0.size : Int) - 4 = (n : Int) := by omega
      have hn0 : (0 : Int) ≤ (n : Int) := by omega
      have hn1 : (n : Int) ≤ (a0.size : Int) := by omega
      have hn2 : (n : Int) ≤ 300 := by omega
      have S0 : ∀ w, Calls Try.prog 9 #[.string (a0.extract 0 n)] w fun e w' => e = .returned (.int .u32 (sumI (a0.extract 0 n))) ∧ w = w' := fun w => refSum_any (a0.extract 0 n) w (by rw [ByteArray.size_extract]; omega)
      have hq := sumI_bd (a0.extract 0 n)
      have hT : openT a0 = if a0.extract n a0.size = seal4 (sumI (a0.extract 0 n)) then .tuple #[.string (a0.extract 0 n), .int .i64 0] else .tuple #[.string ⟨#[]⟩, .int .i64 4] := by
        unfold openT; rw [if_neg h4, ← hn]
      generalize sumI (a0.extract 0 n) = q at *
      have HB0 := fun w => refBytes_any q w hq.1 hq.2
      have HS := keep S0
      have HBY := keep HB0
      clear w0 hlen hn h4 S0 HB0 hq
      generalize seal4 q = b at *
      by_cases heq : a0.extract n a0.size = b
      · have hbe := beq_yes heq.symm
        rw [if_pos heq] at hT
        rw [hT] at O1
        have O1 := keep O1
        clear heq hT
        go_enter Try.func5, Try.ntmps5
        go_wp2_with fail
        refine (O1.out w).mono ?_
        rintro e w1 ⟨rfl, hb⟩
        have HBw1 := keep hb
        clear hb
        go_wp2_with fail
        go_region_with (first | (go_at_call 9; refine (HS.out _).mono ?_; rintro e w' ⟨rfl, rfl⟩) | (go_at_call 13; refine (HBY.out _).mono ?_; rintro e w2 ⟨rfl, hb⟩; have HB2 := keep hb; clear hb))
        go_wp2_with fail
        have HBw2 := keep ((HBw1.out.drew).trans (HB2.out.mono HBw1.out.drew.size))
        clear HB2
        refine (live_any _).mono ?_
        rintro e w3 ⟨rfl, hb⟩
        have HBw3 := keep (HBw2.out.trans (hb.mono HBw2.out.size))
        clear hb
        go_wp2_with fail
        go_ret
        exact ⟨rfl, HBw3.out⟩
      · have hbe := beq_no (fun c => heq c.symm)
        rw [if_neg heq] at hT
        rw [hT] at O1
        have O1 := keep O1
        clear heq hT
        go_enter Try.func5, Try.ntmps5
        go_wp2_with fail
        refine (O1.out w).mono ?_
        rintro e w1 ⟨rfl, hb⟩
        have HBw1 := keep hb
        clear hb
        go_wp2_with fail
        go_region_with (first | (go_at_call 9; refine (HS.out _).mono ?_; rintro e w' ⟨rfl, rfl⟩) | (go_at_call 13; refine (HBY.out _).mono ?_; rintro e w2 ⟨rfl, hb⟩; have HB2 := keep hb; clear hb))
        go_wp2_with fail
        have HBw2 := keep ((HBw1.out.drew).trans (HB2.out.mono HBw1.out.drew.size))
        clear HB2
        refine (live_any _).mono ?_
        rintro e w3 ⟨rfl, hb⟩
        have HBw3 := keep (HBw2.out.trans (hb.mono HBw2.out.size))
        clear hb
        go_wp2_with fail
        go_ret
        exact ⟨rfl, HBw3.out⟩

/-! ### THE ROW's STEP: WRITTEN OUT: LEAVE IT -/
set_option maxRecDepth 100000 in
theorem lifted (os : Os) (started : os.Started) (H : Type) (enc : TypeId × Value → H) :
    ReturnsInHanded {} Try.checked os 5 .any (Rows.crcOpensSpec.pre6 enc Try.prog Try.f5 Rows.crcOpensRow.domain false) (Rows.crcOpensSpec.post enc Try.prog Try.f5 false true false false) := by
  refine returnsInHanded_of_change (C := Try.checked) own started (by kernel_rfl) Try.func5
    (ChangeSpec.witness6 (enc := enc) (C := Try.checked) false ⟨#[], #[.string ByteArray.empty], []⟩ 8 (by kernel_rfl) (by kernel_rfl) (by kernel_rfl) (by kernel_rfl)) ?_
  intro W base args ds gs before hval0 hW hcnd _
  have hval : ∀ (j : Nat) t v, Try.f5.params[j]? = some t → args[j]? = some v → Value.okWide Try.prog W .any base t v := hval0
  have hW' := hW
  obtain ⟨p, q, hA0, hV, rfl, hfz, hnd⟩ := hW
  have hA : DataW.TrodAll enc Try.prog W 0 (fun _ => true) true Try.f5.params.toList args.toList ds p := hA0
  rw [Try.params5] at hA hval
  obtain ⟨v0, vs0, d0, ds0, p0, q0, hargs, rfl, rfl, h0, r0⟩ := trodAll_cons hA
  obtain ⟨rfl, rfl, rfl⟩ := trodAll_nil r0
  obtain rfl : args = #[v0] := by cases args; simp_all
  obtain ⟨rfl, rfl⟩ := trodVars_none hV
  obtain ⟨a0, rfl, rfl, rfl, w0⟩ := open_string Try.underlying9 (hval 0 9 v0 rfl rfl) h0
  clear hA0 hval0
  simp only [List.append_nil] at hW'
  refine (walk a0 w0 W).mono fun e W' ⟨he, hg⟩ => ?_
  subst he
  exact ⟨_, rfl, _, _, _, [], _, [], hW', (trodAll_cons_mk (shut_bool Try.underlying4 _) trodAll_mk0), (trodAll_cons_mk (shut_string Try.underlying9 w0) trodAll_mk0), rfl, hg.frame _, fun h => by cases h⟩

theorem over : Rows.crcOpensRow.holds Try.pinned (OpenSpec.ofChange Rows.crcOpensSpec) :=
  OpenClaim.holds_of_wide 5 Try.f5 rfl rfl rfl rfl rfl rfl rfl ⟨rfl, rfl, rfl, rfl, rfl⟩ rfl rfl rfl rfl rfl (by kernel_rfl) Try.func5 (by kernel_rfl)
    (of_decide_eq_true (by kernel_rfl)) (by unfold Func.isWrapper; first | (rw [if_pos (by decide +kernel)]; kernel_rfl) | (rw [if_neg (by decide +kernel)]; exact ⟨rfl, rfl⟩))
    (fun os started H enc _ => lifted os started H enc)

/-- ████ THE STATEMENT ████ -/
theorem proved : Rows.CrcOpensSaid :=
  over
#print axioms proved
end Go.Proofs.Ytmkgokmophjfeaa.crcOpens
