/-
  For every two strings, retracelaw02.CrcGoes answers true, and what it is given reads as before. No condition.
-/
import Derived.Test.YtmkgokmophjfeaaRows
import Derived.Test.YtmkgokmophjfeaaCrcG
import Derived.WalkKit
import Derived.Below
import Derived.ChangeOld
import Derived.Deep.RegionHeld3
import Derived.StillTailTactics
import Derived.ProofKit
import Derived.OpenShut
import Derived.ShutString
namespace Go.Proofs.Ytmkgokmophjfeaa.crcGoes
open Go.ChangeShapes Go.WideShapes Go.ChangeAt Go.RowKit
open Go.ChangeMaps (open_string shut_string)
set_option linter.unusedVariables false      -- a walk need not use every 'w<i>' (that an integer argument fits its kind)

theorem own : ownKnob Try.prog.godebug = none := by kernel_rfl

-- For every two strings, retracelaw02.CrcGoes answers true, and what it is given reads as before. No condition.
/-! ### STEP 1: THE WALK: the Go text returns true. 'Below w.heap.size w w'': the world has at most new blocks (Derived/RowKit3.lean). Part the cases AHEAD of 'go_enter' where a test parts the walk; take each callee by a contract of your own. -/
set_option maxHeartbeats 2000000 in
theorem walk (a0 : ByteArray) (a1 : ByteArray) (w0 : a0.size ≤ maxLen) (w1 : a1.size ≤ maxLen) (w : World) :
    Calls Try.prog 4 #[.string a0, .string a1] w fun e w' => e = .returned (.bool true) ∧ Below w.heap.size w w' := by
-- For every two strings, retracelaw02.CrcGoes answers true, and what it is given reads as before. No condition.
  by_cases hlen : (300 : Int) < (a0.size : Int) ∨ (300 : Int) < (a1.size : Int)
  · clear w0 w1
    by_cases h0 : (300 : Int) < (a0.size : Int)
    · clear hlen
      go_enter Try.func4, Try.ntmps4
      go_wp2_with fail
      refine (live_any w).mono ?_
      rintro e w1 ⟨rfl, hb⟩
      have HBw1 := keep hb
      clear hb
      go_wp2_with fail
      go_ret
      exact ⟨rfl, HBw1.out⟩
    · have h1 : (300 : Int) < (a1.size : Int) := by omega
      clear hlen
      go_enter Try.func4, Try.ntmps4
      go_wp2_with fail
      refine (live_any w).mono ?_
      rintro e w1 ⟨rfl, hb⟩
      have HBw1 := keep hb
      clear hb
      go_wp2_with fail
      go_ret
      exact ⟨rfl, HBw1.out⟩
  · have hs0 : (a0.size : Int) ≤ 300 := by omega
    have hs1 : (a1.size : Int) ≤ 300 := by omega
    have hz : (a0 ++ a1).size ≤ 1000000 := by rw [size_list, cat_data]; simp; omega
    have hq := sumI_bd a0
    have S0 := fun w => sum_any a0 w (by omega)
    have S1 := fun w => sum_any (a0 ++ a1) w hz
    have M1 := fun w => more_any (sumI a0) a1 w hq.1 hq.2 (by omega)
    have M2 := fun w => more_any 0 a0 w (by omega) (by omega) (by omega)
    have M3 := fun w => more_any (sumI a0) ⟨#[]⟩ w hq.1 hq.2 (by decide)
    have e0 : ((sumN a0.data.toList : Nat) : Int) = sumI a0 := rfl
    have e1 : ((moreN (sumI a0).toNat a1.data.toList : Nat) : Int) = ((sumN (a0 ++ a1).data.toList : Nat) : Int) := by
      unfold sumI; rw [Int.toNat_natCast, more_sum, cat_data]
    have e2 : ((moreN (0 : Int).toNat a0.data.toList : Nat) : Int) = sumI a0 := rfl
    have e3 : ((moreN (sumI a0).toNat (⟨#[]⟩ : ByteArray).data.toList : Nat) : Int) = sumI a0 := by
      show ((moreN (sumI a0).toNat [] : Nat) : Int) = sumI a0
      rw [more_nil]; omega
    rw [e0] at S0
    rw [e1] at M1
    rw [e2] at M2
    rw [e3] at M3
    have S0 := keep S0
    have S1 := keep S1
    have M1 := keep M1
    have M2 := keep M2
    have M3 := keep M3
    clear w0 w1 hlen hz hq e0 e1 e2 e3
    generalize sumI a0 = q at *
    generalize ((sumN (a0 ++ a1).data.toList : Nat) : Int) = p at *
    go_enter Try.func4, Try.ntmps4
    go_wp2_with fail
    refine (S0.out w).mono ?_
    rintro e w1 ⟨rfl, hb⟩
    have HBw1 := keep hb
    clear hb
    go_wp2_with fail
    refine (M1.out w1).mono ?_
    rintro e w2 ⟨rfl, hb⟩
    have HBw2 := keep (HBw1.out.trans (hb.mono HBw1.out.size))
    clear hb
    go_wp2_with fail
    refine (S1.out w2).mono ?_
    rintro e w3 ⟨rfl, hb⟩
    have HBw3 := keep (HBw2.out.trans (hb.mono HBw2.out.size))
    clear hb
    go_wp2_with fail
    refine (M2.out w3).mono ?_
    rintro e w4 ⟨rfl, hb⟩
    have HBw4 := keep (HBw3.out.trans (hb.mono HBw3.out.size))
    clear hb
    go_wp2_with fail
    refine (S0.out w4).mono ?_
    rintro e w5 ⟨rfl, hb⟩
    have HBw5 := keep (HBw4.out.trans (hb.mono HBw4.out.size))
    clear hb
    go_wp2_with fail
    refine (S0.out w5).mono ?_
    rintro e w6 ⟨rfl, hb⟩
    have HBw6 := keep (HBw5.out.trans (hb.mono HBw5.out.size))
    clear hb
    go_wp2_with fail
    refine (M3.out w6).mono ?_
    rintro e w7 ⟨rfl, hb⟩
    have HBw7 := keep (HBw6.out.trans (hb.mono HBw6.out.size))
    clear hb
    go_wp2_with fail
    refine (S0.out w7).mono ?_
    rintro e w8 ⟨rfl, hb⟩
    have HBw8 := keep (HBw7.out.trans (hb.mono HBw7.out.size))
    clear hb
    go_wp2_with fail
    refine (live_any w8).mono ?_
    rintro e w9 ⟨rfl, hb⟩
    have HBw9 := keep (HBw8.out.trans (hb.mono HBw8.out.size))
    clear hb
    go_wp2_with fail
    go_ret
    exact ⟨rfl, HBw9.out⟩

/-! ### THE ROW's STEP: WRITTEN OUT: LEAVE IT -/
set_option maxRecDepth 100000 in
theorem lifted (os : Os) (started : os.Started) (H : Type) (enc : TypeId × Value → H) :
    ReturnsInHanded {} Try.checked os 4 .any (Rows.crcGoesSpec.pre6 enc Try.prog Try.f4 Rows.crcGoesRow.domain false) (Rows.crcGoesSpec.post enc Try.prog Try.f4 false true false false) := by
  refine returnsInHanded_of_change (C := Try.checked) own started (by kernel_rfl) Try.func4
    (ChangeSpec.witness6 (enc := enc) (C := Try.checked) false ⟨#[], #[.string ByteArray.empty, .string ByteArray.empty], []⟩ 8 (by kernel_rfl) (by kernel_rfl) (by kernel_rfl) (by kernel_rfl)) ?_
  intro W base args ds gs before hval0 hW hcnd _
  have hval : ∀ (j : Nat) t v, Try.f4.params[j]? = some t → args[j]? = some v → Value.okWide Try.prog W .any base t v := hval0
  have hW' := hW
  obtain ⟨p, q, hA0, hV, rfl, hfz, hnd⟩ := hW
  have hA : DataW.TrodAll enc Try.prog W 0 (fun _ => true) true Try.f4.params.toList args.toList ds p := hA0
  rw [Try.params4] at hA hval
  obtain ⟨v0, vs0, d0, ds0, p0, q0, hargs, rfl, rfl, h0, r0⟩ := trodAll_cons hA
  obtain ⟨v1, vs1, d1, ds1, p1, q1, rfl, rfl, rfl, h1, r1⟩ := trodAll_cons r0
  obtain ⟨rfl, rfl, rfl⟩ := trodAll_nil r1
  obtain rfl : args = #[v0, v1] := by cases args; simp_all
  obtain ⟨rfl, rfl⟩ := trodVars_none hV
  obtain ⟨a0, rfl, rfl, rfl, w0⟩ := open_string Try.underlying9 (hval 0 9 v0 rfl rfl) h0
  obtain ⟨a1, rfl, rfl, rfl, w1⟩ := open_string Try.underlying9 (hval 1 9 v1 rfl rfl) h1
  clear hA0 hval0
  simp only [List.append_nil] at hW'
  refine (walk a0 a1 w0 w1 W).mono fun e W' ⟨he, hg⟩ => ?_
  subst he
  exact ⟨_, rfl, _, _, _, [], _, [], hW', (trodAll_cons_mk (shut_bool Try.underlying4 _) trodAll_mk0), (trodAll_cons_mk (shut_string Try.underlying9 w0) (trodAll_cons_mk (shut_string Try.underlying9 w1) trodAll_mk0)), rfl, hg.frame _, fun h => by cases h⟩

theorem over : Rows.crcGoesRow.holds Try.pinned (OpenSpec.ofChange Rows.crcGoesSpec) :=
  OpenClaim.holds_of_wide 4 Try.f4 rfl rfl rfl rfl rfl rfl rfl ⟨rfl, rfl, rfl, rfl, rfl⟩ rfl rfl rfl rfl rfl (by kernel_rfl) Try.func4 (by kernel_rfl)
    (of_decide_eq_true (by kernel_rfl)) (by unfold Func.isWrapper; first | (rw [if_pos (by decide +kernel)]; kernel_rfl) | (rw [if_neg (by decide +kernel)]; exact ⟨rfl, rfl⟩))
    (fun os started H enc _ => lifted os started H enc)

/-- ████ THE STATEMENT ████ -/
theorem proved : Rows.CrcGoesSaid :=
  over
#print axioms proved
end Go.Proofs.Ytmkgokmophjfeaa.crcGoes
