/-
  For every string and every two ints, retracelaw07.SpotAt answers true, and what it is given reads as before. No condition.
-/
import Derived.Test.YtikkblakncflfaaRows
import Derived.Test.YtikkblakncflfaaSpotL
import Derived.WalkKit
import Derived.Below
import Derived.ChangeOld
import Derived.Deep.RegionHeld3
import Derived.StillTailTactics
import Derived.ProofKit
import Derived.OpenShut
import Derived.ShutString
namespace Go.Proofs.Ytikkblakncflfaa.spotAt
open Go.ChangeShapes Go.WideShapes Go.ChangeAt Go.RowKit
open Go.ChangeMaps (open_string shut_string)
set_option linter.unusedVariables false      -- a walk need not use every 'w<i>' (that an integer argument fits its kind)

theorem own : ownKnob Try.prog.godebug = none := by kernel_rfl

-- For every string and every two ints, retracelaw07.SpotAt answers true, and what it is given reads as before. No condition.
/-! ### STEP 1: THE WALK: the Go text returns true. 'Below w.heap.size w w'': the world has at most new blocks (Derived/RowKit3.lean). Part the cases AHEAD of 'go_enter' where a test parts the walk; take each callee by a contract of your own. -/
set_option maxHeartbeats 2000000 in
theorem walk (a0 : ByteArray) (a1 : Int) (a2 : Int) (w0 : a0.size ≤ maxLen) (w1 : (Lit.int .i64 a1).wf = true) (w2 : (Lit.int .i64 a2).wf = true) (w : World) :
    Calls Try.prog 5 #[.string a0, .int .i64 a1, .int .i64 a2] w fun e w' => e = .returned (.bool true) ∧ Below w.heap.size w w' := by
  by_cases hlen : (600 : Int) < (a0.size : Int)
  · clear w0 w1 w2
    go_enter Try.func5, Try.ntmps5
    go_wp2_with fail
    refine (live_any _).mono ?_
    rintro e w' ⟨rfl, rfl⟩
    go_wp2_with fail
    go_ret
    exact ⟨rfl, Below.refl _ _⟩
  · have hs : a0.size ≤ 100000 := by omega
    have h1 : (a0.size : Int) ≤ 600 := by omega
    have N1 := keep (fun w => at_any a0 a1 a2 hs w)
    have N2 := keep (fun i w => rof_any a0 i (by omega) w)
    have HIT : Keep (∀ i : Nat, i ≤ a0.size → ((ofP (a0.data.toList.take i)).1 : Int) + 1 = a1 → ((ofP (a0.data.toList.take i)).2 : Int) + 1 = a2 → att a0.data.toList a1 a2 = ((i : Int), true)) := ⟨fun i hi e1 e2 => by
      rw [← e1, ← e2]; exact (att_hit (by rw [← size_list]; exact hi) rfl).1⟩
    have NONE : Keep ((∀ i, i ≤ a0.size → ¬ (((ofP (a0.data.toList.take i)).1 : Int) + 1 = a1 ∧ ((ofP (a0.data.toList.take i)).2 : Int) + 1 = a2)) → att a0.data.toList a1 a2 = (0, false)) := ⟨fun h => att_none (by rw [← size_list]; exact h)⟩
    generalize att a0.data.toList a1 a2 = R at *
    obtain ⟨V, b⟩ := R
    simp only at N1
    clear w0 w1 w2 hs hlen
    go_enter Try.func5, Try.ntmps5
    go_wp2_with fail
    refine (N1.out w).mono ?_
    rintro e w1 ⟨rfl, hb⟩
    have HB1 := keep hb
    clear hb
    go_wp2_with fail
    go_loopw [9] (fun iv wr => ∃ k : Nat, iv = .int .i64 (k : Int) ∧ k ≤ a0.size + 1 ∧ Keep (Below w.heap.size w wr ∧ ∀ i, i < k → ¬ (((ofP (a0.data.toList.take i)).1 : Int) + 1 = a1 ∧ ((ofP (a0.data.toList.take i)).2 : Int) + 1 = a2))) (fun iv _ => a0.size + 1 - (intOf iv).toNat)
    case atStart => exact ⟨0, rfl, Nat.zero_le _, ⟨HB1.out, fun i hi => by omega⟩⟩
    case round =>
      obtain ⟨k, rfl, hk, HK⟩ := hrel
      by_cases hlt : k ≤ a0.size
      · have hltI : (k : Int) ≤ (a0.size : Int) := by omega
        have NK := keep (N2.out (k : Int) wr)
        rw [Int.toNat_natCast] at NK
        have HH := keep (HIT.out k hlt)
        have HSTEP : Keep (¬ (((ofP (a0.data.toList.take k)).1 : Int) + 1 = a1 ∧ ((ofP (a0.data.toList.take k)).2 : Int) + 1 = a2) → ∀ i, i < k + 1 → ¬ (((ofP (a0.data.toList.take i)).1 : Int) + 1 = a1 ∧ ((ofP (a0.data.toList.take i)).2 : Int) + 1 = a2)) := ⟨fun h i hi => by
          rcases Nat.lt_or_ge i k with h1 | h1
          · exact HK.out.2 i h1
          · rw [show i = k by omega]; exact h⟩
        generalize ofP (a0.data.toList.take k) = x at *
        obtain ⟨l, c⟩ := x
        simp only at NK HH HSTEP
        by_cases e1 : (l : Int) + 1 = a1
        · by_cases e2 : (c : Int) + 1 = a2
          · have HE := HH.out e1 e2
            injection HE with hV hb
            subst hV hb
            have heq := eq2_is (a := (l : Int) + 1) (b := (c : Int) + 1) (c := a1) (d := a2) (r := true) (by simp [e1, e2])
            clear e1 e2 HH HSTEP
            go_wp2_with fail
            refine NK.out.mono ?_
            rintro e w2 ⟨rfl, hb⟩
            have HB2 := keep hb
            clear hb
            go_wp2_with fail
            refine (live_any _).mono ?_
            rintro e w' ⟨rfl, rfl⟩
            go_wp2_with fail
            go_ret
            exact ⟨rfl, HK.out.1.trans (HB2.out.mono HK.out.1.size)⟩
          · have heq := eq2_is (a := (l : Int) + 1) (b := (c : Int) + 1) (c := a1) (d := a2) (r := false) (by simp [e2])
            have HS := keep (HSTEP.out (fun h => e2 h.2))
            clear e1 e2 HH HSTEP
            go_wp2_with fail
            refine NK.out.mono ?_
            rintro e w2 ⟨rfl, hb⟩
            have HB2 := keep hb
            clear hb
            go_wp2_with fail
            go_roundw
            case rel => exact ⟨k + 1, by go_num, by omega, ⟨HK.out.1.trans (HB2.out.mono HK.out.1.size), HS.out⟩⟩
            case measure => simp [intOf]; omega
        · have heq := eq2_is (a := (l : Int) + 1) (b := (c : Int) + 1) (c := a1) (d := a2) (r := false) (by simp [e1])
          have HS := keep (HSTEP.out (fun h => e1 h.1))
          clear e1 HH HSTEP
          go_wp2_with fail
          refine NK.out.mono ?_
          rintro e w2 ⟨rfl, hb⟩
          have HB2 := keep hb
          clear hb
          go_wp2_with fail
          go_roundw
          case rel => exact ⟨k + 1, by go_num, by omega, ⟨HK.out.1.trans (HB2.out.mono HK.out.1.size), HS.out⟩⟩
          case measure => simp [intOf]; omega
      · have HE := NONE.out (fun i hi => HK.out.2 i (by omega))
        injection HE with hV hb
        subst hV hb
        have hgt : ¬ ((k : Int) ≤ (a0.size : Int)) := by omega
        clear hlt
        go_wp2_with fail
        refine (live_any _).mono ?_
        rintro e w' ⟨rfl, rfl⟩
        go_wp2_with fail
        go_ret
        exact ⟨rfl, HK.out.1⟩

/-! ### THE ROW's STEP: WRITTEN OUT: LEAVE IT -/
set_option maxRecDepth 100000 in
theorem lifted (os : Os) (started : os.Started) (H : Type) (enc : TypeId × Value → H) :
    ReturnsInHanded {} Try.checked os 5 .any (Rows.spotAtSpec.pre6 enc Try.prog Try.f5 Rows.spotAtRow.domain false) (Rows.spotAtSpec.post enc Try.prog Try.f5 false true false false) := by
  refine returnsInHanded_of_change (C := Try.checked) own started (by kernel_rfl) Try.func5
    (ChangeSpec.witness6 (enc := enc) (C := Try.checked) false ⟨#[], #[.string ByteArray.empty, .int .i64 0, .int .i64 0], []⟩ 8 (by kernel_rfl) (by kernel_rfl) (by kernel_rfl) (by kernel_rfl)) ?_
  intro W base args ds gs before hval0 hW hcnd _
  have hval : ∀ (j : Nat) t v, Try.f5.params[j]? = some t → args[j]? = some v → Value.okWide Try.prog W .any base t v := hval0
  have hW' := hW
  obtain ⟨p, q, hA0, hV, rfl, hfz, hnd⟩ := hW
  have hA : DataW.TrodAll enc Try.prog W 0 (fun _ => true) true Try.f5.params.toList args.toList ds p := hA0
  rw [Try.params5] at hA hval
  obtain ⟨v0, vs0, d0, ds0, p0, q0, hargs, rfl, rfl, h0, r0⟩ := trodAll_cons hA
  obtain ⟨v1, vs1, d1, ds1, p1, q1, rfl, rfl, rfl, h1, r1⟩ := trodAll_cons r0
  obtain ⟨v2, vs2, d2, ds2, p2, q2, rfl, rfl, rfl, h2, r2⟩ := trodAll_cons r1
  obtain ⟨rfl, rfl, rfl⟩ := trodAll_nil r2
  obtain rfl : args = #[v0, v1, v2] := by cases args; simp_all
  obtain ⟨rfl, rfl⟩ := trodVars_none hV
  obtain ⟨a0, rfl, rfl, rfl, w0⟩ := open_string Try.underlying9 (hval 0 9 v0 rfl rfl) h0
  obtain ⟨a1, rfl, rfl, rfl, w1⟩ := open_int Try.underlying3 (hval 1 3 v1 rfl rfl) h1
  obtain ⟨a2, rfl, rfl, rfl, w2⟩ := open_int Try.underlying3 (hval 2 3 v2 rfl rfl) h2
  clear hA0 hval0
  simp only [List.append_nil] at hW'
  refine (walk a0 a1 a2 w0 w1 w2 W).mono fun e W' ⟨he, hg⟩ => ?_
  subst he
  exact ⟨_, rfl, _, _, _, [], _, [], hW', (trodAll_cons_mk (shut_bool Try.underlying4 _) trodAll_mk0), (trodAll_cons_mk (shut_string Try.underlying9 w0) (trodAll_cons_mk (shut_int Try.underlying3 w1) (trodAll_cons_mk (shut_int Try.underlying3 w2) trodAll_mk0))), rfl, hg.frame _, fun h => by cases h⟩

theorem over : Rows.spotAtRow.holds Try.pinned (OpenSpec.ofChange Rows.spotAtSpec) :=
  OpenClaim.holds_of_wide 5 Try.f5 rfl rfl rfl rfl rfl rfl rfl ⟨rfl, rfl, rfl, rfl, rfl⟩ rfl rfl rfl rfl rfl (by kernel_rfl) Try.func5 (by kernel_rfl)
    (of_decide_eq_true (by kernel_rfl)) (by unfold Func.isWrapper; first | (rw [if_pos (by decide +kernel)]; kernel_rfl) | (rw [if_neg (by decide +kernel)]; exact ⟨rfl, rfl⟩))
    (fun os started H enc _ => lifted os started H enc)

/-- ████ THE STATEMENT ████ -/
theorem proved : Rows.SpotAtSaid :=
  over
#print axioms proved
end Go.Proofs.Ytikkblakncflfaa.spotAt
