/-
  For every string, every int and every uint32, retracelaw02.CrcFinds answers true, and what it is given reads as before. No condition.
-/
import Derived.Test.YtmkgokmophjfeaaRows
import Derived.Test.YtmkgokmophjfeaaCrcG
import Derived.WalkKit
import Derived.Below
import Derived.ChangeOld
import Derived.Deep.RegionHeld3
import Derived.StillTailTactics
import Derived.ProofKit
import Derived.OpenShut
import Derived.ShutString
namespace Go.Proofs.Ytmkgokmophjfeaa.crcFinds
open Go.ChangeShapes Go.WideShapes Go.ChangeAt Go.RowKit
open Go.ChangeMaps (open_string shut_string)
set_option linter.unusedVariables false      -- a walk need not use every 'w<i>' (that an integer argument fits its kind)

theorem own : ownKnob Try.prog.godebug = none := by kernel_rfl

-- For every string, every int and every uint32, retracelaw02.CrcFinds answers true, and what it is given reads as before. No condition.
/-- What Open makes of it, and whether it is what was sealed. -/
theorem finds_open {s u : ByteArray} {a F : Nat} (hl : u.data.toList.length = (s ++ seal4 (sumI s)).data.toList.length) (hv : val u.data.toList = val (s ++ seal4 (sumI s)).data.toList ^^^ 2 ^ a * F) (hF : F < 4294967296) :
    ∃ (x : ByteArray) (er : Int) (b : Bool), openT u = .tuple #[.string x, .int .i64 er] ∧ (er == 0) = b ∧ (u.toList == (s ++ seal4 (sumI s)).toList) = b := by
  rw [seal_list] at hl hv
  have h4 : 4 ≤ u.size := by rw [size_list, hl]; simp [bytes4]
  by_cases h : isSealed u.data.toList
  · refine ⟨_, _, true, open_ok h4 h, rfl, beq_yes (str_ext ?_)⟩
    rw [seal_list]; exact (isSealed_same hl hv hF).1 h
  · refine ⟨_, _, false, open_bad h4 h, rfl, beq_no (fun c => h ((isSealed_same hl hv hF).2 ?_))⟩
    rw [c, seal_list]

theorem finds_sum {s t : ByteArray} {a F : Nat} (hl : t.data.toList.length = s.data.toList.length) (hv : val t.data.toList = val s.data.toList ^^^ 2 ^ a * F) (hF : F < 4294967296) :
    ∃ b : Bool, (sumI t == sumI s) = b ∧ (t.toList == s.toList) = b := by
  by_cases h : t = s
  · exact ⟨true, by rw [h]; simp, beq_yes h⟩
  · refine ⟨false, ?_, beq_no h⟩
    rw [beq_eq_false_iff_ne]
    intro c
    refine h (str_ext ((sum_same hl hv hF).1 ?_))
    unfold sumI at c; omega

/-! ### STEP 1: THE WALK: the Go text returns true. 'Below w.heap.size w w'': the world has at most new blocks (Derived/RowKit3.lean). Part the cases AHEAD of 'go_enter' where a test parts the walk; take each callee by a contract of your own. -/
set_option maxHeartbeats 2000000 in
theorem walk (a0 : ByteArray) (a1 : Int) (a2 : Int) (w0 : a0.size ≤ maxLen) (w1 : (Lit.int .i64 a1).wf = true) (w2 : (Lit.int .u32 a2).wf = true) (w : World) :
    Calls Try.prog 6 #[.string a0, .int .i64 a1, .int .u32 a2] w fun e w' => e = .returned (.bool true) ∧ Below w.heap.size w w' := by
-- For every string, every int and every uint32, retracelaw02.CrcFinds answers true, and what it is given reads as before. No condition.
  by_cases h0 : (300 : Int) < (a0.size : Int)
  · clear w0 w1 w2
    go_enter Try.func6, Try.ntmps6
    go_wp2_with fail
    refine (live_any w).mono ?_
    rintro e w1 ⟨rfl, hb⟩
    have HBw1 := keep hb
    clear hb
    go_wp2_with fail
    go_ret
    exact ⟨rfl, HBw1.out⟩
  · by_cases h1 : a1 < 0
    · clear w0 w1 w2
      go_enter Try.func6, Try.ntmps6
      go_wp2_with fail
      refine (live_any w).mono ?_
      rintro e w1 ⟨rfl, hb⟩
      have HBw1 := keep hb
      clear hb
      go_wp2_with fail
      go_ret
      exact ⟨rfl, HBw1.out⟩
    · have hs1 : (a0.size : Int) ≤ 300 := by omega
      by_cases h2 : 8 * (a0.size : Int) + 64 < a1
      · clear w0 w1 w2
        go_enter Try.func6, Try.ntmps6
        go_wp2_with fail
        refine (live_any w).mono ?_
        rintro e w1 ⟨rfl, hb⟩
        have HBw1 := keep hb
        clear hb
        go_wp2_with fail
        go_ret
        exact ⟨rfl, HBw1.out⟩
      · obtain ⟨a, rfl⟩ := Int.eq_ofNat_of_zero_le (show 0 ≤ a1 by omega)
        have T1 := keep (fun w => turned_any a0 a a2 w (by omega) (by omega))
        have L1 := keep (fun w => seal_any a0 w (by omega))
        have SA : ∀ w, Calls Try.prog 8 #[.string a0] w fun e w' => e = .returned (.int .u32 (sumI a0)) ∧ Below w.heap.size w w' := fun w => sum_any a0 w (by omega)
        have SA := keep SA
        have hpz : (a0 ++ seal4 (sumI a0)).size = a0.size + 4 := by rw [size_list, seal_list, size_list]; simp [bytes4]
        have T2 := keep (fun w => turned_any (a0 ++ seal4 (sumI a0)) a a2 w (by omega) (by omega))
        have FO := keep (fun u F => finds_open (s := a0) (u := u) (a := a) (F := F))
        have FS := keep (fun t F => finds_sum (s := a0) (t := t) (a := a) (F := F))
        have HPZ : Keep ((a0 ++ seal4 (sumI a0)).data.toList.length ≤ 400) := keep (by rw [← size_list, hpz]; omega)
        have HAZ : Keep (a0.data.toList.length ≤ 400) := keep (by rw [← size_list]; omega)
        have hd0 : decide ((a : Int) < 0) = false := by simp
        clear w0 w1 w2 hpz h1
        generalize a0 ++ seal4 (sumI a0) = p at *
        go_enter Try.func6, Try.ntmps6
        go_wp2_with fail
        refine (T1.out w).mono ?_
        rintro e w1 ⟨t, F, rfl, hl, hv, hF, hb⟩
        have HBw1 := keep hb
        obtain ⟨b1, hb1, hb2⟩ := FS.out t F hl hv hF
        have SB : ∀ w, Calls Try.prog 8 #[.string t] w fun e w' => e = .returned (.int .u32 (sumI t)) ∧ Below w.heap.size w w' := fun w => sum_any t w (by rw [size_list, hl]; have := HAZ.out; omega)
        have SB := keep SB
        clear hl hv hF hb
        go_wp2_with fail
        refine (L1.out w1).mono ?_
        rintro e w2 ⟨rfl, hb⟩
        have HBw2 := keep (HBw1.out.trans (hb.mono HBw1.out.size))
        clear hb
        go_wp2_with fail
        refine (T2.out w2).mono ?_
        rintro e w3 ⟨u, F2, rfl, hl, hv, hF, hb⟩
        have HBw3 := keep (HBw2.out.trans (hb.mono HBw2.out.size))
        obtain ⟨x, er, b2, ho, hb3, hb4⟩ := FO.out u F2 hl hv hF
        have OU := fun w => open_any u w (by rw [size_list, hl]; have := HPZ.out; omega)
        rw [ho] at OU
        have OU := keep OU
        clear hl hv hF hb ho
        go_wp2_with fail
        refine (OU.out w3).mono ?_
        rintro e w4 ⟨rfl, hb⟩
        have HBw4 := keep (HBw3.out.trans (hb.mono HBw3.out.size))
        clear hb
        go_wp2_with fail
        refine (SB.out w4).mono ?_
        rintro e w5 ⟨rfl, hb⟩
        have HBw5 := keep (HBw4.out.trans (hb.mono HBw4.out.size))
        clear hb
        go_wp2_with fail
        refine (SA.out w5).mono ?_
        rintro e w6 ⟨rfl, hb⟩
        have HBw6 := keep (HBw5.out.trans (hb.mono HBw5.out.size))
        clear hb
        go_wp2_with fail
        refine (live_any w6).mono ?_
        rintro e w7 ⟨rfl, hb⟩
        have HBw7 := keep (HBw6.out.trans (hb.mono HBw6.out.size))
        clear hb
        go_wp2_with fail
        go_ret
        exact ⟨rfl, HBw7.out⟩

/-! ### THE ROW's STEP: WRITTEN OUT: LEAVE IT -/
set_option maxRecDepth 100000 in
theorem lifted (os : Os) (started : os.Started) (H : Type) (enc : TypeId × Value → H) :
    ReturnsInHanded {} Try.checked os 6 .any (Rows.crcFindsSpec.pre6 enc Try.prog Try.f6 Rows.crcFindsRow.domain false) (Rows.crcFindsSpec.post enc Try.prog Try.f6 false true false false) := by
  refine returnsInHanded_of_change (C := Try.checked) own started (by kernel_rfl) Try.func6
    (ChangeSpec.witness6 (enc := enc) (C := Try.checked) false ⟨#[], #[.string ByteArray.empty, .int .i64 0, .int .u32 0], []⟩ 8 (by kernel_rfl) (by kernel_rfl) (by kernel_rfl) (by kernel_rfl)) ?_
  intro W base args ds gs before hval0 hW hcnd _
  have hval : ∀ (j : Nat) t v, Try.f6.params[j]? = some t → args[j]? = some v → Value.okWide Try.prog W .any base t v := hval0
  have hW' := hW
  obtain ⟨p, q, hA0, hV, rfl, hfz, hnd⟩ := hW
  have hA : DataW.TrodAll enc Try.prog W 0 (fun _ => true) true Try.f6.params.toList args.toList ds p := hA0
  rw [Try.params6] at hA hval
  obtain ⟨v0, vs0, d0, ds0, p0, q0, hargs, rfl, rfl, h0, r0⟩ := trodAll_cons hA
  obtain ⟨v1, vs1, d1, ds1, p1, q1, rfl, rfl, rfl, h1, r1⟩ := trodAll_cons r0
  obtain ⟨v2, vs2, d2, ds2, p2, q2, rfl, rfl, rfl, h2, r2⟩ := trodAll_cons r1
  obtain ⟨rfl, rfl, rfl⟩ := trodAll_nil r2
  obtain rfl : args = #[v0, v1, v2] := by cases args; simp_all
  obtain ⟨rfl, rfl⟩ := trodVars_none hV
  obtain ⟨a0, rfl, rfl, rfl, w0⟩ := open_string Try.underlying9 (hval 0 9 v0 rfl rfl) h0
  obtain ⟨a1, rfl, rfl, rfl, w1⟩ := open_int Try.underlying3 (hval 1 3 v1 rfl rfl) h1
  obtain ⟨a2, rfl, rfl, rfl, w2⟩ := open_int Try.underlying22 (hval 2 22 v2 rfl rfl) h2
  clear hA0 hval0
  simp only [List.append_nil] at hW'
  refine (walk a0 a1 a2 w0 w1 w2 W).mono fun e W' ⟨he, hg⟩ => ?_
  subst he
  exact ⟨_, rfl, _, _, _, [], _, [], hW', (trodAll_cons_mk (shut_bool Try.underlying4 _) trodAll_mk0), (trodAll_cons_mk (shut_string Try.underlying9 w0) (trodAll_cons_mk (shut_int Try.underlying3 w1) (trodAll_cons_mk (shut_int Try.underlying22 w2) trodAll_mk0))), rfl, hg.frame _, fun h => by cases h⟩

theorem over : Rows.crcFindsRow.holds Try.pinned (OpenSpec.ofChange Rows.crcFindsSpec) :=
  OpenClaim.holds_of_wide 6 Try.f6 rfl rfl rfl rfl rfl rfl rfl ⟨rfl, rfl, rfl, rfl, rfl⟩ rfl rfl rfl rfl rfl (by kernel_rfl) Try.func6 (by kernel_rfl)
    (of_decide_eq_true (by kernel_rfl)) (by unfold Func.isWrapper; first | (rw [if_pos (by decide +kernel)]; kernel_rfl) | (rw [if_neg (by decide +kernel)]; exact ⟨rfl, rfl⟩))
    (fun os started H enc _ => lifted os started H enc)

/-- ████ THE STATEMENT ████ -/
theorem proved : Rows.CrcFindsSaid :=
  over
#print axioms proved
end Go.Proofs.Ytmkgokmophjfeaa.crcFinds
