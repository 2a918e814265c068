/-
  For every string, every uint64 and every int64, retracelaw01.VintPuts answers true, and what it is given reads as before. No condition.
-/
import Derived.Test.YtfnaaegnhadnmaaRows
import Derived.Test.YtfnaaegnhadnmaaVintH
import Derived.WalkKit
import Derived.Below
import Derived.ChangeOld
import Derived.ProofKit
import Derived.OpenShut
import Derived.ShutString
namespace Go.Proofs.Ytfnaaegnhadnmaa.vintPuts
open Go.ChangeShapes Go.WideShapes Go.ChangeAt Go.RowKit
open Go.ChangeMaps (open_string shut_string)
set_option linter.unusedVariables false      -- a walk need not use every 'w<i>' (that an integer argument fits its kind)

theorem own : ownKnob Try.prog.godebug = none := by kernel_rfl

-- For every string, every uint64 and every int64, retracelaw01.VintPuts answers true, and what it is given reads as before. No condition.
theorem num_any (u : Int) (w : World) (h0 : 0 ≤ u) (h1 : u < 18446744073709551616) : Calls Try.prog 13 #[.int .u64 u] w (StrIs (num u.toNat) w) := by
  refine refNum_any 9 u w h0 ?_ h1
  have e : (128 : Nat) ^ (9 + 1) = 1180591620717411303424 := by decide
  omega

theorem joined {s s1 : ByteArray} {l : List UInt8} (h : s1.data.toList = l) : s ++ s1 = ⟨(s.data.toList ++ l).toArray⟩ := by rw [cat_data, h]

/-! ### STEP 1: THE WALK: the Go text returns true. 'Below w.heap.size w w'': the world has at most new blocks (Derived/RowKit3.lean). Part the cases AHEAD of 'go_enter' where a test parts the walk; take each callee by a contract of your own. -/
theorem walk (a0 : ByteArray) (a1 : Int) (a2 : Int) (w0 : a0.size ≤ maxLen) (w1 : (Lit.int .u64 a1).wf = true) (w2 : (Lit.int .i64 a2).wf = true) (w : World) :
    Calls Try.prog 4 #[.string a0, .int .u64 a1, .int .i64 a2] w fun e w' => e = .returned (.bool true) ∧ Below w.heap.size w w' := by
-- For every string, every uint64 and every int64, retracelaw01.VintPuts answers true, and what it is given reads as before. No condition.
  by_cases hlen : (1000 : Int) < (a0.size : Int)
  · clear w0 w1 w2
    go_enter Try.func4, Try.ntmps4
    go_wp2_with fail
    refine (live_any w).mono ?_
    rintro e w1 ⟨rfl, hb⟩
    have HB := keep hb
    clear hb
    go_wp2_with fail
    go_ret
    exact ⟨rfl, HB.out⟩
  · have b1 := wf_bounds_u64 w1
    have b2 := wf_bounds_i64 w2
    have Z2 := keep (zig_bd b2.1 b2.2)
    have B1 := keep b1
    have B2 := keep b2
    have L1 := keep (num_len a1.toNat)
    have L2 := keep (num_len (zig a2).toNat)
    have hlen : a0.size ≤ 1000 := by omega
    have HL := keep hlen
    obtain ⟨p, ep⟩ : ∃ p : ByteArray, p = ⟨(a0.data.toList ++ num a1.toNat).toArray⟩ := ⟨_, rfl⟩
    obtain ⟨q, eq⟩ : ∃ q : ByteArray, q = ⟨(a0.data.toList ++ num (zig a2).toNat).toArray⟩ := ⟨_, rfl⟩
    have P1 := keep (put_any a0 a1 w hlen b1.1 b1.2)
    rw [← ep] at P1
    have EP := keep ep
    have P2 := keep fun w => putInt_any a0 a2 w hlen b2.1 b2.2
    rw [← eq] at P2
    have EQ := keep eq
    clear b1 b2 w0 w1 w2 ep eq
    go_enter Try.func4, Try.ntmps4
    go_wp2_with fail
    refine P1.out.mono ?_
    rintro e w1 ⟨rfl, hb1⟩
    have HB1 := keep hb1
    clear hb1
    go_wp2_with fail
    refine (num_any a1 w1 B1.out.1 B1.out.2).mono ?_
    rintro e w2 ⟨s1, rfl, hs1, hb2⟩
    have hz1 : s1.size ≤ 11 := by rw [size_of hs1]; exact L1.out.2
    have e1 : a0 ++ s1 = p := by rw [EP.out, joined hs1]
    have HB2 := keep (HB1.out.trans (hb2.mono HB1.out.size))
    clear hb2 hs1
    go_wp2_with fail
    refine (size_any a1 w2 B1.out.1 B1.out.2).mono ?_
    rintro e w' ⟨rfl, rfl⟩
    go_wp2_with fail
    refine (num_any a1 w2 B1.out.1 B1.out.2).mono ?_
    rintro e w3 ⟨s2, rfl, hs2, hb3⟩
    have hz2 : (s2.size : Int) = ((num a1.toNat).length : Int) := by rw [size_of hs2]
    have HB3 := keep (HB2.out.trans (hb3.mono HB2.out.size))
    clear hb3 hs2
    go_wp2_with fail
    refine (P2.out w3).mono ?_
    rintro e w4 ⟨rfl, hb4⟩
    have HB4 := keep (HB3.out.trans (hb4.mono HB3.out.size))
    clear hb4
    go_wp2_with fail
    refine (refZig_any a2 w4 B2.out.1 B2.out.2).mono ?_
    rintro e w' ⟨rfl, rfl⟩
    go_wp2_with fail
    refine (num_any (zig a2) w4 Z2.out.1 Z2.out.2).mono ?_
    rintro e w5 ⟨s3, rfl, hs3, hb5⟩
    have hz3 : s3.size ≤ 11 := by rw [size_of hs3]; exact L2.out.2
    have e3 : a0 ++ s3 = q := by rw [EQ.out, joined hs3]
    have HB5 := keep (HB4.out.trans (hb5.mono HB4.out.size))
    clear hb5 hs3
    go_wp2_with fail
    refine (live_any w5).mono ?_
    rintro e w6 ⟨rfl, hb6⟩
    have HB6 := keep (HB5.out.trans (hb6.mono HB5.out.size))
    clear hb6
    go_wp2_with fail
    go_ret
    exact ⟨rfl, HB6.out⟩

/-! ### THE ROW's STEP: WRITTEN OUT: LEAVE IT -/
set_option maxRecDepth 100000 in
theorem lifted (os : Os) (started : os.Started) (H : Type) (enc : TypeId × Value → H) :
    ReturnsInHanded {} Try.checked os 4 .any (Rows.vintPutsSpec.pre6 enc Try.prog Try.f4 Rows.vintPutsRow.domain false) (Rows.vintPutsSpec.post enc Try.prog Try.f4 false true false false) := by
  refine returnsInHanded_of_change (C := Try.checked) own started (by kernel_rfl) Try.func4
    (ChangeSpec.witness6 (enc := enc) (C := Try.checked) false ⟨#[], #[.string ByteArray.empty, .int .u64 0, .int .i64 0], []⟩ 8 (by kernel_rfl) (by kernel_rfl) (by kernel_rfl) (by kernel_rfl)) ?_
  intro W base args ds gs before hval0 hW hcnd _
  have hval : ∀ (j : Nat) t v, Try.f4.params[j]? = some t → args[j]? = some v → Value.okWide Try.prog W .any base t v := hval0
  have hW' := hW
  obtain ⟨p, q, hA0, hV, rfl, hfz, hnd⟩ := hW
  have hA : DataW.TrodAll enc Try.prog W 0 (fun _ => true) true Try.f4.params.toList args.toList ds p := hA0
  rw [Try.params4] at hA hval
  obtain ⟨v0, vs0, d0, ds0, p0, q0, hargs, rfl, rfl, h0, r0⟩ := trodAll_cons hA
  obtain ⟨v1, vs1, d1, ds1, p1, q1, rfl, rfl, rfl, h1, r1⟩ := trodAll_cons r0
  obtain ⟨v2, vs2, d2, ds2, p2, q2, rfl, rfl, rfl, h2, r2⟩ := trodAll_cons r1
  obtain ⟨rfl, rfl, rfl⟩ := trodAll_nil r2
  obtain rfl : args = #[v0, v1, v2] := by cases args; simp_all
  obtain ⟨rfl, rfl⟩ := trodVars_none hV
  obtain ⟨a0, rfl, rfl, rfl, w0⟩ := open_string Try.underlying9 (hval 0 9 v0 rfl rfl) h0
  obtain ⟨a1, rfl, rfl, rfl, w1⟩ := open_int Try.underlying22 (hval 1 22 v1 rfl rfl) h1
  obtain ⟨a2, rfl, rfl, rfl, w2⟩ := open_int Try.underlying2 (hval 2 2 v2 rfl rfl) h2
  clear hA0 hval0
  simp only [List.append_nil] at hW'
  refine (walk a0 a1 a2 w0 w1 w2 W).mono fun e W' ⟨he, hg⟩ => ?_
  subst he
  exact ⟨_, rfl, _, _, _, [], _, [], hW', (trodAll_cons_mk (shut_bool Try.underlying4 _) trodAll_mk0), (trodAll_cons_mk (shut_string Try.underlying9 w0) (trodAll_cons_mk (shut_int Try.underlying22 w1) (trodAll_cons_mk (shut_int Try.underlying2 w2) trodAll_mk0))), rfl, hg.frame _, fun h => by cases h⟩

theorem over : Rows.vintPutsRow.holds Try.pinned (OpenSpec.ofChange Rows.vintPutsSpec) :=
  OpenClaim.holds_of_wide 4 Try.f4 rfl rfl rfl rfl rfl rfl rfl ⟨rfl, rfl, rfl, rfl, rfl⟩ rfl rfl rfl rfl rfl (by kernel_rfl) Try.func4 (by kernel_rfl)
    (of_decide_eq_true (by kernel_rfl)) (by unfold Func.isWrapper; first | (rw [if_pos (by decide +kernel)]; kernel_rfl) | (rw [if_neg (by decide +kernel)]; exact ⟨rfl, rfl⟩))
    (fun os started H enc _ => lifted os started H enc)

/-- ████ THE STATEMENT ████ -/
theorem proved : Rows.VintPutsSaid :=
  over
#print axioms proved
end Go.Proofs.Ytfnaaegnhadnmaa.vintPuts
