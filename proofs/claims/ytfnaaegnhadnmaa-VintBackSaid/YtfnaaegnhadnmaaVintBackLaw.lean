/-
  For every two strings and every uint64, retracelaw01.VintBack answers true, and what it is given reads as before. No condition.
-/
import Derived.Test.YtfnaaegnhadnmaaRows
import Derived.Test.YtfnaaegnhadnmaaVintI
import Derived.WalkKit
import Derived.Below
import Derived.ChangeOld
import Derived.Deep.RegionHeld3
import Derived.StillTailTactics
import Derived.ProofKit
import Derived.OpenShut
import Derived.ShutString
namespace Go.Proofs.Ytfnaaegnhadnmaa.vintBack
open Go.ChangeShapes Go.WideShapes Go.ChangeAt Go.RowKit
open Go.ChangeMaps (open_string shut_string)
set_option linter.unusedVariables false      -- a walk need not use every 'w<i>' (that an integer argument fits its kind)

theorem own : ownKnob Try.prog.godebug = none := by kernel_rfl

-- For every two strings and every uint64, retracelaw01.VintBack answers true, and what it is given reads as before. No condition.
/-- The world has at most new blocks. -/
def Above (w0 w : World) : Prop := Below w0.heap.size w0 w
theorem Above.drew {w0 w : World} (h : Above w0 w) : Above w0 w.drew := Below.drew h
theorem Above.step {w0 w w1 : World} (h : Above w0 w) (hb : Below w.heap.size w w1) : Above w0 w1 := Below.trans h (hb.mono (Below.size h))

/-- The head of a region whose order is open, operation by operation, kept from what would lay it open. -/
structure StillGo (P : Program) (ops : Array Oper) (w : World) (Q : Act → Prop) (l : List Oper) (a : Act) : Prop where
  out : wpStill P ops w Q l a
theorem StillGo.skip {P : Program} {ops : Array Oper} {w : World} {Q : Act → Prop} {o : Oper} {rest : List Oper} {a : Act} (hw : Region.wanted o (yielded ops a.tmps) = false) (hp : a.put o.dst undef = a) (h : StillGo P ops w Q rest a) : StillGo P ops w Q (o :: rest) a :=
  ⟨by rw [wpStill, if_neg (by rw [hw]; simp), hp]; exact h.out⟩
theorem StillGo.run {P : Program} {ops : Array Oper} {w : World} {Q : Act → Prop} {o : Oper} {rest : List Oper} {a : Act} (v : Value) (hw : Region.wanted o (yielded ops a.tmps) = true) (hr : (execOp a.eval o).run P w = .ok (.value v) w) (h : StillGo P ops w Q rest (a.put o.dst v)) : StillGo P ops w Q (o :: rest) a :=
  ⟨by rw [wpStill, if_pos hw, Oper.still, hr, Oper.stillUpon_value]; exact h.out⟩
theorem StillGo.region {P : Program} {id : Nat} {Q : Exit → Act → World → Prop} {a : Act} {w : World} {l : List Oper} (n : Nat) (hm : P.follows .mixedOrders = true) (hB : Region.lexTailB .any l.toArray n = true)
    (h : ∀ w2, w2 = w.drew → StillGo P l.toArray w2 (fun a' => wpList P l.toArray Q (l.drop n) a' w2) (l.take n) a) : (Code.region id l.toArray true).wp P Q a w := wp_region_still_tail n hm hB (h _ rfl).out
theorem StillGo.done {P : Program} {ops : Array Oper} {w : World} {Q : Act → Prop} {a : Act} (h : Q a) : StillGo P ops w Q [] a := ⟨wpStill_nil h⟩

/-! ### STEP 1: THE WALK: the Go text returns true. 'Below w.heap.size w w'': the world has at most new blocks (Derived/RowKit3.lean). Part the cases AHEAD of 'go_enter' where a test parts the walk; take each callee by a contract of your own. -/
set_option maxHeartbeats 1000000 in
theorem walk (a0 : ByteArray) (a1 : Int) (a2 : ByteArray) (w0 : a0.size ≤ maxLen) (w1 : (Lit.int .u64 a1).wf = true) (w2 : a2.size ≤ maxLen) (w : World) :
    Calls Try.prog 6 #[.string a0, .int .u64 a1, .string a2] w fun e w' => e = .returned (.bool true) ∧ Below w.heap.size w w' := by
-- For every two strings and every uint64, retracelaw01.VintBack answers true, and what it is given reads as before. No condition.
  by_cases hlen : (500 : Int) < (a0.size : Int) ∨ (500 : Int) < (a2.size : Int)
  · clear w0 w1 w2
    by_cases h0 : (500 : Int) < (a0.size : Int)
    · clear hlen
      go_enter Try.func6, Try.ntmps6
      go_wp2_with fail
      refine (live_any w).mono ?_
      rintro e w1 ⟨rfl, hb⟩
      have HB := keep hb
      clear hb
      go_wp2_with fail
      go_ret
      exact ⟨rfl, HB.out⟩
    · have h1 : (500 : Int) < (a2.size : Int) := by omega
      clear hlen
      go_enter Try.func6, Try.ntmps6
      go_wp2_with fail
      refine (live_any w).mono ?_
      rintro e w1 ⟨rfl, hb⟩
      have HB := keep hb
      clear hb
      go_wp2_with fail
      go_ret
      exact ⟨rfl, HB.out⟩
  · have b1 := wf_bounds_u64 w1
    have hz0 : a0.size ≤ 500 := by omega
    have hz2 : a2.size ≤ 500 := by omega
    obtain ⟨u, rfl⟩ := Int.eq_ofNat_of_zero_le b1.1
    have hu : u < 18446744073709551616 := by omega
    obtain ⟨p, ep⟩ : ∃ p : ByteArray, p = ⟨(a0.data.toList ++ num u).toArray⟩ := ⟨_, rfl⟩
    have P1 := put_any a0 u w (by omega) b1.1 b1.2
    rw [Int.toNat_natCast, ← ep] at P1
    have P1 := keep P1
    have hl := num_len u
    have hps : p.size = a0.size + (num u).length := by rw [size_list, ep, size_list]; simp
    have hpb : p.size ≤ 511 := by omega
    have G1 := getV_put a0 a2 hu (p ++ a2) (by rw [cat_data, ep])
    rw [← hps] at G1
    have G1' : getI (p ++ a2) (a0.size : Int) = (u, p.size, 0) := by rw [getI_in (by rw [size_list, cat_data, ep, size_list]; simp), G1]
    have C1 := get_any (p ++ a2) (a0.size : Int)
    rw [G1'] at C1
    have hpz : (p ++ a2).size ≤ 1000000 := by rw [size_list, cat_data]; simp; omega
    have C1 := keep fun w => C1 w hpz
    have C2 := keep fun w => get_any a2 0 w (by omega)
    have e0 : getI a2 0 = getV a2 0 := getI_in (a := 0) (by omega)
    rw [e0] at C2
    have GB := keep (getV_bd a2 0)
    have AG := keep (fun v c => getV_again a2 (v := v) (c := c))
    clear w0 w1 w2 b1 hu ep hl hps G1 G1' hpz e0 hlen
    generalize getV a2 0 = x at *
    obtain ⟨v, c, er⟩ := x
    by_cases her : er = 0
    · subst her
      have hq := AG.out v c rfl
      have hv : v < 18446744073709551616 := GB.out
      obtain ⟨q, eq⟩ : ∃ q : ByteArray, q = ⟨(num v).toArray⟩ := ⟨_, rfl⟩
      have P2 := fun w => put_any ⟨#[]⟩ v w (by decide) (by omega) (by omega)
      have en : (⟨((⟨#[]⟩ : ByteArray).data.toList ++ num (v : Int).toNat).toArray⟩ : ByteArray) = q := by rw [Int.toNat_natCast, eq]; rfl
      rw [en] at P2
      have P2 := keep P2
      have ex : a2.extract 0 c = q := by rw [hq.1, eq]
      have hc1 : (c : Int) ≤ (a2.size : Int) := by have := hq.2; omega
      have hd1 : decide ((c : Int) ≤ (a2.size : Int)) = true := by simpa using hc1
      have hd0 : decide ((0 : Int) ≤ (c : Int)) = true := by simp
      clear hq hv eq en AG GB
      go_enter Try.func6, Try.ntmps6
      go_wp2_with fail
      refine P1.out.mono ?_
      rintro e w1 ⟨rfl, hb1⟩
      have HB1 := keep hb1
      clear hb1
      go_wp2_with fail
      refine (C1.out w1).mono ?_
      rintro e w' ⟨rfl, rfl⟩
      unfold tup3
      go_wp2_with fail
      refine (C2.out w1).mono ?_
      rintro e w' ⟨rfl, rfl⟩
      unfold tup3
      go_wp2_with fail

      have HA : Above w w1 := HB1.out
      clear HB1
      go_region_held3 (fun w' => Above w w') (first | exact Above.drew (by assumption) | exact Above.step (by assumption) (by assumption) | assumption) (first | (go_at_call 12; refine (P2.out _).mono ?_; rintro e w2 ⟨rfl, hb2⟩) | (go_at_call 11; refine (live_any _).mono ?_; rintro e w3 ⟨rfl, hb3⟩))
      go_wp2_with fail
      go_ret
      exact ⟨rfl, by first | assumption | exact Above.step (by assumption) (by assumption) | exact Above.step (Above.drew (by assumption)) (by assumption)⟩
    · obtain ⟨E, eE⟩ : ∃ E : Int, E = (er : Int) := ⟨_, rfl⟩
      have hne : (E != 0) = true := by simp; omega
      have C2 : Keep (∀ w, Calls Try.prog 16 #[.string a2, .int .i64 0] w fun e w' => e = .returned (.tuple #[.int .u64 v, .int .i64 c, .int .i64 E]) ∧ w = w') := keep (by rw [eE]; exact C2.out)
      clear her eE AG GB
      go_enter Try.func6, Try.ntmps6
      go_wp2_with fail
      refine P1.out.mono ?_
      rintro e w1 ⟨rfl, hb1⟩
      have HB1 := keep hb1
      clear hb1
      go_wp2_with fail
      refine (C1.out w1).mono ?_
      rintro e w' ⟨rfl, rfl⟩
      unfold tup3
      go_wp2_with fail
      refine (C2.out w1).mono ?_
      rintro e w' ⟨rfl, rfl⟩
      go_wp2_with fail

      have HA : Above w w1 := HB1.out
      clear HB1
      generalize decide (500 < (a0.size : Int)) = g1
      generalize decide (500 < (a2.size : Int)) = g2
      refine StillGo.region 21 (by kernel_rfl) (by kernel_rfl) ?_
      intro w2 e2
      have HA2 : Above w w2 := by rw [e2]; exact Above.drew HA
      clear e2
      simp only [List.take_succ_cons, List.take_zero, List.drop_succ_cons, List.drop_zero]
      refine StillGo.run (.int .i64 E) (by kernel_rfl) (by kernel_rfl) ?_
      refine StillGo.run (.bool true) (by kernel_rfl) (by go_simp) ?_
      refine StillGo.run (.bool true) (by kernel_rfl) (by kernel_rfl) ?_
      iterate 16 refine StillGo.skip (by kernel_rfl) (by kernel_rfl) ?_
      refine StillGo.run (.bool true) (by kernel_rfl) (by kernel_rfl) ?_
      refine StillGo.run (.bool true) (by kernel_rfl) (by kernel_rfl) ?_
      refine StillGo.done ?_
      simp only [Act.put, Array.setIfInBounds_def]
      go_wp2_with fail
      refine (live_any w2).mono ?_
      rintro e w3 ⟨rfl, hb3⟩
      go_wp2_with fail
      go_ret
      exact ⟨rfl, Above.step HA2 hb3⟩

/-! ### THE ROW's STEP: WRITTEN OUT: LEAVE IT -/
set_option maxRecDepth 100000 in
theorem lifted (os : Os) (started : os.Started) (H : Type) (enc : TypeId × Value → H) :
    ReturnsInHanded {} Try.checked os 6 .any (Rows.vintBackSpec.pre6 enc Try.prog Try.f6 Rows.vintBackRow.domain false) (Rows.vintBackSpec.post enc Try.prog Try.f6 false true false false) := by
  refine returnsInHanded_of_change (C := Try.checked) own started (by kernel_rfl) Try.func6
    (ChangeSpec.witness6 (enc := enc) (C := Try.checked) false ⟨#[], #[.string ByteArray.empty, .int .u64 0, .string ByteArray.empty], []⟩ 8 (by kernel_rfl) (by kernel_rfl) (by kernel_rfl) (by kernel_rfl)) ?_
  intro W base args ds gs before hval0 hW hcnd _
  have hval : ∀ (j : Nat) t v, Try.f6.params[j]? = some t → args[j]? = some v → Value.okWide Try.prog W .any base t v := hval0
  have hW' := hW
  obtain ⟨p, q, hA0, hV, rfl, hfz, hnd⟩ := hW
  have hA : DataW.TrodAll enc Try.prog W 0 (fun _ => true) true Try.f6.params.toList args.toList ds p := hA0
  rw [Try.params6] at hA hval
  obtain ⟨v0, vs0, d0, ds0, p0, q0, hargs, rfl, rfl, h0, r0⟩ := trodAll_cons hA
  obtain ⟨v1, vs1, d1, ds1, p1, q1, rfl, rfl, rfl, h1, r1⟩ := trodAll_cons r0
  obtain ⟨v2, vs2, d2, ds2, p2, q2, rfl, rfl, rfl, h2, r2⟩ := trodAll_cons r1
  obtain ⟨rfl, rfl, rfl⟩ := trodAll_nil r2
  obtain rfl : args = #[v0, v1, v2] := by cases args; simp_all
  obtain ⟨rfl, rfl⟩ := trodVars_none hV
  obtain ⟨a0, rfl, rfl, rfl, w0⟩ := open_string Try.underlying9 (hval 0 9 v0 rfl rfl) h0
  obtain ⟨a1, rfl, rfl, rfl, w1⟩ := open_int Try.underlying22 (hval 1 22 v1 rfl rfl) h1
  obtain ⟨a2, rfl, rfl, rfl, w2⟩ := open_string Try.underlying9 (hval 2 9 v2 rfl rfl) h2
  clear hA0 hval0
  simp only [List.append_nil] at hW'
  refine (walk a0 a1 a2 w0 w1 w2 W).mono fun e W' ⟨he, hg⟩ => ?_
  subst he
  exact ⟨_, rfl, _, _, _, [], _, [], hW', (trodAll_cons_mk (shut_bool Try.underlying4 _) trodAll_mk0), (trodAll_cons_mk (shut_string Try.underlying9 w0) (trodAll_cons_mk (shut_int Try.underlying22 w1) (trodAll_cons_mk (shut_string Try.underlying9 w2) trodAll_mk0))), rfl, hg.frame _, fun h => by cases h⟩

theorem over : Rows.vintBackRow.holds Try.pinned (OpenSpec.ofChange Rows.vintBackSpec) :=
  OpenClaim.holds_of_wide 6 Try.f6 rfl rfl rfl rfl rfl rfl rfl ⟨rfl, rfl, rfl, rfl, rfl⟩ rfl rfl rfl rfl rfl (by kernel_rfl) Try.func6 (by kernel_rfl)
    (of_decide_eq_true (by kernel_rfl)) (by unfold Func.isWrapper; first | (rw [if_pos (by decide +kernel)]; kernel_rfl) | (rw [if_neg (by decide +kernel)]; exact ⟨rfl, rfl⟩))
    (fun os started H enc _ => lifted os started H enc)

/-- ████ THE STATEMENT ████ -/
theorem proved : Rows.VintBackSaid :=
  over
#print axioms proved
end Go.Proofs.Ytfnaaegnhadnmaa.vintBack
