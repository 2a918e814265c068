/-
  For every string and every int retracelaw08.TokenNext answers true, and what it is given reads as before. No condition.
-/
import Derived.Test.YtekonndjanaoaaaDoorDoor
import Derived.Test.YtekonndjanaoaaaDoorTokL
import Derived.Below
import Derived.ChangeOld
namespace Go.Proofs.YtekonndjanaoaaaDoor.tokenNext
open Go.ChangeShapes Go.WideShapes Go.ChangeAt Go.RowKit
open Go.ChangeMaps (open_string shut_string)
set_option linter.unusedVariables false

set_option maxRecDepth 100000 in
set_option maxHeartbeats 4000000 in
theorem walk (a0 : ByteArray) (a1 : Int) (w : World) (w0 : a0.size ≤ maxLen) (w1 : (Lit.int .i64 a1).wf = true) :
    Calls Tryd.prog 3 #[.string a0, .int .i64 a1] w fun e w' => e = .returned (.bool true) ∧ Below w.heap.size w w' := by
  have HLIVE := keep live_any
  by_cases hlen : (1000 : Int) < (a0.size : Int)
  · clear w0 w1
    go_enter Tryd.func3, Tryd.ntmps3
    go_wp2_with fail
    refine (HLIVE.out _).mono ?_
    rintro e w' ⟨rfl, hb⟩
    have HB := keep hb
    clear hb
    go_wp2_with fail
    go_ret
    exact ⟨rfl, HB.out⟩
  · have hs1 : (a0.size : Int) ≤ 1000 := by omega
    have hl : a0.data.toList.length ≤ 1000000 := by rw [← size_list]; omega
    have N1 := keep (fun w => next_any a0.data.toList a1 hl w)
    have N2 := keep (fun w => rnext_any a0.data.toList a1 hl w)
    rw [str_eta] at N1 N2
    generalize nxtI a0.data.toList a1 = X at *
    obtain ⟨⟨K, S, V, A⟩, N, E⟩ := X
    unfold NxIs Tok.agg at N1
    unfold GotIs at N2
    simp only at N1 N2
    clear w0 w1 hlen hl
    go_enter Tryd.func3, Tryd.ntmps3
    go_wp2_with fail
    refine (N1.out w).mono ?_
    rintro e w2 ⟨rfl, hb⟩
    have HB2 := keep hb
    have HX2 := keep (BoxL.new w2 [.int .i64 K, .string S, .int .i64 V, .int .i64 A] 24)
    clear hb
    go_wp2_with fail
    refine (N2.out _).mono ?_
    rintro e w3 ⟨rfl, hb⟩
    have HB3 := keep ((HB2.out.alloc HB2.out.size _).trans (hb.mono (Nat.le_trans HB2.out.size (by simp))))
    have HX3 := keep (HX2.out.to hb)
    have HB4 := keep ((HB3.out.alloc HB3.out.size (.cells #[.int .i64 K, .string S, .int .i64 V, .int .i64 A, .int .i64 N, .int .i64 E] 29)))
    clear hb
    have hx0 := HX3.out.row 0 _ rfl
    have hx1 := HX3.out.row 1 _ rfl
    have hx2 := HX3.out.row 2 _ rfl
    have hx3 := HX3.out.row 3 _ rfl
    have hxl := HX3.out.lt
    go_wp2_with fail
    refine (HLIVE.out _).mono ?_
    rintro e w5 ⟨rfl, hb⟩
    have HB5 := keep (HB4.out.trans (hb.mono HB4.out.size))
    clear hb hx0 hx1 hx2 hx3 hxl
    go_wp2_with fail
    go_ret
    exact ⟨rfl, HB5.out⟩

theorem own : ownKnob Tryd.prog.godebug = none := by kernel_rfl
theorem laid : laidOutB Tryd.prog = true := by kernel_rfl
theorem reads (os : Os) {H : Type} (enc : TypeId × Value → H) : ∃ places, DataW.whole enc Tryd.prog ((laidWorld os).forCall (fun _ _ => 0) ⟨#[], #[.string ByteArray.empty, .int .i64 0], []⟩).memory Tryd.f3.params.toList Rows.tokenNextSpec.vars false #[.string ByteArray.empty, .int .i64 0].toList 8 = some ([.lit (.string []), .lit (.int .i64 0)], [], places) :=
  ⟨[], by kernel_rfl⟩

set_option maxRecDepth 100000 in
theorem lifted (os : Os) (started : os.Started) (H : Type) (enc : TypeId × Value → H) (F : Stop.Interp) :
    ReturnsInHanded {} Tryd.checked os 3 .any ((OpenSpec.ofChange Rows.tokenNextSpec).preRow enc Tryd.prog Tryd.f3 Rows.tokenNextRow.domain false Rows.tokenNextRow.laid) (((OpenSpec.ofChange Rows.tokenNextSpec).at F).post enc Tryd.prog Tryd.f3 false true false false) := by
  obtain ⟨places, hx⟩ := reads os enc
  refine returnsInHanded_of_row (C := Tryd.checked) (s := OpenSpec.ofChange Rows.tokenNextSpec) own started (by kernel_rfl) Tryd.func3
    (witness_row_at (enc := enc) (C := Tryd.checked) false (laidWorld os) #[.string ByteArray.empty, .int .i64 0] rfl (by kernel_rfl) (by kernel_rfl) (by kernel_rfl)
      (OpenSpec.preRow_of_cond 8 hx (by kernel_rfl) (fun k hk => by cases hk) (by kernel_rfl) (laid_met os _))) ?_
  intro W base args ds gs before hval0 hW _ _ _ _ _ _
  have hval : ∀ (j : Nat) t v, Tryd.f3.params[j]? = some t → args[j]? = some v → Value.okWide Tryd.prog W .any base t v := hval0
  have hW' := hW
  obtain ⟨p, q, hA0, hV, rfl, hfz, hnd⟩ := hW
  have hA : DataW.TrodAll enc Tryd.prog W 0 (fun _ => true) true Tryd.f3.params.toList args.toList ds p := hA0
  rw [Tryd.params3] at hA hval
  obtain ⟨v0, vs0, d0, ds0, p0, q0, hargs, rfl, rfl, h0, r0⟩ := trodAll_cons hA
  obtain ⟨v1, vs1, d1, ds1, p1, q1, rfl, rfl, rfl, h1, r1⟩ := trodAll_cons r0
  obtain ⟨rfl, rfl, rfl⟩ := trodAll_nil r1
  obtain rfl : args = #[v0, v1] := by cases args; simp_all
  obtain ⟨rfl, rfl⟩ := trodVars_none hV
  obtain ⟨a0, rfl, rfl, rfl, w0⟩ := open_string Tryd.underlying9 (hval 0 9 v0 rfl rfl) h0
  obtain ⟨a1, rfl, rfl, rfl, w1⟩ := open_int Tryd.underlying3 (hval 1 3 v1 rfl rfl) h1
  clear hA0 hval0
  simp only [List.append_nil] at hW'
  refine (walk a0 a1 W w0 w1).mono fun e W' ⟨he, hg⟩ => ?_
  subst he
  exact ⟨_, rfl, _, _, _, [], _, [], hW', (trodAll_cons_mk (shut_bool Tryd.underlying4 _) trodAll_mk0), (trodAll_cons_mk (shut_string Tryd.underlying9 w0) (trodAll_cons_mk (shut_int Tryd.underlying3 w1) trodAll_mk0)), rfl, hg.frame _, fun h => by cases h⟩

theorem over : Rows.TokenNextSaid :=
  OpenClaim.holds_of_cond 3 Tryd.f3 rfl rfl rfl rfl rfl rfl rfl ⟨rfl, rfl, rfl, rfl, rfl⟩ rfl rfl rfl rfl rfl (by kernel_rfl) Tryd.func3 (by kernel_rfl)
    (of_decide_eq_true (by kernel_rfl)) (by unfold Func.isWrapper; first | (rw [if_pos (by decide +kernel)]; kernel_rfl) | (rw [if_neg (by decide +kernel)]; exact ⟨rfl, rfl⟩))
    (fun os started H enc _ F => by rw [OpenClaim.pre_eq_preRow]; exact lifted os started H enc F)

/-- No parameter wants a stand-in; the program's own looks are as the card has them. -/
theorem plain (f : FuncId) (fn : Func) (hf : Tryd.pinned.checked.prog.funcNamed "retrace/retracelaw08.TokenNext" = some f) (hfn : Tryd.pinned.checked.prog.funcs[f]? = some fn) :
    true = Tryd.pinned.checked.prog.looks [] ∧ ∀ (j : Nat) t, fn.params[j]? = some t → Tryd.pinned.checked.prog.wantsStandIn t = false := by
  obtain rfl : f = 3 := Option.some.inj ((show Tryd.prog.funcNamed "retrace/retracelaw08.TokenNext" = some 3 by kernel_rfl).symm.trans hf) |>.symm
  obtain rfl : fn = Tryd.f3 := (Option.some.inj (Tryd.func3.symm.trans hfn)).symm
  refine ⟨by kernel_rfl, fun j t ht => ?_⟩
  have hall : ∀ t ∈ Tryd.f3.params, Tryd.prog.wantsStandIn t = false := by
    rw [Tryd.params3]
    intro t ht
    simp only [List.mem_toArray, List.mem_cons, List.not_mem_nil, or_false] at ht
    rcases ht with ht | ht
    all_goals (subst ht; kernel_rfl)
  exact hall t (Array.mem_of_getElem? ht)

/-- The card. -/
theorem card : Rows.TokenNextCardSaid :=
  Claim7.holds_tied_plain_at .later [] _ _ _ _ over (fun _ h => by cases h) (by kernel_rfl) (fun _ h => by cases h) tokenNext_row_tie rfl ⟨rfl, rfl⟩ (by kernel_rfl) rfl plain (by kernel_rfl)
#print axioms card
end Go.Proofs.YtekonndjanaoaaaDoor.tokenNext
