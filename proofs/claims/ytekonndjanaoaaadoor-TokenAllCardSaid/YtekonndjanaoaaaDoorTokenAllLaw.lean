/-
  For every string and every uint8 retracelaw08.TokenAll answers true, and what it is given reads as before. No condition.
-/
import Derived.Test.YtekonndjanaoaaaDoorDoor
import Derived.Test.YtekonndjanaoaaaDoorTokL
import Derived.Test.YtekonndjanaoaaaDoorTokQ
import Derived.Below
import Derived.ChangeOld
namespace Go.Proofs.YtekonndjanaoaaaDoor.tokenAll
open Go.ChangeShapes Go.WideShapes Go.ChangeAt Go.RowKit
open Go.ChangeMaps (open_string shut_string)
set_option linter.unusedVariables false

set_option maxRecDepth 100000 in
set_option maxHeartbeats 4000000 in
theorem walk (a0 : ByteArray) (a1 : Int) (w : World) (w0 : a0.size ≤ maxLen) (w1 : (Lit.int .u8 a1).wf = true) :
    Calls Tryd.prog 4 #[.string a0, .int .u8 a1] w fun e w' => e = .returned (.bool true) ∧ Below w.heap.size w w' := by
  have HLIVE := keep live_any
  have hm0 : 0 ≤ a1 := by have := bounds_u8 w1; omega
  have hm1 : a1 ≤ 255 := by have := bounds_u8 w1; omega
  by_cases hlen : (1000 : Int) < (a0.size : Int)
  · clear w0 w1
    go_enter Tryd.func4, Tryd.ntmps4
    go_wp2_with fail
    refine (HLIVE.out _).mono ?_
    rintro e w' ⟨rfl, hb⟩
    have HB := keep hb
    clear hb
    go_wp2_with fail
    go_ret
    exact ⟨rfl, HB.out⟩
  · have hs1 : (a0.size : Int) ≤ 1000 := by omega
    have hl : a0.data.toList.length ≤ 65536 := by rw [← size_list]; omega
    obtain ⟨ts, r, htk⟩ := toks_any a0.data.toList
    have N1 := keep (fun w => all_any a0.data.toList ts r hl htk w)
    have N2 := keep (fun w => rall_any a0.data.toList ts r hl htk w)
    rw [str_eta] at N1 N2
    obtain ⟨R1, R2⟩ := r
    unfold AllIs at N1
    unfold RAllIs at N2
    generalize told ts (R1, R2) = l at *
    simp only at N1 N2
    obtain ⟨N, hN⟩ : ∃ N : Nat, (N : Int) = 65537 + a1 := ⟨(65537 + a1).toNat, by omega⟩
    obtain ⟨R, Z, hZ, hmk, hcv⟩ := zeros_of N (by omega)
    have N3 := keep (fun w => all_long Z (by omega) w)
    rw [hN] at hmk
    clear w0 w1 hlen hl htk hN hZ
    go_enter Tryd.func4, Tryd.ntmps4
    go_wp2_with fail
    refine (N1.out w).mono ?_
    rintro e w2 ⟨v, rfl, hrow, hb⟩
    have HB2 := keep hb
    have HROW2 := keep hrow
    clear hb hrow
    go_wp2_with fail
    refine (N2.out _).mono ?_
    rintro e w3 ⟨u, rfl, hrow, hb⟩
    have HB3 := keep (HB2.out.trans (hb.mono HB2.out.size))
    have HROW3 := keep hrow
    have HROW2' := keep (HROW2.out.to hb)
    obtain ⟨o, cap, rfl, _⟩ := hrow.form
    have HBX := keep (BoxL.new w3 [.slice o l.length cap, .int .i64 R1, .int .i64 R2] 36)
    have hcv' := hcv (w3.alloc (.cells #[.slice o l.length cap, .int .i64 R1, .int .i64 R2] 36))
    rw [World.size_alloc] at hcv'
    have HBA := keep (((Below.refl _ w3).alloc (Nat.le_refl _) (.cells #[.slice o l.length cap, .int .i64 R1, .int .i64 R2] 36)).alloc (by simp) (.cells R 5))
    have HBX4 := keep (HBX.out.alloc (.cells R 5))
    clear hb hrow hcv
    go_wp2_with fail
    refine (N3.out _).mono ?_
    rintro e w' ⟨rfl, rfl⟩
    have HB4 := keep (HB3.out.trans (HBA.out.mono HB3.out.size))
    have HROWA := keep (HROW2'.out.to HBA.out)
    have HROWB := keep (HROW3.out.to HBA.out)
    have hx0 := HBX4.out.row 0 _ rfl
    have hx1 := HBX4.out.row 1 _ rfl
    have hx2 := HBX4.out.row 2 _ rfl
    clear hcv' hmk
    go_wp2_with fail
    refine (same_any _ _ l _ HROWA.out HROWB.out).mono ?_
    rintro e w5 ⟨rfl, hb⟩
    have HB5 := keep (HB4.out.trans (hb.mono HB4.out.size))
    have HBX5 := keep (HBX4.out.to hb)
    have hy0 := HBX5.out.row 0 _ rfl
    have hy1 := HBX5.out.row 1 _ rfl
    have hy2 := HBX5.out.row 2 _ rfl
    clear hb hx0 hx1 hx2
    go_wp2_with fail
    refine (HLIVE.out _).mono ?_
    rintro e w6 ⟨rfl, hb⟩
    have HB6 := keep (HB5.out.trans (hb.mono HB5.out.size))
    clear hb hy0 hy1 hy2
    go_wp2_with fail
    go_ret
    exact ⟨rfl, HB6.out⟩

theorem own : ownKnob Tryd.prog.godebug = none := by kernel_rfl
theorem laid : laidOutB Tryd.prog = true := by kernel_rfl
theorem reads (os : Os) {H : Type} (enc : TypeId × Value → H) : ∃ places, DataW.whole enc Tryd.prog ((laidWorld os).forCall (fun _ _ => 0) ⟨#[], #[.string ByteArray.empty, .int .u8 0], []⟩).memory Tryd.f4.params.toList Rows.tokenAllSpec.vars false #[.string ByteArray.empty, .int .u8 0].toList 8 = some ([.lit (.string []), .lit (.int .u8 0)], [], places) :=
  ⟨[], by kernel_rfl⟩

set_option maxRecDepth 100000 in
theorem lifted (os : Os) (started : os.Started) (H : Type) (enc : TypeId × Value → H) (F : Stop.Interp) :
    ReturnsInHanded {} Tryd.checked os 4 .any ((OpenSpec.ofChange Rows.tokenAllSpec).preRow enc Tryd.prog Tryd.f4 Rows.tokenAllRow.domain false Rows.tokenAllRow.laid) (((OpenSpec.ofChange Rows.tokenAllSpec).at F).post enc Tryd.prog Tryd.f4 false true false false) := by
  obtain ⟨places, hx⟩ := reads os enc
  refine returnsInHanded_of_row (C := Tryd.checked) (s := OpenSpec.ofChange Rows.tokenAllSpec) own started (by kernel_rfl) Tryd.func4
    (witness_row_at (enc := enc) (C := Tryd.checked) false (laidWorld os) #[.string ByteArray.empty, .int .u8 0] rfl (by kernel_rfl) (by kernel_rfl) (by kernel_rfl)
      (OpenSpec.preRow_of_cond 8 hx (by kernel_rfl) (fun k hk => by cases hk) (by kernel_rfl) (laid_met os _))) ?_
  intro W base args ds gs before hval0 hW _ _ _ _ _ _
  have hval : ∀ (j : Nat) t v, Tryd.f4.params[j]? = some t → args[j]? = some v → Value.okWide Tryd.prog W .any base t v := hval0
  have hW' := hW
  obtain ⟨p, q, hA0, hV, rfl, hfz, hnd⟩ := hW
  have hA : DataW.TrodAll enc Tryd.prog W 0 (fun _ => true) true Tryd.f4.params.toList args.toList ds p := hA0
  rw [Tryd.params4] at hA hval
  obtain ⟨v0, vs0, d0, ds0, p0, q0, hargs, rfl, rfl, h0, r0⟩ := trodAll_cons hA
  obtain ⟨v1, vs1, d1, ds1, p1, q1, rfl, rfl, rfl, h1, r1⟩ := trodAll_cons r0
  obtain ⟨rfl, rfl, rfl⟩ := trodAll_nil r1
  obtain rfl : args = #[v0, v1] := by cases args; simp_all
  obtain ⟨rfl, rfl⟩ := trodVars_none hV
  obtain ⟨a0, rfl, rfl, rfl, w0⟩ := open_string Tryd.underlying9 (hval 0 9 v0 rfl rfl) h0
  obtain ⟨a1, rfl, rfl, rfl, w1⟩ := open_int Tryd.underlying5 (hval 1 5 v1 rfl rfl) h1
  clear hA0 hval0
  simp only [List.append_nil] at hW'
  refine (walk a0 a1 W w0 w1).mono fun e W' ⟨he, hg⟩ => ?_
  subst he
  exact ⟨_, rfl, _, _, _, [], _, [], hW', (trodAll_cons_mk (shut_bool Tryd.underlying4 _) trodAll_mk0), (trodAll_cons_mk (shut_string Tryd.underlying9 w0) (trodAll_cons_mk (shut_int Tryd.underlying5 w1) trodAll_mk0)), rfl, hg.frame _, fun h => by cases h⟩

theorem over : Rows.TokenAllSaid :=
  OpenClaim.holds_of_cond 4 Tryd.f4 rfl rfl rfl rfl rfl rfl rfl ⟨rfl, rfl, rfl, rfl, rfl⟩ rfl rfl rfl rfl rfl (by kernel_rfl) Tryd.func4 (by kernel_rfl)
    (of_decide_eq_true (by kernel_rfl)) (by unfold Func.isWrapper; first | (rw [if_pos (by decide +kernel)]; kernel_rfl) | (rw [if_neg (by decide +kernel)]; exact ⟨rfl, rfl⟩))
    (fun os started H enc _ F => by rw [OpenClaim.pre_eq_preRow]; exact lifted os started H enc F)

/-- No parameter wants a stand-in; the program's own looks are as the card has them. -/
theorem plain (f : FuncId) (fn : Func) (hf : Tryd.pinned.checked.prog.funcNamed "retrace/retracelaw08.TokenAll" = some f) (hfn : Tryd.pinned.checked.prog.funcs[f]? = some fn) :
    true = Tryd.pinned.checked.prog.looks [] ∧ ∀ (j : Nat) t, fn.params[j]? = some t → Tryd.pinned.checked.prog.wantsStandIn t = false := by
  obtain rfl : f = 4 := Option.some.inj ((show Tryd.prog.funcNamed "retrace/retracelaw08.TokenAll" = some 4 by kernel_rfl).symm.trans hf) |>.symm
  obtain rfl : fn = Tryd.f4 := (Option.some.inj (Tryd.func4.symm.trans hfn)).symm
  refine ⟨by kernel_rfl, fun j t ht => ?_⟩
  have hall : ∀ t ∈ Tryd.f4.params, Tryd.prog.wantsStandIn t = false := by
    rw [Tryd.params4]
    intro t ht
    simp only [List.mem_toArray, List.mem_cons, List.not_mem_nil, or_false] at ht
    rcases ht with ht | ht
    all_goals (subst ht; kernel_rfl)
  exact hall t (Array.mem_of_getElem? ht)

/-- The card. -/
theorem card : Rows.TokenAllCardSaid :=
  Claim7.holds_tied_plain_at .later [] _ _ _ _ over (fun _ h => by cases h) (by kernel_rfl) (fun _ h => by cases h) tokenAll_row_tie rfl ⟨rfl, rfl⟩ (by kernel_rfl) rfl plain (by kernel_rfl)
#print axioms card
end Go.Proofs.YtekonndjanaoaaaDoor.tokenAll
