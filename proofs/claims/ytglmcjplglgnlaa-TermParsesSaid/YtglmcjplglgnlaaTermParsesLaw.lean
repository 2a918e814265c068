/-
  For every slice of tokens and every int, retracelaw10.TermParses answers true, and what it is given reads as before. No condition.
-/
import Derived.Test.YtglmcjplglgnlaaRows
import Derived.Test.YtglmcjplglgnlaaTermX
import Derived.Below
import Derived.ChangeOld
namespace Go.Proofs.Ytglmcjplglgnlaa.termParses
open Go.ChangeShapes Go.WideShapes Go.ChangeAt Go.RowKit

set_option maxRecDepth 100000 in
set_option maxHeartbeats 8000000 in
theorem walk (v : Value) (n : Nat) (a : Int) (w : World) (h : TksIn w v n) (ha : (Lit.int .i64 a).wf = true) : Calls Try.prog 3 #[v, .int .i64 a] w fun e w' => e = .returned (.bool true) ∧ Below w.heap.size w w' := by
  have HLIVE := keep live_any
  obtain ⟨o, c, rfl⟩ := h.form
  have hm := h.most
  unfold maxLen at hm
  by_cases hn : 200 < n
  · have hnI : (200 : Int) < (n : Int) := by omega
    clear h ha
    go_enter Try.func3, Try.ntmps3
    go_wp2_with fail
    refine (HLIVE.out _).mono ?_
    rintro e w5 ⟨rfl, h5⟩
    have HB5 := keep h5
    clear h5
    go_wp2_with fail
    go_ret
    exact ⟨rfl, HB5.out⟩
  · obtain ⟨ts, hl, ht, hs⟩ := h.few (by omega)
    have HP := keep (parse_to ts (.slice o n c) a (by omega) hs (wf_bounds_i64 ha).2 w ht)
    have HR := keep (fun W (h : TkRow W.heap.size W (.slice o n c) ts) => rparse_any ts (.slice o n c) a (by omega) W h)
    have HTK := keep ht
    have hnI : ¬ ((200 : Int) < (n : Int)) := by omega
    have HSM := keep (fun W v u l a e (h : NRow W.heap.size W v l) (h' : NRow W.heap.size W u l) => same_eq v u l a e W h h')
    generalize parseI ts a = R at HP HR
    obtain ⟨l, p, E⟩ := R
    clear h ha hl ht hs hn
    go_enter Try.func3, Try.ntmps3
    go_wp2_with fail
    refine HP.out.mono ?_
    rintro e w1 ⟨o1, c1, rfl, hn1, h1⟩
    simp only at hn1
    have HN1 := keep hn1
    have HB1 := keep h1
    have HRW := keep (HR.out w1 (HTK.out.to h1))
    clear hn1 h1 HP HR
    go_wp2_with fail
    refine HRW.out.mono ?_
    rintro e w2 ⟨u, rfl, hu, h2⟩
    simp only at hu
    have HB2 := keep (HB1.out.trans (h2.mono HB1.out.size))
    have HS := keep (HSM.out w2 (.slice o1 l.length c1) u l p E (HN1.out.to h2) hu.row)
    obtain ⟨uo, uc, rfl⟩ := hu.form
    clear hu h2 HRW HSM
    go_wp2_with fail
    refine HS.out.mono ?_
    rintro e w3 ⟨rfl, h3⟩
    have HB3 := keep (HB2.out.trans (h3.mono HB2.out.size))
    clear h3 HS
    go_wp2_with fail
    refine (HLIVE.out _).mono ?_
    rintro e w5 ⟨rfl, h5⟩
    have HB5 := keep (HB3.out.trans (h5.mono HB3.out.size))
    clear h5
    go_wp2_with fail
    go_ret
    exact ⟨rfl, HB5.out⟩
theorem own : ownKnob Try.prog.godebug = none := by kernel_rfl
theorem laid : laidOutB Try.prog = true := by kernel_rfl

set_option maxRecDepth 100000 in
theorem lifted (os : Os) (started : os.Started) (H : Type) (enc : TypeId × Value → H) :
    ReturnsInHanded {} Try.checked os 3 .any (Rows.termParsesSpec.pre6 enc Try.prog Try.f3 Rows.termParsesRow.domain false) (Rows.termParsesSpec.post enc Try.prog Try.f3 false true false false) := by
  refine returnsInHanded_of_change (C := Try.checked) own started (by kernel_rfl) Try.func3
    (ChangeSpec.witness6 (enc := enc) (C := Try.checked) false ⟨#[], #[.slice none 0 0, .int .i64 0], []⟩ 8 (by kernel_rfl) (by kernel_rfl) (by kernel_rfl) (by kernel_rfl)) ?_
  intro W base args ds gs before hval0 hW hcnd _
  have hval : ∀ (j : Nat) t v, Try.f3.params[j]? = some t → args[j]? = some v → Value.okWide Try.prog W .any base t v := hval0
  have hW' := hW
  obtain ⟨p, q, hA0, hV, rfl, hfz, hnd⟩ := hW
  have hA : DataW.TrodAll enc Try.prog W 0 (fun _ => true) true Try.f3.params.toList args.toList ds p := hA0
  rw [Try.params3] at hA hval
  obtain ⟨v0, vs0, d0, ds0, p0, q0, hargs, rfl, rfl, h0, r0⟩ := trodAll_cons hA
  obtain ⟨v1, vs1, d1, ds1, p1, q1, rfl, rfl, rfl, h1, r1⟩ := trodAll_cons r0
  obtain ⟨rfl, rfl, rfl⟩ := trodAll_nil r1
  obtain rfl : args = #[v0, v1] := by cases args; simp_all
  obtain ⟨rfl, rfl⟩ := trodVars_none hV
  obtain ⟨a0, w0⟩ := toks_of' (enc := enc) h0 (hval 0 22 v0 rfl rfl)
  obtain ⟨a1, rfl, rfl, rfl, w1⟩ := open_int Try.underlying3 (hval 1 3 v1 rfl rfl) h1
  clear hA0 hval0
  simp only [List.append_nil] at hW'
  have hlt0 : ∀ x ∈ p0, x.block < W.heap.size := fun x hx => by
    have := hW'.lt x (by simp [hx])
    simpa using this
  refine (walk v0 a0 a1 W w0 w1).mono fun e W' ⟨he, hg⟩ => ?_
  subst he
  exact ⟨_, rfl, _, _, _, [], _, [], hW', (trodAll_cons_mk (shut_bool Try.underlying4 _) trodAll_mk0), (trodAll_cons_mk (Below.trod laid (by kernel_rfl) (of_decide_eq_true (by kernel_rfl)) h0 hg hlt0) (trodAll_cons_mk (shut_int Try.underlying3 w1) trodAll_mk0)), rfl, hg.frame _, fun h => by cases h⟩

theorem over : Rows.termParsesRow.holds Try.pinned (OpenSpec.ofChange Rows.termParsesSpec) :=
  OpenClaim.holds_of_wide 3 Try.f3 rfl rfl rfl rfl rfl rfl rfl ⟨rfl, rfl, rfl, rfl, rfl⟩ rfl rfl rfl rfl rfl (by kernel_rfl) Try.func3 (by kernel_rfl)
    (of_decide_eq_true (by kernel_rfl)) (by unfold Func.isWrapper; first | (rw [if_pos (by decide +kernel)]; kernel_rfl) | (rw [if_neg (by decide +kernel)]; exact ⟨rfl, rfl⟩))
    (fun os started H enc _ => lifted os started H enc)

/-- The statement. -/
theorem proved : Rows.TermParsesSaid :=
  over
#print axioms proved
end Go.Proofs.Ytglmcjplglgnlaa.termParses
