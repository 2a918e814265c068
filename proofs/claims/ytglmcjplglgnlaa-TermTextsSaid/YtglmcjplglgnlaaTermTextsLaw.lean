/-
  For every string, retracelaw10.TermTexts answers true. No condition.
-/
import Derived.Test.YtglmcjplglgnlaaRows
import Derived.Test.YtglmcjplglgnlaaTermX
import Derived.Below
import Derived.ChangeOld
namespace Go.Proofs.Ytglmcjplglgnlaa.termTexts
open Go.ChangeShapes Go.WideShapes Go.ChangeAt Go.RowKit
open Go.ChangeMaps (open_string shut_string)

theorem nxt_size (s : List UInt8) (a : Nat) : (nxt s a).1.S.size ≤ s.length := by
  unfold nxt
  simp only
  split
  · exact Nat.zero_le _
  · rw [str_size, List.length_take, List.length_drop]
    omega
theorem toks_facts {s : List UInt8} {a : Nat} {ts : List Tok} {r : Int × Int} (h : Toks s a ts r) (ha : a ≤ s.length) : ts.length ≤ s.length - a + 1 ∧ ∀ t ∈ ts, t.S.size ≤ s.length := by
  induction h with
  | bad a t p e h1 h2 => simp
  | fin a t p h1 h2 =>
    refine ⟨by simp, fun x hx => ?_⟩
    rw [List.mem_singleton] at hx
    subst hx
    have := nxt_size s a
    rwa [h1] at this
  | step a b t ts r h1 h2 h3 h4 h5 ih =>
    obtain ⟨i1, i2⟩ := ih h4
    refine ⟨by rw [List.length_cons]; omega, fun x hx => ?_⟩
    rcases List.mem_cons.1 hx with rfl | hx
    · have := nxt_size s a
      rwa [h1] at this
    · exact i2 x hx

set_option maxRecDepth 100000 in
set_option maxHeartbeats 8000000 in
theorem walk (s : ByteArray) (w : World) (hs : s.size ≤ maxLen) : Calls Try.prog 4 #[.string s] w fun e w' => e = .returned (.bool true) ∧ Below w.heap.size w w' := by
  have HLIVE := keep live_any
  unfold maxLen at hs
  by_cases hn : 300 < s.size
  · have hnI : (300 : Int) < (s.size : Int) := by omega
    clear hs hn
    go_enter Try.func4, Try.ntmps4
    go_wp2_with fail
    refine (HLIVE.out _).mono ?_
    rintro e w5 ⟨rfl, h5⟩
    have HB5 := keep h5
    clear h5
    go_wp2_with fail
    go_ret
    exact ⟨rfl, HB5.out⟩
  · have hsl := size_list s
    obtain ⟨ts0, r, htk⟩ := toks_any s.data.toList
    obtain ⟨f1, f2⟩ := toks_facts htk (Nat.zero_le _)
    have HA := keep (fun W => all_to s.data.toList ts0 r (by omega) htk W)
    rw [str_eta] at HA
    obtain ⟨ts, hts⟩ : ∃ ts, told ts0 r = ts := ⟨_, rfl⟩
    have ht : ts.length ≤ 301 ∧ ∀ t ∈ ts, t.S.size ≤ maxLen := by
      rw [← hts]
      unfold told
      split
      · exact ⟨by omega, fun t h => by have := f2 t h; unfold maxLen; omega⟩
      · simp
    obtain ⟨r1, r2⟩ := r
    unfold AllTo at HA
    rw [hts] at HA
    have HP := keep (fun W (v : Value) (h : TkRow W.heap.size W v ts) => parse_to ts v 0 (by omega) ht.2 (by omega) W h)
    have HR := keep (fun W (v : Value) (h : TkRow W.heap.size W v ts) => rparse_any ts v 0 (by omega) W h)
    have HSM := keep (fun W v u l a e (h : NRow W.heap.size W v l) (h' : NRow W.heap.size W u l) => same_eq v u l a e W h h')
    have hfd := fld_list
    generalize parseI ts 0 = R at HP HR
    obtain ⟨l, p, E⟩ := R
    have hnI : ¬ ((300 : Int) < (s.size : Int)) := by omega
    obtain ⟨n, hnn⟩ : ∃ n, n = ts.length := ⟨_, rfl⟩
    rw [← hnn] at HA
    clear hs hsl htk f1 f2 ht hts hnn hn
    go_enter Try.func4, Try.ntmps4
    go_wp2_with fail
    refine (HA.out _).mono ?_
    rintro e w0 ⟨o, c, rfl, ht0, h0⟩
    have HTK := keep ht0
    have HB0 := keep h0
    have HPW := keep (HP.out w0 _ ht0)
    clear ht0 h0 HA HP
    go_wp2_with fail
    refine HPW.out.mono ?_
    rintro e w1 ⟨o1, c1, rfl, hn1, h1⟩
    simp only at hn1
    have HN1 := keep hn1
    have HB1 := keep (HB0.out.trans (h1.mono HB0.out.size))
    have HRW := keep (HR.out w1 _ (HTK.out.to h1))
    clear hn1 h1 HPW HR hfd
    go_wp2_with fail
    refine HRW.out.mono ?_
    rintro e w2 ⟨u, rfl, hu, h2⟩
    simp only at hu
    have HB2 := keep (HB1.out.trans (h2.mono HB1.out.size))
    have HS := keep (HSM.out w2 (.slice o1 l.length c1) u l p E (HN1.out.to h2) hu.row)
    obtain ⟨uo, uc, rfl⟩ := hu.form
    clear hu h2 HRW HSM
    go_wp2_with fail
    refine HS.out.mono ?_
    rintro e w3 ⟨rfl, h3⟩
    have HB3 := keep (HB2.out.trans (h3.mono HB2.out.size))
    clear h3 HS
    go_wp2_with fail
    refine (HLIVE.out _).mono ?_
    rintro e w5 ⟨rfl, h5⟩
    have HB5 := keep (HB3.out.trans (h5.mono HB3.out.size))
    clear h5
    go_wp2_with fail
    go_ret
    exact ⟨rfl, HB5.out⟩
theorem own : ownKnob Try.prog.godebug = none := by kernel_rfl
theorem laid : laidOutB Try.prog = true := by kernel_rfl

set_option maxRecDepth 100000 in
theorem lifted (os : Os) (started : os.Started) (H : Type) (enc : TypeId × Value → H) :
    ReturnsInHanded {} Try.checked os 4 .any (Rows.termTextsSpec.pre6 enc Try.prog Try.f4 Rows.termTextsRow.domain false) (Rows.termTextsSpec.post enc Try.prog Try.f4 false true false false) := by
  refine returnsInHanded_of_change (C := Try.checked) own started (by kernel_rfl) Try.func4
    (ChangeSpec.witness6 (enc := enc) (C := Try.checked) false ⟨#[], #[.string ByteArray.empty], []⟩ 8 (by kernel_rfl) (by kernel_rfl) (by kernel_rfl) (by kernel_rfl)) ?_
  intro W base args ds gs before hval0 hW hcnd _
  have hval : ∀ (j : Nat) t v, Try.f4.params[j]? = some t → args[j]? = some v → Value.okWide Try.prog W .any base t v := hval0
  have hW' := hW
  obtain ⟨p, q, hA0, hV, rfl, hfz, hnd⟩ := hW
  have hA : DataW.TrodAll enc Try.prog W 0 (fun _ => true) true Try.f4.params.toList args.toList ds p := hA0
  rw [Try.params4] at hA hval
  obtain ⟨v0, vs0, d0, ds0, p0, q0, hargs, rfl, rfl, h0, r0⟩ := trodAll_cons hA
  obtain ⟨rfl, rfl, rfl⟩ := trodAll_nil r0
  obtain rfl : args = #[v0] := by cases args; simp_all
  obtain ⟨rfl, rfl⟩ := trodVars_none hV
  obtain ⟨a0, rfl, rfl, rfl, w0⟩ := open_string Try.underlying9 (hval 0 9 v0 rfl rfl) h0
  clear hA0 hval0
  simp only [List.append_nil] at hW'
  refine (walk a0 W w0).mono fun e W' ⟨he, hg⟩ => ?_
  subst he
  exact ⟨_, rfl, _, _, _, [], _, [], hW', (trodAll_cons_mk (shut_bool Try.underlying4 _) trodAll_mk0), (trodAll_cons_mk (shut_string Try.underlying9 w0) trodAll_mk0), rfl, hg.frame _, fun h => by cases h⟩

theorem over : Rows.termTextsRow.holds Try.pinned (OpenSpec.ofChange Rows.termTextsSpec) :=
  OpenClaim.holds_of_wide 4 Try.f4 rfl rfl rfl rfl rfl rfl rfl ⟨rfl, rfl, rfl, rfl, rfl⟩ rfl rfl rfl rfl rfl (by kernel_rfl) Try.func4 (by kernel_rfl)
    (of_decide_eq_true (by kernel_rfl)) (by unfold Func.isWrapper; first | (rw [if_pos (by decide +kernel)]; kernel_rfl) | (rw [if_neg (by decide +kernel)]; exact ⟨rfl, rfl⟩))
    (fun os started H enc _ => lifted os started H enc)

/-- The statement. -/
theorem proved : Rows.TermTextsSaid :=
  over
#print axioms proved
end Go.Proofs.Ytglmcjplglgnlaa.termTexts
