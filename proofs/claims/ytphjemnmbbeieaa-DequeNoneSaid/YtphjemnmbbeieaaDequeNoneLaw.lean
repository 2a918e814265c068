/-
  For every text and every int, retracelaw05.DequeNone answers true, and what it is given reads as before. No condition.
-/
import Derived.Test.YtphjemnmbbeieaaRows
import Derived.Test.YtphjemnmbbeieaaDequeR
namespace Go.Proofs.Ytphjemnmbbeieaa.dequeNone
open Go.ChangeShapes Go.WideShapes Go.ChangeAt Go.RowKit Go.Shelf
open Go.ChangeMaps (open_string shut_string)
attribute [local go_sem] Oper.semAt_some

/-- Between two rounds: there is none. -/
def NoneI (w : World) (Br : Nat) (_ : List ByteArray) (W : World) : Prop := Boxed W Br 4 (.bool false) ∧ Below w.heap.size w W
theorem NoneI.own (w w3 : World) (Br : Nat) (hw : w.heap.size ≤ w3.heap.size) : OwnFrom w3.heap.size (NoneI w Br) :=
  OwnFrom.and (Own.from (boxed_own _ _ (fun _ => Value.bool false)) _) (ownFrom_below (Nat.le_refl _) hw)

set_option maxRecDepth 100000 in
set_option maxHeartbeats 8000000 in
theorem walk (x : ByteArray) (i : Int) (w : World) (_ : x.size ≤ maxLen) (_ : (Lit.int .i64 i).wf = true) :
    Calls Try.prog 6 #[.string x, .int .i64 i] w fun e w' => e = .returned (.bool true) ∧ Below w.heap.size w w' := by
  have HR0 := keep (Boxed.new w 4 (.bool false))
  have HB0 := keep ((Below.refl _ w).alloc (Nat.le_refl _) (.cells #[.bool false] 4))
  have hfn := func_nil
  refine (callsIn_wide (n := 4)).1 ?_
  refine callsIn_of_wp_marks Try.func6 rfl trivial ?_ rfl
  simp only [Try.ntmps6, List.size_toArray, List.length_cons, List.length_nil, Nat.reduceAdd, Nat.reduceSub, Array.replicate_succ, Array.replicate_zero, List.push_toArray, List.append_toArray, List.nil_append, List.cons_append]
  gi_wp2_with (first
    | (refine ⟨trivial, ?_⟩; gi_at_call 9; refine (callsIn_wide.2 (push_nil _ _)).mono ?_; rintro e1 w' ⟨rfl, rfl⟩)
    | (refine ⟨trivial, ?_⟩; gi_at_call 10; refine (callsIn_wide.2 (shove_nil _ _)).mono ?_; rintro e1 w' ⟨rfl, rfl⟩)
    | (refine ⟨trivial, ?_⟩; gi_at_call 12; refine (callsIn_wide.2 (pop_nil _)).mono ?_; rintro e1 w' ⟨rfl, rfl⟩)
    | (refine ⟨trivial, ?_⟩; gi_at_call 15; refine (callsIn_wide.2 (drop_nil _)).mono ?_; rintro e1 w' ⟨rfl, rfl⟩)
    | (refine ⟨trivial, ?_⟩; gi_at_call 17; refine (callsIn_wide.2 (at_nil _ _)).mono ?_; rintro e1 w' ⟨rfl, rfl⟩)
    | (refine ⟨trivial, ?_⟩; gi_at_call 20; refine (callsIn_wide.2 (allf_any _ _)).mono ?_; rintro e1 w' ⟨rfl, rfl⟩)
    | (refine ⟨trivial, ?_⟩; gi_at_call 8; refine (callsIn_wide.2 (live_any _)).mono ?_; rintro e1 w3 ⟨rfl, hb⟩; have HBL := keep hb; clear hb))
  have HBW : Keep (Below w.heap.size w w3) := ⟨(HB0.out.alloc HB0.out.size (.cells #[.pointer none] 47)).trans (HBL.out.mono (by simp; omega))⟩
  have HR3 : Keep (Boxed w3 w.heap.size 4 (.bool false)) := ⟨(HR0.out.alloc (.cells #[.pointer none] 47)).kept (grown_of_below HBL.out) (by simp)⟩
  have hp0 := heap_alloc_new (w.alloc (.cells #[.bool false] 4)) (.cells #[.pointer none] 47)
  rw [World.size_alloc] at hp0
  have HP3 : Keep (w3.heap[w.heap.size + 1]? = some (.cells #[.pointer none] 47 (0, 0))) := ⟨(HBL.out.block _ (by simp)).trans hp0⟩
  have HST := keep (all_stops 3 (by omega) (w.heap.size + 1) w.heap.size none [] (by simp) w3 (.inl ⟨rfl, rfl⟩) HP3.out)
  have HLT : Keep (w.heap.size < w3.heap.size) := ⟨HR3.out.lt⟩
  clear hp0 HBL HR0 HB0
  refine wpIn_rangeFunc_ownH (n := 4) rfl (by omega) (gf := 30) (lb := #[.pointer (some ⟨w.heap.size + 1, 0, none⟩)]) rfl trivial (enters_of Try.func30 (by kernel_rfl) rfl)
    HST.out (fun h1 h2 => KpD.trans h1 h2) (fun W l o o' h1 h2 h3 _ => KpD.loop HLT.out W l o o' h1 h2 h3) (Below.refl _ _) (fun _ => rfl)
    (NoneI w w.heap.size) (fun _ _ _ => False) (NoneI.own w w3 w.heap.size (by have := HLT.out; omega)) (fun _ _ _ _ _ hs _ _ => hs) ⟨HR3.out, HBW.out⟩ (fun _ _ _ => True) (fun _ _ _ _ _ _ hs _ _ => hs) ?assign ?body ?done ?stop
  case assign =>
    rintro l pre y W K hi hK
    dsimp only [encT]
    gi_wp2
    exact hK _ W (KeepsFrom.refl _ _) (KpD.refl _ _ _) hi trivial
  case body =>
    rintro l pre y a' W hl ⟨r, hr⟩ hi hA hlt
    exact absurd hlt (by simp)
  case done =>
    rintro D zs W hD rfl ⟨hr, hB⟩ hK
    have HR := keep hr
    have HB := keep hB
    have HK := keep hK
    have HDW : Keep (w.heap.size < D) := ⟨by have := HLT.out; omega⟩
    clear hr hB hK hD
    gi_wp2_with (first
      | (refine ⟨trivial, ?_⟩; gi_at_call 19; refine (callsIn_wide.2 (len_nil _)).mono ?_; rintro e1 w' ⟨rfl, rfl⟩)
      | (refine ⟨trivial, ?_⟩; gi_at_call 8; refine (callsIn_wide.2 (live_any _)).mono ?_; rintro e1 w7 ⟨rfl, hb⟩; have HBE := keep hb; have HR8 := keep (HR.out.kept (grown_of_below hb) (by simp)); have hr8 := HR8.out.cell; have hf8 := HR8.out.frozen; clear hb))
    obtain ⟨hK', hc5, hB5⟩ := lawEnd HB.out HBE.out HR8.out HK.out (Nat.le_refl _) HDW.out true
    refine ⟨by simp, .inl ⟨_, _, rfl, run_takeDeferred hK', ?_⟩⟩
    refine ⟨.bool true, ?_, rfl, hB5⟩
    simp [results, Try.f6, go_sem, hc5]
  case stop =>
    rintro D c pre W _ _ h _
    exact h.elim
theorem own : ownKnob Try.prog.godebug = none := by kernel_rfl
theorem laid : laidOutB Try.prog = true := by kernel_rfl

set_option maxRecDepth 100000 in
theorem lifted (os : Os) (started : os.Started) (H : Type) (enc : TypeId × Value → H) :
    ReturnsInHanded {} Try.checked os 6 .any (Rows.dequeNoneSpec.pre6 enc Try.prog Try.f6 Rows.dequeNoneRow.domain false) (Rows.dequeNoneSpec.post enc Try.prog Try.f6 false true false false) := by
  refine returnsInHanded_of_change (C := Try.checked) own started (by kernel_rfl) Try.func6
    (ChangeSpec.witness6 (enc := enc) (C := Try.checked) false ⟨#[], #[.string ByteArray.empty, .int .i64 0], []⟩ 8 (by kernel_rfl) (by kernel_rfl) (by kernel_rfl) (by kernel_rfl)) ?_
  intro W base args ds gs before hval0 hW hcnd _
  have hval : ∀ (j : Nat) t v, Try.f6.params[j]? = some t → args[j]? = some v → Value.okWide Try.prog W .any base t v := hval0
  have hW' := hW
  obtain ⟨p, q, hA0, hV, rfl, hfz, hnd⟩ := hW
  have hA : DataW.TrodAll enc Try.prog W 0 (fun _ => true) true Try.f6.params.toList args.toList ds p := hA0
  rw [Try.params6] at hA hval
  obtain ⟨v0, vs0, d0, ds0, p0, q0, hargs, rfl, rfl, h0, r0⟩ := trodAll_cons hA
  obtain ⟨v1, vs1, d1, ds1, p1, q1, rfl, rfl, rfl, h1, r1⟩ := trodAll_cons r0
  obtain ⟨rfl, rfl, rfl⟩ := trodAll_nil r1
  obtain rfl : args = #[v0, v1] := by cases args; simp_all
  obtain ⟨rfl, rfl⟩ := trodVars_none hV
  obtain ⟨a0, rfl, rfl, rfl, w0⟩ := open_string Try.underlying9 (hval 0 9 v0 rfl rfl) h0
  obtain ⟨a1, rfl, rfl, rfl, w1⟩ := open_int Try.underlying3 (hval 1 3 v1 rfl rfl) h1
  clear hA0 hval0
  simp only [List.append_nil] at hW'
  refine (walk a0 a1 W w0 w1).mono fun e W' ⟨he, hg⟩ => ?_
  subst he
  exact ⟨_, rfl, _, _, _, [], _, [], hW', (trodAll_cons_mk (shut_bool Try.underlying4 _) trodAll_mk0), (trodAll_cons_mk (shut_string Try.underlying9 w0) (trodAll_cons_mk (shut_int Try.underlying3 w1) trodAll_mk0)), rfl, hg.frame _, fun h => by cases h⟩

theorem over : Rows.dequeNoneRow.holds Try.pinned (OpenSpec.ofChange Rows.dequeNoneSpec) :=
  OpenClaim.holds_of_wide 6 Try.f6 rfl rfl rfl rfl rfl rfl rfl ⟨rfl, rfl, rfl, rfl, rfl⟩ rfl rfl rfl rfl rfl (by kernel_rfl) Try.func6 (by kernel_rfl)
    (of_decide_eq_true (by kernel_rfl)) (by unfold Func.isWrapper; first | (rw [if_pos (by decide +kernel)]; kernel_rfl) | (rw [if_neg (by decide +kernel)]; exact ⟨rfl, rfl⟩))
    (fun os started H enc _ => lifted os started H enc)

/-- The statement. -/
theorem proved : Rows.DequeNoneSaid :=
  over
#print axioms proved
end Go.Proofs.Ytphjemnmbbeieaa.dequeNone
