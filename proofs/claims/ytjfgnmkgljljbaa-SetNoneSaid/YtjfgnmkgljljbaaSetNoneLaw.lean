/-
  For every two ints, retracelaw06.SetNone answers true, and what it is given reads as before. No condition.
-/
import Derived.Test.YtjfgnmkgljljbaaRows
import Derived.Test.YtjfgnmkgljljbaaSetW
namespace Go.Proofs.Ytjfgnmkgljljbaa.setNone
open Go.ChangeShapes Go.WideShapes Go.ChangeAt Go.RowKit Go.Shelf
open Go.ChangeMaps (open_string shut_string)
attribute [local go_sem] Oper.semAt_some

/-- Between two rounds: there is none. -/
def NoneI (w : World) (Br d : Nat) (_ : List (Nat × Int)) (W : World) : Prop := Boxed W Br 4 (.bool false) ∧ (Boxed W d 52 (.pointer none) ∧ Below w.heap.size w W)
theorem NoneI.own (w w3 : World) (Br d : Nat) (hw : w.heap.size ≤ w3.heap.size) : OwnFrom w3.heap.size (NoneI w Br d) :=
  OwnFrom.and (Own.from (boxed_own _ _ (fun _ => Value.bool false)) _) (OwnFrom.and (Own.from (boxed_own _ _ (fun _ => Value.pointer none)) _) (ownFrom_below (Nat.le_refl _) hw))

set_option maxRecDepth 100000 in
set_option maxHeartbeats 8000000 in
theorem walk (x i : Int) (w : World) (_ : (Lit.int .i64 x).wf = true) (_ : (Lit.int .i64 i).wf = true) :
    Calls Try.prog 6 #[.int .i64 x, .int .i64 i] w fun e w' => e = .returned (.bool true) ∧ Below w.heap.size w w' := by
  have HR0 := keep ((Boxed.new w 4 (.bool false)).alloc (.cells #[.pointer none] 52))
  have hd0 := Boxed.new (w.alloc (.cells #[.bool false] 4)) 52 (.pointer none)
  rw [World.size_alloc] at hd0
  have HD0 := keep hd0
  have HB0 := keep (((Below.refl _ w).alloc (Nat.le_refl _) (.cells #[.bool false] 4)).alloc (by simp) (.cells #[.pointer none] 52))
  have HOUT := keep (fun W => at_out (w := W) i (SV.nil W) (by rcases Int.lt_or_le i 0 with h | h; exact .inl h; exact .inr (by simpa using h)))
  have HLENN : Keep (∀ W, Calls Try.prog 21 #[.pointer none] W fun e w' => e = .returned (.int .i64 0) ∧ W = w') := keep (fun W => len_any (w := W) (SV.nil W))
  have HFROMN : Keep (∀ W, Calls Try.prog 16 #[.pointer none, EV x] W fun e w' => e = .returned (.int .i64 0) ∧ W = w') := keep (fun W => from_any (w := W) x (SV.nil W) (by simp))
  have HADDN := keep (fun W => add_nil x W)
  have HHASN := keep (fun W => has_out (w := W) x (SV.nil W) (by simp) (by simp))
  have HDELN := keep (fun W => del_out (w := W) x (SV.nil W) (by simp) (by simp))
  have hfn := func_nil
  clear hd0
  refine (callsIn_wide (n := 4)).1 ?_
  refine callsIn_of_wp_marks Try.func6 rfl trivial ?_ rfl
  simp only [Try.ntmps6, List.size_toArray, List.length_cons, List.length_nil, Nat.reduceAdd, Nat.reduceSub, Array.replicate_succ, Array.replicate_zero, List.push_toArray, List.append_toArray, List.nil_append, List.cons_append]
  gi_wp2_with (first
    | (refine ⟨trivial, ?_⟩; gi_at_call 18; refine (callsIn_wide.2 (HOUT.out _)).mono ?_; rintro e1 w' ⟨rfl, rfl⟩)
    | (refine ⟨trivial, ?_⟩; gi_at_call 20; refine (callsIn_wide.2 (allf_any _ _)).mono ?_; rintro e1 w' ⟨rfl, rfl⟩)
    | (refine ⟨trivial, ?_⟩; gi_at_call 7; refine (callsIn_wide.2 (live_any _)).mono ?_; rintro e1 w3 ⟨rfl, hb⟩; have HBL := keep hb; clear hb))
  have HBW : Keep (Below w.heap.size w w3) := ⟨(HB0.out.alloc HB0.out.size (.cells #[.pointer none] 25)).trans (HBL.out.mono (by simp; omega))⟩
  have HR3 : Keep (Boxed w3 w.heap.size 4 (.bool false)) := ⟨(HR0.out.alloc (.cells #[.pointer none] 25)).kept (below_grown HBL.out) (by simp)⟩
  have HD3 : Keep (Boxed w3 (w.heap.size + 1) 52 (.pointer none)) := ⟨(HD0.out.alloc (.cells #[.pointer none] 25)).kept (below_grown HBL.out) (by simp)⟩
  have hp0 := heap_alloc_new ((w.alloc (.cells #[.bool false] 4)).alloc (.cells #[.pointer none] 52)) (.cells #[.pointer none] 25)
  rw [World.size_alloc, World.size_alloc] at hp0
  have HP3 : Keep (w3.heap[w.heap.size + 1 + 1]? = some (.cells #[.pointer none] 25 (0, 0))) := ⟨(HBL.out.block _ (by simp)).trans hp0⟩
  have HST := keep (all_stops 3 (w.heap.size + 1 + 1) none [] (by simp) w3 (SV.nil w3) HP3.out)
  have HLT : Keep (w.heap.size + 1 < w3.heap.size) := ⟨HD3.out.lt⟩
  clear hp0 HBL HR0 HB0 HD0 HOUT
  refine wpIn_rangeFunc_ownH (n := 4) rfl (by omega) (gf := 33) (lb := #[.pointer (some ⟨w.heap.size + 1 + 1, 0, none⟩)]) rfl trivial (enters_of Try.func33 (by kernel_rfl) rfl)
    HST.out (fun h1 h2 => NKept.trans h1 h2) (fun W l o o' _ h2 h3 _ => NK.loop W l o o' h2 h3) (Below.refl _ _) (fun _ => rfl)
    (NoneI w w.heap.size (w.heap.size + 1)) (fun _ _ _ => False) (NoneI.own w w3 w.heap.size (w.heap.size + 1) (by have := HLT.out; omega)) (fun _ _ _ _ _ hs _ _ => hs) ⟨HR3.out, HD3.out, HBW.out⟩ (fun _ _ _ => True) (fun _ _ _ _ _ _ hs _ _ => hs) ?assign ?body ?done ?stop
  case assign =>
    rintro l pre y W K hi hK
    dsimp only [encP]
    gi_wp2
    exact hK _ W (KeepsFrom.refl _ _) (NKept.refl _ _) hi trivial
  case body =>
    rintro l pre y a' W hl ⟨r, hr⟩ hi hA hlt
    exact absurd hlt (by simp)
  case done =>
    rintro D zs W hD rfl ⟨hr, hd, hB⟩ hK
    have hs : SAt (w.heap.size + 1) [] W := ⟨⟨none, .leaf, hd, rfl, rfl⟩, List.Pairwise.nil⟩
    have HS := keep hs
    have HR := keep hr
    have HB := keep hB
    have HK := keep hK
    have HDW : Keep (w.heap.size + 1 < D) := ⟨by have := HLT.out; omega⟩
    have HL0 : Keep (Calls Try.prog 21 #[.pointer (some ⟨w.heap.size + 1, 0, none⟩)] W fun e w' => e = .returned (.int .i64 0) ∧ W = w') := ⟨len_any hs.sv⟩
    have HA1 : Keep (Calls Try.prog 11 #[.pointer (some ⟨w.heap.size + 1, 0, none⟩), EV x] W fun e w' => e = .returned (.bool true) ∧ SAt (w.heap.size + 1) [x] w' ∧ W.grownBy w' (some (w.heap.size + 1))) := ⟨add_new x hs (by simp) (by simp)⟩
    have HA2 : Keep (∀ w', SAt (w.heap.size + 1) [x] w' → Calls Try.prog 11 #[.pointer (some ⟨w.heap.size + 1, 0, none⟩), EV x] w' fun e w'' => e = .returned (.bool false) ∧ w' = w'') := ⟨fun w' h => add_in x h (by simp) (by simp)⟩
    have HH : Keep (∀ w', SAt (w.heap.size + 1) [x] w' → Calls Try.prog 15 #[.pointer (some ⟨w.heap.size + 1, 0, none⟩), EV x] w' fun e w'' => e = .returned (.bool true) ∧ w' = w'') := ⟨fun w' h => has_in x h.sv (by simp) (by simp)⟩
    have HL1 : Keep (∀ w', SAt (w.heap.size + 1) [x] w' → Calls Try.prog 21 #[.pointer (some ⟨w.heap.size + 1, 0, none⟩)] w' fun e w'' => e = .returned (.int .i64 1) ∧ w' = w'') := ⟨fun w' h => len_any h.sv⟩
    clear hr hB hK hD hd hs
    gi_wp2_with (first
      | (refine ⟨trivial, ?_⟩; gi_at_call 11; refine (callsIn_wide.2 (HADDN.out _)).mono ?_; clear HADDN; rintro e1 w' ⟨rfl, rfl⟩)
      | (refine ⟨trivial, ?_⟩; gi_at_call 13; refine (callsIn_wide.2 (HDELN.out _)).mono ?_; clear HDELN; rintro e1 w' ⟨rfl, rfl⟩)
      | (refine ⟨trivial, ?_⟩; gi_at_call 15; refine (callsIn_wide.2 (HHASN.out _)).mono ?_; clear HHASN; rintro e1 w' ⟨rfl, rfl⟩)
      | (refine ⟨trivial, ?_⟩; gi_at_call 21; refine (callsIn_wide.2 (HLENN.out _)).mono ?_; clear HLENN; rintro e1 w' ⟨rfl, rfl⟩)
      | (refine ⟨trivial, ?_⟩; gi_at_call 16; refine (callsIn_wide.2 (HFROMN.out _)).mono ?_; clear HFROMN; rintro e1 w' ⟨rfl, rfl⟩)
      | (refine ⟨trivial, ?_⟩; gi_at_call 21; refine (callsIn_wide.2 HL0.out).mono ?_; clear HL0; rintro e1 w' ⟨rfl, rfl⟩)
      | (refine ⟨trivial, ?_⟩; gi_at_call 11; refine (callsIn_wide.2 HA1.out).mono ?_; clear HA1; rintro e1 w7 ⟨rfl, hs, hg⟩; have HS7 := keep hs; have HG7 := keep hg; clear hs hg)
      | (refine ⟨trivial, ?_⟩; gi_at_call 11; refine (callsIn_wide.2 (HA2.out _ HS7.out)).mono ?_; clear HA2; rintro e1 w' ⟨rfl, rfl⟩)
      | (refine ⟨trivial, ?_⟩; gi_at_call 15; refine (callsIn_wide.2 (HH.out _ HS7.out)).mono ?_; clear HH; rintro e1 w' ⟨rfl, rfl⟩)
      | (refine ⟨trivial, ?_⟩; gi_at_call 21; refine (callsIn_wide.2 (HL1.out _ HS7.out)).mono ?_; clear HL1; rintro e1 w' ⟨rfl, rfl⟩)
      | (refine ⟨trivial, ?_⟩; gi_at_call 7; refine (callsIn_wide.2 (live_any _)).mono ?_; rintro e1 w8 ⟨rfl, hb⟩; have HB8 := keep hb; have HR8 : Keep (Boxed w8 w.heap.size 4 (.bool false)) := ⟨(HR.out.kept HG7.out (by intro h; injection h with h; omega)).kept (below_grown hb) (by simp)⟩; have hr8 := HR8.out.cell; have hf8 := HR8.out.frozen; clear hb))
    have HB7 : Below w.heap.size w w8 := (HB.out.trans (grown_below HG7.out (by omega) HB.out.size)).trans (HB8.out.mono (by have := HG7.out.size; have := HB.out.size; omega))
    have hK8 : w8.heap[D]? = some (.deferred (some [])) := by
      have hDl := (Array.getElem?_eq_some_iff.1 HK.out).1
      have h1 := (HG7.out.block D hDl (fun e => by injection e with e; have := HDW.out; omega)).trans HK.out
      exact (HB8.out.block D (Array.getElem?_eq_some_iff.1 h1).1).trans h1
    obtain ⟨hK', hc5, hB5⟩ := lawEnd HB7 HR8.out hK8 (Nat.le_refl _) (by have := HDW.out; omega) true
    refine ⟨by simp, .inl ⟨_, _, rfl, run_takeDeferred hK', ?_⟩⟩
    refine ⟨.bool true, ?_, rfl, hB5⟩
    simp [results, Try.f6, go_sem, hc5]
  case stop =>
    rintro D c pre W _ _ h _
    exact h.elim
theorem own : ownKnob Try.prog.godebug = none := by kernel_rfl
theorem laid : laidOutB Try.prog = true := by kernel_rfl

set_option maxRecDepth 100000 in
theorem lifted (os : Os) (started : os.Started) (H : Type) (enc : TypeId × Value → H) :
    ReturnsInHanded {} Try.checked os 6 .any (Rows.setNoneSpec.pre6 enc Try.prog Try.f6 Rows.setNoneRow.domain false) (Rows.setNoneSpec.post enc Try.prog Try.f6 false true false false) := by
  refine returnsInHanded_of_change (C := Try.checked) own started (by kernel_rfl) Try.func6
    (ChangeSpec.witness6 (enc := enc) (C := Try.checked) false ⟨#[], #[.int .i64 0, .int .i64 0], []⟩ 8 (by kernel_rfl) (by kernel_rfl) (by kernel_rfl) (by kernel_rfl)) ?_
  intro W base args ds gs before hval0 hW hcnd _
  have hval : ∀ (j : Nat) t v, Try.f6.params[j]? = some t → args[j]? = some v → Value.okWide Try.prog W .any base t v := hval0
  have hW' := hW
  obtain ⟨p, q, hA0, hV, rfl, hfz, hnd⟩ := hW
  have hA : DataW.TrodAll enc Try.prog W 0 (fun _ => true) true Try.f6.params.toList args.toList ds p := hA0
  rw [Try.params6] at hA hval
  obtain ⟨v0, vs0, d0, ds0, p0, q0, hargs, rfl, rfl, h0, r0⟩ := trodAll_cons hA
  obtain ⟨v1, vs1, d1, ds1, p1, q1, rfl, rfl, rfl, h1, r1⟩ := trodAll_cons r0
  obtain ⟨rfl, rfl, rfl⟩ := trodAll_nil r1
  obtain rfl : args = #[v0, v1] := by cases args; simp_all
  obtain ⟨rfl, rfl⟩ := trodVars_none hV
  obtain ⟨a0, rfl, rfl, rfl, w0⟩ := open_int Try.underlying3 (hval 0 3 v0 rfl rfl) h0
  obtain ⟨a1, rfl, rfl, rfl, w1⟩ := open_int Try.underlying3 (hval 1 3 v1 rfl rfl) h1
  clear hA0 hval0
  simp only [List.append_nil] at hW'
  refine (walk a0 a1 W w0 w1).mono fun e W' ⟨he, hg⟩ => ?_
  subst he
  exact ⟨_, rfl, _, _, _, [], _, [], hW', (trodAll_cons_mk (shut_bool Try.underlying4 _) trodAll_mk0), (trodAll_cons_mk (shut_int Try.underlying3 w0) (trodAll_cons_mk (shut_int Try.underlying3 w1) trodAll_mk0)), rfl, hg.frame _, fun h => by cases h⟩

theorem over : Rows.setNoneRow.holds Try.pinned (OpenSpec.ofChange Rows.setNoneSpec) :=
  OpenClaim.holds_of_wide 6 Try.f6 rfl rfl rfl rfl rfl rfl rfl ⟨rfl, rfl, rfl, rfl, rfl⟩ rfl rfl rfl rfl rfl (by kernel_rfl) Try.func6 (by kernel_rfl)
    (of_decide_eq_true (by kernel_rfl)) (by unfold Func.isWrapper; first | (rw [if_pos (by decide +kernel)]; kernel_rfl) | (rw [if_neg (by decide +kernel)]; exact ⟨rfl, rfl⟩))
    (fun os started H enc _ => lifted os started H enc)

/-- The statement. -/
theorem proved : Rows.SetNoneSaid :=
  over
#print axioms proved
end Go.Proofs.Ytjfgnmkgljljbaa.setNone
