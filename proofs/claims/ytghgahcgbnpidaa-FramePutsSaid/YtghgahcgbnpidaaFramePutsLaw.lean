/-
  For every frame and every uint8, retracelaw04.FramePuts answers true, and what it is given reads as before. No condition.
-/
import Derived.Test.YtghgahcgbnpidaaRows
import Derived.Test.YtghgahcgbnpidaaFrameQ
import Derived.Laws.MakeOwn
import Derived.Laws.BytesArg
namespace Go.Proofs.Ytghgahcgbnpidaa.framePuts
open Go.ChangeShapes Go.WideShapes Go.ChangeAt Go.RowKit Go.Joins
open Go.ChangeMaps (open_string shut_string)

theorem putT_form (f : Fr) : ∃ t : ByteArray, ∃ e : Int, putT f = .tuple #[.string t, .int .i64 e] := by
  unfold putT; split
  · exact ⟨_, _, rfl⟩
  · split <;> exact ⟨_, _, rfl⟩

theorem infoB : (Try.prog.info? 5).map (fun i => (i.zero, i.size, i.bytes)) = some (some (.int .u8 0), 1, 1) := by kernel_rfl

/-- So many bytes 0: the row, the text. -/
theorem zeros_of (n : Nat) (hn : n ≤ 2000000) : ∃ (R : Array Value) (Z : ByteArray), Z.size = n ∧
    (∀ W : World, (Instr.makeSlice 30 (.int .i64 (n : Int)) (.int .i64 (n : Int))).run Try.prog W = .ok (.slice (some ⟨W.heap.size, 0, none⟩) n n) (W.alloc (.cells R 5))) ∧
    (∀ W : World, (convert 30 9 (.slice (some ⟨W.heap.size, 0, none⟩) n n)).run Try.prog (W.alloc (.cells R 5)) = .ok (.string Z) (W.alloc (.cells R 5))) := by
  obtain ⟨i0, hi, hz0, hz1, hz2⟩ := info_parts infoB
  refine ⟨madeCells (Value.int .u8 0).cells (n * i0.size), strOfNums (List.replicate n 0), by rw [strOfNums_size]; simp, fun W => ?_, fun W => ?_⟩
  · have := run_make (P := Try.prog) W 30 5 i0 (.int .u8 0) Try.underlying30 hi hz0 .i64 .i64 (n : Int) (n : Int) (by omega) (Int.le_refl _) (by rw [hz2]; omega) (by omega)
    simp only [Int.toNat_natCast] at this
    exact this
  · refine run_convert_bytes_arg (P := Try.prog) _ 30 5 Try.underlying30 Try.underlying5 W.heap.size 0 n n (List.replicate n 0) (by simp) (fun i hi => ?_) 9 Try.underlying9
    rw [Nat.zero_add, World.cell?_alloc_new]
    have h1 : (madeCells (Value.int .u8 0).cells (n * i0.size))[i]? = some (.int .u8 0) := by
      rw [hz1, Nat.mul_one]
      unfold madeCells Value.cells
      simp [hi, Nat.mod_one]
    rw [h1]
    simp [List.getD, hi]

set_option maxHeartbeats 2000000 in
theorem walk (f : Fr) (m : Int) (w : World) (hf : f.S.size ≤ 9223372036854775807) (hm : (Lit.int .u8 m).wf = true) :
    Calls Try.prog 3 #[f.agg, .int .u8 m] w fun e w' => e = .returned (.bool true) ∧ Below w.heap.size w w' := by
  have hmb : 0 ≤ m ∧ m ≤ 255 := by have := bounds_u8 hm; omega
  by_cases hlen : 2000 < f.S.size
  · obtain ⟨K, S⟩ := f
    unfold Fr.agg
    simp only at hlen hf ⊢
    have hl : (2000 : Int) < (S.size : Int) := by omega
    have hl2 : (S.size : Int) ≤ 9223372036854775807 := by omega
    clear hlen hf hm
    go_enter Try.func3, Try.ntmps3
    go_wp2_with fail
    refine (live_any _).mono ?_
    rintro e w1 ⟨rfl, hb⟩
    have HB1 := keep (((Below.refl _ w).alloc (Nat.le_refl _) _).trans (hb.mono (by simp)))
    clear hb
    go_wp2_with fail
    go_ret
    exact ⟨rfl, HB1.out⟩
  · have HP0 := fun W => fput_any f W (fun _ => by omega) hf
    have HR0 := fun W => refFr_any f W (by omega)
    obtain ⟨t, er, ht⟩ := putT_form f
    rw [ht] at HP0 HR0
    obtain ⟨K, S⟩ := f
    unfold Fr.agg at HP0 HR0 ⊢
    simp only at hlen hf HP0 HR0 ⊢
    have HP := keep HP0
    have HR := keep HR0
    have hl : (S.size : Int) ≤ 2000 := by omega
    have hm0 := hmb.1
    have hm1 := hmb.2
    have HX := keep (Box2.new w (.int .i64 K) (.string S) 23)
    clear hlen hf hm HP0 HR0 ht hmb
    obtain ⟨N, hN⟩ : ∃ N : Nat, (N : Int) = 1048577 + m := ⟨(1048577 + m).toNat, by omega⟩
    obtain ⟨R, Z, hZ, hmk, hcv⟩ := zeros_of N (by omega)
    have HL0 := fun W => fput_any ⟨5, Z⟩ W (fun h => by have := h.2.2; simp only at this; omega) (by show Z.size ≤ _; omega)
    rw [putT_long (f := ⟨5, Z⟩) (by simp) (by show 1048576 < Z.size; omega)] at HL0
    unfold Fr.agg at HL0
    simp only at HL0
    have HL := keep HL0
    rw [hN] at hmk
    clear HL0 hN hZ
    go_enter Try.func3, Try.ntmps3
    go_wp2_with fail
    refine (HP.out _).mono ?_
    rintro e w1 ⟨rfl, hb⟩
    have HB1 := keep (((Below.refl _ w).alloc (Nat.le_refl _) _).trans (hb.mono (by simp)))
    have HX1 := keep (HX.out.to hb)
    obtain ⟨hc0, hc1, hcl, _, _⟩ := HX1.out
    clear hb
    go_wp2_with fail
    refine (HR.out _).mono ?_
    rintro e w2 ⟨rfl, hb⟩
    have HB2 := keep (HB1.out.trans (hb.mono HB1.out.size))
    clear hb hc0 hc1 hcl
    go_wp2_with fail
    refine (HL.out _).mono ?_
    rintro e w3 ⟨rfl, hb⟩
    have HB3 := keep ((HB2.out.alloc HB2.out.size _).trans (hb.mono (by have := HB2.out.size; simp; omega)))
    clear hb
    go_wp2_with fail
    refine (live_any _).mono ?_
    rintro e w4 ⟨rfl, hb⟩
    have HB4 := keep (HB3.out.trans (hb.mono HB3.out.size))
    clear hb
    go_wp2_with fail
    go_ret
    exact ⟨rfl, HB4.out⟩
theorem own : ownKnob Try.prog.godebug = none := by kernel_rfl
theorem laid : laidOutB Try.prog = true := by kernel_rfl

set_option maxRecDepth 100000 in
theorem lifted (os : Os) (started : os.Started) (H : Type) (enc : TypeId × Value → H) :
    ReturnsInHanded {} Try.checked os 3 .any (Rows.framePutsSpec.pre6 enc Try.prog Try.f3 Rows.framePutsRow.domain false) (Rows.framePutsSpec.post enc Try.prog Try.f3 false true false false) := by
  refine returnsInHanded_of_change (C := Try.checked) own started (by kernel_rfl) Try.func3
    (ChangeSpec.witness6 (enc := enc) (C := Try.checked) false ⟨#[], #[.agg #[.int .i64 0, .string ByteArray.empty], .int .u8 0], []⟩ 8 (by kernel_rfl) (by kernel_rfl) (by kernel_rfl) (by kernel_rfl)) ?_
  intro W base args ds gs before hval0 hW hcnd _
  have hval : ∀ (j : Nat) t v, Try.f3.params[j]? = some t → args[j]? = some v → Value.okWide Try.prog W .any base t v := hval0
  have hW' := hW
  obtain ⟨p, q, hA0, hV, rfl, hfz, hnd⟩ := hW
  have hA : DataW.TrodAll enc Try.prog W 0 (fun _ => true) true Try.f3.params.toList args.toList ds p := hA0
  rw [Try.params3] at hA hval
  obtain ⟨v0, vs0, d0, ds0, p0, q0, hargs, rfl, rfl, h0, r0⟩ := trodAll_cons hA
  obtain ⟨v1, vs1, d1, ds1, p1, q1, rfl, rfl, rfl, h1, r1⟩ := trodAll_cons r0
  obtain ⟨rfl, rfl, rfl⟩ := trodAll_nil r1
  obtain rfl : args = #[v0, v1] := by cases args; simp_all
  obtain ⟨rfl, rfl⟩ := trodVars_none hV
  obtain ⟨a0, e0, w0⟩ := fr_of (enc := enc) h0 (hval 0 23 v0 rfl rfl)
  subst e0
  obtain ⟨a1, rfl, rfl, rfl, w1⟩ := open_int Try.underlying5 (hval 1 5 v1 rfl rfl) h1
  clear hA0 hval0
  simp only [List.append_nil] at hW'
  have hlt0 : ∀ x ∈ p0, x.block < W.heap.size := fun x hx => by
    have := hW'.lt x (by simp [hx])
    simpa using this
  refine (walk a0 a1 W w0 w1).mono fun e W' ⟨he, hg⟩ => ?_
  subst he
  exact ⟨_, rfl, _, _, _, [], _, [], hW', (trodAll_cons_mk (shut_bool Try.underlying4 _) trodAll_mk0), (trodAll_cons_mk (Below.trod laid (by kernel_rfl) (of_decide_eq_true (by kernel_rfl)) h0 hg hlt0) (trodAll_cons_mk (shut_int Try.underlying5 w1) trodAll_mk0)), rfl, hg.frame _, fun h => by cases h⟩

theorem over : Rows.framePutsRow.holds Try.pinned (OpenSpec.ofChange Rows.framePutsSpec) :=
  OpenClaim.holds_of_wide 3 Try.f3 rfl rfl rfl rfl rfl rfl rfl ⟨rfl, rfl, rfl, rfl, rfl⟩ rfl rfl rfl rfl rfl (by kernel_rfl) Try.func3 (by kernel_rfl)
    (of_decide_eq_true (by kernel_rfl)) (by unfold Func.isWrapper; first | (rw [if_pos (by decide +kernel)]; kernel_rfl) | (rw [if_neg (by decide +kernel)]; exact ⟨rfl, rfl⟩))
    (fun os started H enc _ => lifted os started H enc)

/-- The statement. -/
theorem proved : Rows.FramePutsSaid :=
  over
#print axioms proved
end Go.Proofs.Ytghgahcgbnpidaa.framePuts
