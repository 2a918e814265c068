/-
  The document's reader: fail, Num, Int, Raw.
-/
import Derived.Test.YtafeahjhdjcimaaWireE
namespace Go.Proofs.Ytafeahjhdjcimaa
open Go.RowKit Go.Joins

structure XAt (b : Nat) (l : List UInt8) (f : Int) (w : World) : Prop where
  le : l.length ≤ 1000000
  at_ : w.heap[b]? = some (.cells #[.string (str l), .int .i64 f] 39 (0, 0))
theorem XAt.xr {b : Nat} {l : List UInt8} {f : Int} {w : World} (h : XAt b l f w) : XR (.pointer (some ⟨b, 0, none⟩)) l f w := ⟨b, rfl, h.le, h.at_⟩
theorem XAt.cells {b : Nat} {l : List UInt8} {f : Int} {w : World} (h : XAt b l f w) :
    w.cell? ⟨b, 0, none⟩ = some (.string (str l)) ∧ w.cell? ⟨b, 1, none⟩ = some (.int .i64 f) ∧ w.frozen? ⟨b, 0, none⟩ = false ∧ w.frozen? ⟨b, 1, none⟩ = false := by
  refine ⟨?_, ?_, unfrozen_of_block h.at_ 0, unfrozen_of_block h.at_ 1⟩ <;> (rw [cell_of_block h.at_]; rfl)
theorem XAt.setS {b : Nat} {l l' : List UInt8} {f : Int} {w : World} (h : XAt b l f w) (hl : l'.length ≤ l.length) {s : ByteArray} (hs : s = str l') : XAt b l' f (w.setCell ⟨b, 0, none⟩ (.string s)) :=
  ⟨Nat.le_trans hl h.le, by rw [block_setCell h.at_, hs]; rfl⟩
theorem XAt.setE {b : Nat} {l : List UInt8} {f : Int} {w : World} (h : XAt b l f w) (e : Int) : XAt b l e (w.setCell ⟨b, 1, none⟩ (.int .i64 e)) :=
  ⟨h.le, by rw [block_setCell h.at_]; rfl⟩
theorem XAt.kept {b : Nat} {l : List UInt8} {f : Int} {w w' : World} (h : XAt b l f w) (k : Below w.heap.size w w') : XAt b l f w' := ⟨h.le, by rw [k.block b (lt_of_block h.at_)]; exact h.at_⟩

theorem xfail_any (p : Value) (e : Int) (l : List UInt8) (f : Int) (w : World) (h : XR p l f w) :
    Calls Try.prog 56 #[p, .int .i64 e] w fun r w' => r = .returned (.tuple #[]) ∧ XrTo p (failS e l f) w w' := by
  obtain ⟨b, rfl, hl, hb⟩ := h.out
  have hx : XAt b l f w := ⟨hl, hb⟩
  obtain ⟨_, c1, _, z1⟩ := hx.cells
  have HX := keep hx
  clear h hb hl hx
  by_cases h0 : f = 0
  · subst h0
    have HV : Keep (failS e l 0 = (l, e)) := ⟨by unfold failS; rw [if_pos rfl]⟩
    go_enter Try.func56, Try.ntmps56
    go_wp2
    go_end0
    exact ⟨rfl, by rw [HV.out]; exact (HX.out.setE e).xr, (Kept.refl _ _).setCell (.inl rfl) _⟩
  · have HV : Keep (failS e l f = (l, f)) := ⟨by unfold failS; rw [if_neg h0]⟩
    have hf : (f == 0) = false := by simpa using h0
    clear h0
    go_enter Try.func56, Try.ntmps56
    go_wp2
    go_end0
    exact ⟨rfl, by rw [HV.out]; exact HX.out.xr, Kept.refl _ _⟩

theorem xFail_any (p : Value) (e : Int) (l : List UInt8) (f : Int) (w : World) (h : XR p l f w) :
    Calls Try.prog 44 #[p, .int .i64 e] w fun r w' => r = .returned (.tuple #[]) ∧ XrTo p (failS e l f) w w' := by
  have HC := keep (xfail_any p e l f w h)
  clear h
  go_enter Try.func44, Try.ntmps44
  go_wp2_with fail
  refine HC.out.mono ?_
  rintro e w1 ⟨rfl, hR⟩
  have HR := keep hR
  clear hR
  go_wp2_with fail
  go_end0
  exact ⟨rfl, HR.out⟩

theorem getV_str (l : List UInt8) : getV (str l) 0 = if headE l = 0 then (headU l, (getL l 0 0).2.1, 0) else (0, 0, headE l) := by
  rw [getV_head]; simp only [str_data, List.drop_zero, Nat.zero_add]
theorem str_from (l : List UInt8) (k : Nat) : (str l).extract k (str l).size = str (l.drop k) := by
  apply extract_str
  rw [str_data, str_size]
  exact List.take_of_length_le (by simp)
theorem str_upto (l : List UInt8) (k : Nat) : (str l).extract 0 k = str (l.take k) := by
  apply extract_str
  rw [str_data]; simp

set_option maxHeartbeats 400000 in
theorem xnum_any (p : Value) (l : List UInt8) (f : Int) (w : World) (h : XR p l f w) :
    Calls Try.prog 36 #[p] w fun e w' => e = .returned (.int .u64 (numV l f)) ∧ XrTo p (numS l f) w w' := by
  obtain ⟨b, rfl, hl, hb⟩ := h.out
  have hx : XAt b l f w := ⟨hl, hb⟩
  obtain ⟨c0, c1, z0, z1⟩ := hx.cells
  have HX := keep hx
  by_cases h0 : f = 0
  · subst h0
    have hg := refGet_any (str l) 0 w (by rw [str_size]; exact hl)
    rw [show (0 : Int) = ((0 : Nat) : Int) from rfl, getI_in (Nat.zero_le _), getV_str] at hg
    by_cases hE : headE l = 0
    · have HV : Keep (numV l 0 = headU l ∧ numS l 0 = (headL l, 0)) := ⟨by unfold numV numS; rw [if_pos rfl, if_pos rfl, hE]; exact ⟨rfl, rfl⟩⟩
      rw [if_pos hE] at hg
      have hk : (getL l 0 0).2.1 ≤ l.length := by
        rcases getL_three l 0 0 with ⟨_, _, _, h3⟩ | ⟨h0, _⟩
        · omega
        · exact absurd hE h0
      have HL : Keep ((str l).extract (getL l 0 0).2.1 (str l).size = str (headL l)) := ⟨str_from _ _⟩
      have HLL : Keep ((headL l).length ≤ l.length) := ⟨by have := headL_lt hE; omega⟩
      have HS : Keep ((str l).size = l.length) := ⟨str_size l⟩
      generalize (getL l 0 0).2.1 = k at *
      generalize headU l = u at *
      generalize hsl : str l = s at *
      have hks : k ≤ s.size := by rw [HS.out]; exact hk
      have hsz : s.size ≤ 1000000 := by rw [HS.out]; exact hl
      have HSL := keep hsl
      have HG := keep hg
      clear h hb hl hx hE hk hg hsl
      go_enter Try.func36, Try.ntmps36
      go_wp2_with fail
      refine HG.out.mono ?_
      rintro e w1 ⟨rfl, hR⟩
      unfold agg3
      have hlt := lt_of_block HX.out.at_
      have c0' := (hR.cell (p := ⟨b, 0, none⟩) hlt).trans c0
      have z0' := (hR.frozen (p := ⟨b, 0, none⟩) hlt).trans z0
      have HR := keep hR
      have HLT := keep hlt
      clear hR hlt c0 c1 z0 z1
      go_wp2_with fail
      have HB2 : Keep (∀ v, Below w.heap.size w (w1.alloc (.cells v 74))) := ⟨fun v => HR.out.alloc HR.out.size _⟩
      have g1 : (w1.alloc (.cells #[.int .u64 u, .int .i64 k, .int .i64 0] 74)).cell? ⟨w1.heap.size, 0, none⟩ = some (.int .u64 u) := cell_of_block (heap_alloc_new w1 _) 0
      have g2 : (w1.alloc (.cells #[.int .u64 u, .int .i64 k, .int .i64 0] 74)).cell? ⟨w1.heap.size, 1, none⟩ = some (.int .i64 k) := cell_of_block (heap_alloc_new w1 _) 1
      have g3 : (w1.alloc (.cells #[.int .u64 u, .int .i64 k, .int .i64 0] 74)).cell? ⟨b, 0, none⟩ = some (.string s) := ((Below.refl _ w1).alloc (Nat.le_refl _) _ |>.cell (p := ⟨b, 0, none⟩) (Nat.lt_of_lt_of_le HLT.out HR.out.size)).trans c0'
      have g4 : (w1.alloc (.cells #[.int .u64 u, .int .i64 k, .int .i64 0] 74)).frozen? ⟨b, 0, none⟩ = false := ((Below.refl _ w1).alloc (Nat.le_refl _) _ |>.frozen (p := ⟨b, 0, none⟩) (Nat.lt_of_lt_of_le HLT.out HR.out.size)).trans z0'
      have HBW := HB2.out #[.int .u64 u, .int .i64 k, .int .i64 0]
      have hne : b ≠ w1.heap.size := by have := HR.out.size; have := HLT.out; omega
      generalize w1.alloc (.cells #[.int .u64 u, .int .i64 k, .int .i64 0] 74) = W at *
      have HBK := keep HBW
      clear HBW HB2 c0' z0'
      go_region_with (fail)
      all_goals
        go_wp2_with fail
        go_ret
        rw [HV.out.1, HV.out.2]
        exact ⟨rfl, (XAt.setS (w := W.drew) ⟨(HX.out.kept HBK.out).le, (HX.out.kept HBK.out).at_⟩ HLL.out HL.out).xr, ((Kept.of HBK.out).drew).setCell (.inl rfl) _⟩
    · have HV : Keep (numV l 0 = 0 ∧ numS l 0 = (l, (headE l : Int))) := ⟨by unfold numV numS; rw [if_pos rfl, if_pos rfl]; exact ⟨(headE_bad hE).1, by rw [(headE_bad hE).2.1]⟩⟩
      rw [if_neg hE] at hg
      have HG := keep hg
      have hE' : ((headE l : Int) != 0) = true := by simp; omega
      have HF := keep (fun w' (h : XR (.pointer (some ⟨b, 0, none⟩)) l 0 w') => xfail_any (.pointer (some ⟨b, 0, none⟩)) (headE l) l 0 w' h)
      have HE := keep hE
      clear h hb hl hx hE hg
      generalize hee : (headE l : Int) = ee at *
      have HEE := keep hee
      generalize hsl : str l = s at *
      have HSL := keep hsl
      clear hee hsl
      go_enter Try.func36, Try.ntmps36
      go_wp2_with fail
      refine HG.out.mono ?_
      rintro e w1 ⟨rfl, hR⟩
      unfold agg3
      have HR := keep hR
      have HLT := keep (lt_of_block HX.out.at_)
      clear hR c0 c1 z0 z1
      simp only [HEE.out]
      go_wp2_with fail
      have HX1 := keep (((HX.out.kept HR.out).kept (below_alloc1 w1 (.cells #[.int .u64 0, .int .i64 0, .int .i64 ee] 74))).xr)
      have HK1 : Keep (Kept (.pointer (some ⟨b, 0, none⟩)) w (w1.alloc (.cells #[.int .u64 0, .int .i64 0, .int .i64 ee] 74))) := ⟨(Kept.of HR.out).alloc _⟩
      refine (HF.out _ HX1.out).mono ?_
      rintro e w2 ⟨rfl, hR2⟩
      have HR2 := keep hR2
      clear hR2
      go_wp2_with fail
      go_ret
      rw [HV.out.1, HV.out.2]
      have e1 : failS ee l 0 = (l, ee) := by unfold failS; rw [if_pos rfl]
      have h2 := HR2.out
      rw [e1] at h2
      exact ⟨rfl, h2.1, HK1.out.trans h2.2⟩
  · have HV : Keep (numV l f = 0 ∧ numS l f = (l, f)) := ⟨by unfold numV numS; rw [if_neg h0, if_neg h0]; exact ⟨rfl, rfl⟩⟩
    have hf : (f != 0) = true := by simpa using h0
    clear h hb hl hx h0
    go_enter Try.func36, Try.ntmps36
    go_wp2_with fail
    go_ret
    exact ⟨ret_int (by rw [HV.out.1]; rfl), by rw [HV.out.2]; exact HX.out.xr, Kept.refl _ _⟩

theorem xint_any (p : Value) (l : List UInt8) (f : Int) (w : World) (h : XR p l f w) :
    Calls Try.prog 37 #[p] w fun e w' => e = .returned (.int .i64 (zag (numV l f))) ∧ XrTo p (numS l f) w w' := by
  have HC := keep (xnum_any p l f w h)
  have hb := numV_bd l f
  have HZ := keep (fun w' => refZag_any (numV l f) w' hb.1 hb.2)
  clear h hb
  generalize (numV l f : Int) = u at *
  go_enter Try.func37, Try.ntmps37
  go_wp2_with fail
  refine HC.out.mono ?_
  rintro e w1 ⟨rfl, hR⟩
  have HR := keep hR
  clear hR
  go_wp2_with fail
  refine (HZ.out w1).mono ?_
  rintro e w' ⟨rfl, rfl⟩
  go_wp2_with fail
  go_ret
  exact ⟨rfl, HR.out⟩
end Go.Proofs.Ytafeahjhdjcimaa
