/-
  The document's reader: Raw, Upto, Text, Bool, End.
-/
import Derived.Test.YtafeahjhdjcimaaWireX
namespace Go.Proofs.Ytafeahjhdjcimaa
open Go.RowKit Go.Joins

set_option maxHeartbeats 400000 in
theorem xraw_any (p : Value) (n : Int) (l : List UInt8) (f : Int) (w : World) (h : XR p l f w) :
    Calls Try.prog 40 #[p, .int .i64 n] w fun e w' => e = .returned (.string (str (rawV n l f))) ∧ XrTo p (rawS n l f) w w' := by
  obtain ⟨b, rfl, hl, hb⟩ := h.out
  have hx : XAt b l f w := ⟨hl, hb⟩
  obtain ⟨c0, c1, z0, z1⟩ := hx.cells
  have HX := keep hx
  by_cases h0 : f = 0
  · subst h0
    have HF := keep (fun e => xfail_any (.pointer (some ⟨b, 0, none⟩)) e l 0 w h)
    have HFS : ∀ e, Keep (failS e l 0 = (l, e)) := fun e => ⟨by unfold failS; rw [if_pos rfl]⟩
    have hsz := str_size l
    by_cases h1 : n < 0
    · have HV : Keep (rawV n l 0 = [] ∧ rawS n l 0 = (l, 1)) := ⟨by unfold rawV rawS; rw [if_neg (by omega), if_pos rfl, if_pos h1]; exact ⟨rfl, rfl⟩⟩
      clear h hb hl hx hsz
      generalize str l = s at *
      go_enter Try.func40, Try.ntmps40
      go_wp2_with fail
      refine (HF.out 1).mono ?_
      rintro e w1 ⟨rfl, hR⟩
      rw [(HFS 1).out] at hR
      have HR := keep hR
      clear hR
      go_wp2_with fail
      go_ret
      rw [HV.out.1, HV.out.2]
      exact ⟨rfl, HR.out⟩
    · obtain ⟨k, rfl⟩ := Int.eq_ofNat_of_zero_le (show 0 ≤ n by omega)
      by_cases h2 : k ≤ l.length
      · have HV : Keep (rawV k l 0 = l.take k ∧ rawS k l 0 = (l.drop k, 0)) := ⟨by unfold rawV rawS; rw [if_pos ⟨rfl, by omega, by omega⟩, if_pos rfl, if_neg h1, if_pos (by omega), Int.toNat_natCast]; exact ⟨rfl, rfl⟩⟩
        have HL : Keep ((str l).extract k (str l).size = str (l.drop k)) := ⟨str_from _ _⟩
        have HT : Keep ((str l).extract 0 k = str (l.take k)) := ⟨str_upto _ _⟩
        have hk : k ≤ (str l).size := by omega
        have hz : (str l).size ≤ 1000000 := by omega
        clear h hb hl hx hsz h2
        generalize hs : str l = s at *
        have HSS := keep hs
        clear hs
        go_enter Try.func40, Try.ntmps40
        go_wp2_with fail
        go_ret
        rw [HV.out.1, HV.out.2]
        exact ⟨ret_str HT.out, (HX.out.setS (by simp) HL.out).xr, (Kept.refl _ _).setCell (.inl rfl) _⟩
      · have HV : Keep (rawV k l 0 = [] ∧ rawS k l 0 = (l, 2)) := ⟨by unfold rawV rawS; rw [if_neg (fun c => by omega), if_pos rfl, if_neg h1, if_neg (by omega)]; exact ⟨rfl, rfl⟩⟩
        have hk : (str l).size < k := by omega
        clear h hb hl hx hsz h2
        generalize str l = s at *
        go_enter Try.func40, Try.ntmps40
        go_wp2_with fail
        refine (HF.out 2).mono ?_
        rintro e w1 ⟨rfl, hR⟩
        rw [(HFS 2).out] at hR
        have HR := keep hR
        clear hR
        go_wp2_with fail
        go_ret
        rw [HV.out.1, HV.out.2]
        exact ⟨rfl, HR.out⟩
  · obtain ⟨e1, e2⟩ := rawV_cases n l f h0
    have HV : Keep (rawV n l f = [] ∧ rawS n l f = (l, f)) := ⟨e1, e2⟩
    have hf : (f != 0) = true := by simpa using h0
    clear h hb hl hx h0 e1 e2
    generalize str l = s at *
    go_enter Try.func40, Try.ntmps40
    go_wp2_with fail
    go_ret
    rw [HV.out.1, HV.out.2]
    exact ⟨rfl, HX.out.xr, Kept.refl _ _⟩

theorem XR.at_ {b : Nat} {l : List UInt8} {f : Int} {w : World} (h : XR (.pointer (some ⟨b, 0, none⟩)) l f w) : XAt b l f w := by
  obtain ⟨b', e, hl, hb⟩ := h.out
  cases e
  exact ⟨hl, hb⟩
theorem XAt.setT {b : Nat} {l l' : List UInt8} {f : Int} {w : World} (h : XAt b l f w) (hl : l'.length ≤ 1000000) {s : ByteArray} (hs : str l' = s) : XAt b l' f (w.setCell ⟨b, 0, none⟩ (.string s)) :=
  ⟨hl, by rw [block_setCell h.at_, ← hs]; rfl⟩

set_option maxHeartbeats 400000 in
theorem xupto_any (p : Value) (m : Int) (l : List UInt8) (f : Int) (w : World) (h : XR p l f w) (hn0 : -9223372036854775808 ≤ m) (hn1 : m ≤ 9223372036854775807) :
    Calls Try.prog 43 #[p, .int .i64 m] w fun e w' => e = .returned (.int .i64 (uptoV m l f)) ∧ XrTo p (uptoS m l f) w w' := by
  obtain ⟨b, rfl, hl, hb⟩ := h.out
  have hx : XAt b l f w := ⟨hl, hb⟩
  obtain ⟨c0, c1, z0, z1⟩ := hx.cells
  have HX := keep hx
  have HC := keep (xnum_any _ l f w h)
  have HLE := keep hl
  by_cases hf : f = 0 ∧ headE l = 0
  · obtain ⟨rfl, hE⟩ := hf
    have e1 : numV l 0 = headU l := by unfold numV; rw [if_pos rfl]
    have e2 : numS l 0 = (headL l, 0) := by unfold numS; rw [if_pos rfl, hE]; rfl
    rw [e1, e2] at HC
    have hbd := headU_bdI l
    have HF := keep (fun w' (h : XR (.pointer (some ⟨b, 0, none⟩)) l 0 w') => xfail_any (.pointer (some ⟨b, 0, none⟩)) 6 l 0 w' h)
    have HFS : Keep (failS 6 l 0 = (l, 6)) := ⟨by unfold failS; rw [if_pos rfl]⟩
    by_cases h1 : (headU l : Int) ≤ m
    · have HV : Keep (uptoV m l 0 = headU l ∧ uptoS m l 0 = (headL l, 0)) := ⟨by unfold uptoV uptoS; rw [if_pos ⟨rfl, hE, h1⟩, if_pos rfl, if_pos hE, if_pos h1]; exact ⟨rfl, rfl⟩⟩
      have h2 : 0 ≤ m := by omega
      have hw : IntKind.u64.wrap m = m := by rw [IntKind.wrap_u64]; omega
      have hi : IntKind.i64.wrap (headU l : Int) = headU l := by rw [IntKind.wrap_i64]; omega
      have h3 := hbd.1
      clear h hb hl hx hE e1 e2 hbd hn0 hn1
      generalize (headU l : Int) = u at *
      generalize hs : str l = s at *
      have HSS := keep hs
      clear hs
      go_enter Try.func43, Try.ntmps43
      go_wp2_with fail
      refine HC.out.mono ?_
      rintro e w1 ⟨rfl, hR⟩
      obtain ⟨d0, d1, y0, y1⟩ := hR.1.at_.cells
      have HR := keep hR
      clear hR c0 c1 z0 z1
      simp only at d0 d1
      generalize str (headL l) = s1 at *
      go_wp2_with fail
      go_ret
      rw [HV.out.1, HV.out.2]
      exact ⟨rfl, HR.out⟩
    · have HV : Keep (uptoV m l 0 = 0 ∧ uptoS m l 0 = (l, 6)) := ⟨by unfold uptoV uptoS; rw [if_neg (fun c => h1 c.2.2), if_pos rfl, if_pos hE, if_neg h1]; exact ⟨rfl, rfl⟩⟩
      by_cases h2 : m < 0
      · clear h hb hl hx hE e1 e2 hbd hn0 hn1 h1
        generalize (headU l : Int) = u at *
        generalize hs : str l = s at *
        have HSS := keep hs
        clear hs
        go_enter Try.func43, Try.ntmps43
        go_wp2_with fail
        refine HC.out.mono ?_
        rintro e w1 ⟨rfl, hR⟩
        obtain ⟨d0, d1, y0, y1⟩ := hR.1.at_.cells
        have HR := keep hR
        clear hR c0 c1 z0 z1
        simp only at d0 d1
        generalize str (headL l) = s1 at *
        go_wp2_with fail
        have HX2 := keep (HR.out.1.at_.setT HLE.out HSS.out)
        refine (HF.out _ HX2.out.xr).mono ?_
        rintro e w2 ⟨rfl, hR2⟩
        rw [HFS.out] at hR2
        have HR2 := keep hR2
        clear hR2
        go_wp2_with fail
        go_ret
        rw [HV.out.1, HV.out.2]
        exact ⟨rfl, HR2.out.1, (HR.out.2.setCell (.inl rfl) _).trans HR2.out.2⟩
      · have h3 : 0 ≤ m := by omega
        have h4 : m < (headU l : Int) := by omega
        have hw : IntKind.u64.wrap m = m := by rw [IntKind.wrap_u64]; omega
        clear h hb hl hx hE e1 e2 hbd hn0 hn1 h1 h2
        generalize (headU l : Int) = u at *
        generalize hs : str l = s at *
        have HSS := keep hs
        clear hs
        go_enter Try.func43, Try.ntmps43
        go_wp2_with fail
        refine HC.out.mono ?_
        rintro e w1 ⟨rfl, hR⟩
        obtain ⟨d0, d1, y0, y1⟩ := hR.1.at_.cells
        have HR := keep hR
        clear hR c0 c1 z0 z1
        simp only at d0 d1
        generalize str (headL l) = s1 at *
        go_wp2_with fail
        have HX2 := keep (HR.out.1.at_.setT HLE.out HSS.out)
        refine (HF.out _ HX2.out.xr).mono ?_
        rintro e w2 ⟨rfl, hR2⟩
        rw [HFS.out] at hR2
        have HR2 := keep hR2
        clear hR2
        go_wp2_with fail
        go_ret
        rw [HV.out.1, HV.out.2]
        exact ⟨rfl, HR2.out.1, (HR.out.2.setCell (.inl rfl) _).trans HR2.out.2⟩
  · have hns : (numS l f).2 ≠ 0 := by
      unfold numS
      by_cases h0 : f = 0
      · rw [if_pos h0]; intro c; exact hf ⟨h0, by simpa using c⟩
      · rw [if_neg h0]; exact h0
    have hnv : numV l f = 0 := by
      unfold numV
      by_cases h0 : f = 0
      · rw [if_pos h0]; exact (headE_bad (fun c => hf ⟨h0, c⟩)).1
      · rw [if_neg h0]
    have HV : Keep (uptoV m l f = 0 ∧ uptoS m l f = numS l f) := ⟨by
      unfold uptoV uptoS numS
      rw [if_neg (fun c => hf ⟨c.1, c.2.1⟩)]
      by_cases h0 : f = 0
      · have hE : headE l ≠ 0 := fun c => hf ⟨h0, c⟩
        rw [if_pos h0, if_neg hE, if_pos h0, (headE_bad hE).2.1]
        exact ⟨rfl, rfl⟩
      · rw [if_neg h0, if_neg h0]
        exact ⟨rfl, rfl⟩⟩
    rw [hnv] at HC
    have hf' : ((numS l f).2 == 0) = false := by simpa using hns
    clear h hb hl hx hf hns hnv hn0 hn1
    generalize numS l f = x at *
    obtain ⟨l1, f1⟩ := x
    generalize hs : str l = s at *
    have HSS := keep hs
    simp only at hf'
    clear hs
    go_enter Try.func43, Try.ntmps43
    go_wp2_with fail
    refine HC.out.mono ?_
    rintro e w1 ⟨rfl, hR⟩
    obtain ⟨d0, d1, y0, y1⟩ := hR.1.at_.cells
    have HR := keep hR
    clear hR c0 c1 z0 z1
    simp only at d0 d1
    generalize str l1 = s1 at *
    go_wp2_with fail
    go_ret
    rw [HV.out.1, HV.out.2]
    exact ⟨rfl, HR.out⟩

theorem xtext_any (p : Value) (m : Int) (l : List UInt8) (f : Int) (w : World) (h : XR p l f w) (hn0 : -9223372036854775808 ≤ m) (hn1 : m ≤ 9223372036854775807) :
    Calls Try.prog 39 #[p, .int .i64 m] w fun e w' => e = .returned (.string (str (textV m l f))) ∧ XrTo p (textS m l f) w w' := by
  have HC := keep (xupto_any p m l f w h hn0 hn1)
  clear h hn0 hn1
  unfold textV textS
  generalize uptoV m l f = n at *
  generalize uptoS m l f = x at *
  go_enter Try.func39, Try.ntmps39
  go_wp2_with fail
  refine HC.out.mono ?_
  rintro e w1 ⟨rfl, hR⟩
  have HR := keep hR
  clear hR
  go_wp2_with fail
  refine (xraw_any p n x.1 x.2 w1 HR.out.1).mono ?_
  rintro e w2 ⟨rfl, hR⟩
  have HR2 := keep hR
  clear hR
  go_wp2_with fail
  go_ret
  exact ⟨rfl, HR2.out.1, HR.out.2.trans HR2.out.2⟩

theorem xend_any (p : Value) (l : List UInt8) (f : Int) (w : World) (h : XR p l f w) :
    Calls Try.prog 16 #[p] w fun e w' => e = .returned (.int .i64 (endV l f)) ∧ w = w' := by
  obtain ⟨b, rfl, hl, hb⟩ := h.out
  obtain ⟨c0, c1, _, _⟩ := (⟨hl, hb⟩ : XAt b l f w).cells
  have hsz := str_size l
  by_cases h0 : f = 0
  · subst h0
    by_cases h1 : 0 < l.length
    · have HV : Keep (endV l 0 = 3) := ⟨by unfold endV; rw [if_pos ⟨rfl, h1⟩]⟩
      have h2 : 0 < ((str l).size : Int) := by omega
      clear h hl hb hsz h1
      generalize str l = s at *
      go_enter Try.func16, Try.ntmps16
      go_wp2_with fail
      go_ret
      exact ⟨ret_int HV.out.symm, rfl⟩
    · have HV : Keep (endV l 0 = 0) := ⟨by unfold endV; rw [if_neg (fun c => h1 c.2)]⟩
      have h2 : (str l).size = 0 := by omega
      clear h hl hb hsz h1
      generalize str l = s at *
      go_enter Try.func16, Try.ntmps16
      go_wp2_with fail
      go_ret
      exact ⟨ret_int HV.out.symm, rfl⟩
  · have HV : Keep (endV l f = f) := ⟨by unfold endV; rw [if_neg (fun c => h0 c.1)]⟩
    have hf : (f == 0) = false := by simpa using h0
    clear h hl hb hsz h0
    generalize str l = s at *
    go_enter Try.func16, Try.ntmps16
    go_wp2_with fail
    go_ret
    exact ⟨ret_int HV.out.symm, rfl⟩
end Go.Proofs.Ytafeahjhdjcimaa
