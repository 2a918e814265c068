/-
  The document's part of a term: brackets.
-/
import Derived.Test.YtglmcjplglgnlaaTermD
namespace Go.Proofs.Ytglmcjplglgnlaa
open Go.RowKit Go.Joins

set_option maxRecDepth 100000 in
set_option maxHeartbeats 8000000 in
theorem rone_brk (ts : List Tok) (tv : Value) (f : Nat) (hlen : ts.length ≤ 1000) (HL : RLevOk ts tv f) (i d : Nat) (w : World) (S : ByteArray) (V A : Int) (s0 : S = str [40]) (hi : i < ts.length) (h24 : d < 24) (hf : 8 * (ts.length - i) ≤ f) (h : TkRow w.heap.size w tv ts) (ht : tokAt ts i = ⟨4, S, V, A⟩) :
    Calls Try.prog 29 #[tv, .int .i64 (i : Int), .int .i64 (d : Int)] w fun e w' => GotTo (brk ts f i (d + 1)) w e w' := by
  obtain ⟨o, cap, rfl, -⟩ := h.form
  have HTK := keep h
  have HTOK := keep (fun W (h : TkRow W.heap.size W (.slice o ts.length cap) ts) => rtok_any (.slice o ts.length cap) ts i W h)
  have HB0 := keep ((Below.refl _ w).alloc (Nat.le_refl _) (.cells #[.slice none 0 0, .int .i64 0, .int .i64 0] 30))
  have HR0 := keep (BoxL.new w [.slice none 0 0, .int .i64 0, .int .i64 0] 30)
  have HTOK2 := keep (fun a W (h : TkRow W.heap.size W (.slice o ts.length cap) ts) => rtok_any (.slice o ts.length cap) ts a W h)
  have hfit := (fits_all ts f).1 (i + 1) 1 (d + 1)
  have hbad := (bad_all ts f).1 (i + 1) 1 (d + 1)
  rw [ht] at HTOK
  obtain ⟨n, hn⟩ : ∃ n, n = ts.length := ⟨_, rfl⟩
  have HLEN := keep hlen
  have hiI : (i : Int) < 1000 := by omega
  have hdI : (d : Int) < 24 := by omega
  have hb24 : ((d : Int) == 24) = false := by rw [beq_eq_false_iff_ne]; omega
  rw [← hn] at HTK HTOK HTOK2 HL ⊢
  simp only [Tok.agg] at HTOK
  have q0 : (S.toList == [45]) = false := by rw [s0, toList_str]; rfl
  have q0' : (S.toList != [45]) = true := by rw [bne, q0]; rfl
  have q1 : (S.toList == [33]) = false := by rw [s0, toList_str]; rfl
  have q1' : (S.toList != [33]) = true := by rw [bne, q1]; rfl
  have q2 : (S.toList == [40]) = true := by rw [s0, toList_str]; rfl
  have q2' : (S.toList != [40]) = false := by rw [bne, q2]; rfl
  have HC := keep (fun W (h : TkRow W.heap.size W (.slice o n cap) ts) => show Calls Try.prog 19 #[.slice o n cap, .int .i64 ((i : Int) + 1), .int .i64 1, .int .i64 ((d : Int) + 1)] W fun e w' => GotTo (lev ts f (i + 1) 1 (d + 1)) W e w' from HL (i + 1) 1 (d + 1) W (by omega) (by omega) (by omega) (by omega) h)
  obtain ⟨RB, hRB⟩ : ∃ RB, brk ts f i (d + 1) = RB := ⟨_, rfl⟩
  rw [hRB]
  unfold brk at hRB
  obtain ⟨R, hR⟩ : ∃ R, lev ts f (i + 1) 1 (d + 1) = R := ⟨_, rfl⟩
  obtain ⟨m, a, E⟩ := R
  rw [hR] at hRB HC hfit hbad
  simp only at hRB
  clear HL hf h hlen ht hn s0 h24 hR
  by_cases hE : E = 0
  · subst hE
    rw [if_neg (by simp)] at hRB
    obtain ⟨k1, k2, k3⟩ := hfit rfl
    simp only at k1 k2 k3
    have HM := keep (show m.length ≤ 1000 ∧ a ≤ 1000 from ⟨by have := HLEN.out; omega, by have := HLEN.out; omega⟩)
    have haI : (a : Int) ≤ 1000 := by have := HM.out; omega
    replace HTOK2 := keep (fun W h => HTOK2.out a W h)
    obtain ⟨t2, ht2⟩ : ∃ t2, tokAt ts a = t2 := ⟨_, rfl⟩
    rw [ht2] at HTOK2 hRB
    obtain ⟨K2, S2, V2, A2⟩ := t2
    simp only [Tok.agg] at HTOK2
    clear hfit hbad k1 k2 k3 hi ht2
    by_cases h4 : K2 = 4
    · subst h4
      by_cases s2 : S2 = str [41]
      · have p0 : (S2.toList == [41]) = true := by rw [s2, toList_str]; rfl
        have p0' : (S2.toList != [41]) = false := by rw [bne, p0]; rfl
        rw [if_pos (by simp [isOn, s2])] at hRB
        subst hRB
        clear s2
        go_enter Try.func29, Try.ntmps29
        go_wp2_with fail
        refine (HTOK.out _ (HTK.out.to HB0.out)).mono ?_
        rintro e w1 ⟨rfl, h1⟩
        have HB1 := keep (HB0.out.trans (h1.mono HB0.out.size))
        have HR1 := keep (HR0.out.to h1)
        have hwl : w.heap.size < w1.heap.size := HR1.out.lt
        have hx0 := HR1.out.row 0 _ rfl
        have hx1 := HR1.out.row 1 _ rfl
        have hx2 := HR1.out.row 2 _ rfl
        have hxf := HR1.out.free
        obtain ⟨hs0, hs1, hs2⟩ := HR1.out.put3
        have hsz := size_put3 w1 w.heap.size
        clear h1
        go_wp2_with fail
        have HB1' := keep (HB1.out.alloc HB1.out.size (.cells #[.int .i64 4, .string S, .int .i64 V, .int .i64 A] 51))
        have HCW := keep (HC.out _ (HTK.out.to HB1'.out))
        have HR1' := keep (HR1.out.alloc (.cells #[.int .i64 4, .string S, .int .i64 V, .int .i64 A] 51))
        clear hx0 hx1 hx2 hxf hs0 hs1 hs2 hsz
        refine HCW.out.mono ?_
        rintro e w2 ⟨v, rfl, hv, h2⟩
        simp only at hv
        obtain ⟨vo, vc, rfl⟩ := hv.form
        have HV := keep (hv.mono (lo' := w.heap.size + 1) (by simp; omega))
        have HB2 := keep (HB1'.out.trans (h2.mono HB1'.out.size))
        have HR2 := keep (HR1'.out.to h2)
        have hwl2 : w.heap.size < w2.heap.size := HR2.out.lt
        have hx0 := HR2.out.row 0 _ rfl
        have hx1 := HR2.out.row 1 _ rfl
        have hx2 := HR2.out.row 2 _ rfl
        have hxf := HR2.out.free
        clear hv HCW HC
        have hmI : (m.length : Int) ≤ 1000 := by have := HM.out; omega
        obtain ⟨ml, hml⟩ : ∃ ml, ml = m.length := ⟨_, rfl⟩
        have HML := keep hml
        rw [← hml] at hmI HV ⊢
        clear hml
        have HB3 := keep (HB2.out.alloc HB2.out.size (.cells #[.slice vo ml vc, .int .i64 a, .int .i64 0] 30))
        have HR3 := keep (HR2.out.alloc (.cells #[.slice vo ml vc, .int .i64 a, .int .i64 0] 30))
        have HX3 := keep (BoxL.new w2 [.slice vo ml vc, .int .i64 a, .int .i64 0] 30)
        have HV3 := keep (HV.out.alloc (.cells #[.slice vo ml vc, .int .i64 a, .int .i64 0] 30))
        have HT2 := keep (HTOK2.out _ (HTK.out.to HB3.out))
        clear h2
        go_wp2_with fail
        refine HT2.out.mono ?_
        rintro e w3 ⟨rfl, h3⟩
        have HB4 := keep (HB3.out.trans (h3.mono HB3.out.size))
        have HR4 := keep (HR3.out.to h3)
        have HX4 := keep (HX3.out.to h3)
        have HV4 := keep (HV3.out.to h3)
        have hwl3 : w.heap.size < w3.heap.size := HR4.out.lt
        have hw23 : w2.heap.size < w3.heap.size := HX4.out.lt
        clear hx0 hx1 hx2 hxf h3
        have hx0 := HR4.out.row 0 _ rfl
        have hx1 := HR4.out.row 1 _ rfl
        have hx2 := HR4.out.row 2 _ rfl
        have hxf := HR4.out.free
        have y0 := HX4.out.row 0 _ rfl
        have y1 := HX4.out.row 1 _ rfl
        obtain ⟨hs0, hs1, hs2⟩ := HR4.out.put3
        have hsz := size_put3 w3 w.heap.size
        go_wp2_with fail
        refine bodyPost_ret (v := .agg #[.slice vo ml vc, .int .i64 ((a : Int) + 1), .int .i64 0]) ?_ rfl ⟨_, rfl, ((HV4.out.mono (Nat.le_succ _)).put3 w.heap.size (fun c => by have := (HV4.out.lt _ c).1; omega) _ _ _).alloc _, (below_put3 HB4.out (Nat.le_refl _) _ _ _).alloc (by rw [hsz]; omega) _⟩
        simp [results, Try.results29, go_sem, hs0, hs1, hs2, hsz, hwl3]
      · have p0 : (S2.toList == [41]) = false := by have := beq_no s2; rwa [toList_str] at this
        have p0' : (S2.toList != [41]) = true := by rw [bne, p0]; rfl
        rw [if_neg (by simp [isOn, s2])] at hRB
        subst hRB
        clear s2
        go_enter Try.func29, Try.ntmps29
        go_wp2_with fail
        refine (HTOK.out _ (HTK.out.to HB0.out)).mono ?_
        rintro e w1 ⟨rfl, h1⟩
        have HB1 := keep (HB0.out.trans (h1.mono HB0.out.size))
        have HR1 := keep (HR0.out.to h1)
        have hwl : w.heap.size < w1.heap.size := HR1.out.lt
        have hx0 := HR1.out.row 0 _ rfl
        have hx1 := HR1.out.row 1 _ rfl
        have hx2 := HR1.out.row 2 _ rfl
        have hxf := HR1.out.free
        obtain ⟨hs0, hs1, hs2⟩ := HR1.out.put3
        have hsz := size_put3 w1 w.heap.size
        clear h1
        go_wp2_with fail
        have HB1' := keep (HB1.out.alloc HB1.out.size (.cells #[.int .i64 4, .string S, .int .i64 V, .int .i64 A] 51))
        have HCW := keep (HC.out _ (HTK.out.to HB1'.out))
        have HR1' := keep (HR1.out.alloc (.cells #[.int .i64 4, .string S, .int .i64 V, .int .i64 A] 51))
        clear hx0 hx1 hx2 hxf hs0 hs1 hs2 hsz
        refine HCW.out.mono ?_
        rintro e w2 ⟨v, rfl, hv, h2⟩
        simp only at hv
        obtain ⟨vo, vc, rfl⟩ := hv.form
        have HV := keep (hv.mono (lo' := w.heap.size + 1) (by simp; omega))
        have HB2 := keep (HB1'.out.trans (h2.mono HB1'.out.size))
        have HR2 := keep (HR1'.out.to h2)
        have hwl2 : w.heap.size < w2.heap.size := HR2.out.lt
        have hx0 := HR2.out.row 0 _ rfl
        have hx1 := HR2.out.row 1 _ rfl
        have hx2 := HR2.out.row 2 _ rfl
        have hxf := HR2.out.free
        clear hv HCW HC
        have hmI : (m.length : Int) ≤ 1000 := by have := HM.out; omega
        obtain ⟨ml, hml⟩ : ∃ ml, ml = m.length := ⟨_, rfl⟩
        have HML := keep hml
        rw [← hml] at hmI HV ⊢
        clear hml
        have HB3 := keep (HB2.out.alloc HB2.out.size (.cells #[.slice vo ml vc, .int .i64 a, .int .i64 0] 30))
        have HR3 := keep (HR2.out.alloc (.cells #[.slice vo ml vc, .int .i64 a, .int .i64 0] 30))
        have HX3 := keep (BoxL.new w2 [.slice vo ml vc, .int .i64 a, .int .i64 0] 30)
        have HV3 := keep (HV.out.alloc (.cells #[.slice vo ml vc, .int .i64 a, .int .i64 0] 30))
        have HT2 := keep (HTOK2.out _ (HTK.out.to HB3.out))
        clear h2
        go_wp2_with fail
        refine HT2.out.mono ?_
        rintro e w3 ⟨rfl, h3⟩
        have HB4 := keep (HB3.out.trans (h3.mono HB3.out.size))
        have HR4 := keep (HR3.out.to h3)
        have HX4 := keep (HX3.out.to h3)
        have HV4 := keep (HV3.out.to h3)
        have hwl3 : w.heap.size < w3.heap.size := HR4.out.lt
        have hw23 : w2.heap.size < w3.heap.size := HX4.out.lt
        clear hx0 hx1 hx2 hxf h3
        have hx0 := HR4.out.row 0 _ rfl
        have hx1 := HR4.out.row 1 _ rfl
        have hx2 := HR4.out.row 2 _ rfl
        have hxf := HR4.out.free
        have y0 := HX4.out.row 0 _ rfl
        have y1 := HX4.out.row 1 _ rfl
        obtain ⟨hs0, hs1, hs2⟩ := HR4.out.put3
        have hsz := size_put3 w3 w.heap.size
        go_wp2_with fail
        refine bodyPost_ret (v := .agg #[.slice none 0 0, .int .i64 a, .int .i64 11]) ?_ rfl ⟨_, rfl, NIn.nil _ _, (below_put3 HB4.out (Nat.le_refl _) _ _ _).alloc (by rw [hsz]; omega) _⟩
        simp [results, Try.results29, go_sem, hs0, hs1, hs2, hsz, hwl3]
    · have b4 : (K2 == 4) = false := by simpa using h4
      have b4' : (K2 != 4) = true := by simpa using h4
      rw [if_neg (by simp [isOn, h4])] at hRB
      subst hRB
      clear h4
      go_enter Try.func29, Try.ntmps29
      go_wp2_with fail
      refine (HTOK.out _ (HTK.out.to HB0.out)).mono ?_
      rintro e w1 ⟨rfl, h1⟩
      have HB1 := keep (HB0.out.trans (h1.mono HB0.out.size))
      have HR1 := keep (HR0.out.to h1)
      have hwl : w.heap.size < w1.heap.size := HR1.out.lt
      have hx0 := HR1.out.row 0 _ rfl
      have hx1 := HR1.out.row 1 _ rfl
      have hx2 := HR1.out.row 2 _ rfl
      have hxf := HR1.out.free
      obtain ⟨hs0, hs1, hs2⟩ := HR1.out.put3
      have hsz := size_put3 w1 w.heap.size
      clear h1
      go_wp2_with fail
      have HB1' := keep (HB1.out.alloc HB1.out.size (.cells #[.int .i64 4, .string S, .int .i64 V, .int .i64 A] 51))
      have HCW := keep (HC.out _ (HTK.out.to HB1'.out))
      have HR1' := keep (HR1.out.alloc (.cells #[.int .i64 4, .string S, .int .i64 V, .int .i64 A] 51))
      clear hx0 hx1 hx2 hxf hs0 hs1 hs2 hsz
      refine HCW.out.mono ?_
      rintro e w2 ⟨v, rfl, hv, h2⟩
      simp only at hv
      obtain ⟨vo, vc, rfl⟩ := hv.form
      have HV := keep (hv.mono (lo' := w.heap.size + 1) (by simp; omega))
      have HB2 := keep (HB1'.out.trans (h2.mono HB1'.out.size))
      have HR2 := keep (HR1'.out.to h2)
      have hwl2 : w.heap.size < w2.heap.size := HR2.out.lt
      have hx0 := HR2.out.row 0 _ rfl
      have hx1 := HR2.out.row 1 _ rfl
      have hx2 := HR2.out.row 2 _ rfl
      have hxf := HR2.out.free
      clear hv HCW HC
      have hmI : (m.length : Int) ≤ 1000 := by have := HM.out; omega
      obtain ⟨ml, hml⟩ : ∃ ml, ml = m.length := ⟨_, rfl⟩
      have HML := keep hml
      rw [← hml] at hmI HV ⊢
      clear hml
      have HB3 := keep (HB2.out.alloc HB2.out.size (.cells #[.slice vo ml vc, .int .i64 a, .int .i64 0] 30))
      have HR3 := keep (HR2.out.alloc (.cells #[.slice vo ml vc, .int .i64 a, .int .i64 0] 30))
      have HX3 := keep (BoxL.new w2 [.slice vo ml vc, .int .i64 a, .int .i64 0] 30)
      have HV3 := keep (HV.out.alloc (.cells #[.slice vo ml vc, .int .i64 a, .int .i64 0] 30))
      have HT2 := keep (HTOK2.out _ (HTK.out.to HB3.out))
      clear h2
      go_wp2_with fail
      refine HT2.out.mono ?_
      rintro e w3 ⟨rfl, h3⟩
      have HB4 := keep (HB3.out.trans (h3.mono HB3.out.size))
      have HR4 := keep (HR3.out.to h3)
      have HX4 := keep (HX3.out.to h3)
      have HV4 := keep (HV3.out.to h3)
      have hwl3 : w.heap.size < w3.heap.size := HR4.out.lt
      have hw23 : w2.heap.size < w3.heap.size := HX4.out.lt
      clear hx0 hx1 hx2 hxf h3
      have hx0 := HR4.out.row 0 _ rfl
      have hx1 := HR4.out.row 1 _ rfl
      have hx2 := HR4.out.row 2 _ rfl
      have hxf := HR4.out.free
      have y0 := HX4.out.row 0 _ rfl
      have y1 := HX4.out.row 1 _ rfl
      obtain ⟨hs0, hs1, hs2⟩ := HR4.out.put3
      have hsz := size_put3 w3 w.heap.size
      go_wp2_with fail
      refine bodyPost_ret (v := .agg #[.slice none 0 0, .int .i64 a, .int .i64 11]) ?_ rfl ⟨_, rfl, NIn.nil _ _, (below_put3 HB4.out (Nat.le_refl _) _ _ _).alloc (by rw [hsz]; omega) _⟩
      simp [results, Try.results29, go_sem, hs0, hs1, hs2, hsz, hwl3]
  · rw [if_pos hE] at hRB
    subst hRB
    have hm0 : m = [] := hbad hE
    subst hm0
    have bE : (E == 0) = false := by simpa using hE
    have bE' : (E != 0) = true := by simpa using hE
    clear hfit hbad hE hi
    go_enter Try.func29, Try.ntmps29
    go_wp2_with fail
    refine (HTOK.out _ (HTK.out.to HB0.out)).mono ?_
    rintro e w1 ⟨rfl, h1⟩
    have HB1 := keep (HB0.out.trans (h1.mono HB0.out.size))
    have HR1 := keep (HR0.out.to h1)
    have hwl : w.heap.size < w1.heap.size := HR1.out.lt
    have hx0 := HR1.out.row 0 _ rfl
    have hx1 := HR1.out.row 1 _ rfl
    have hx2 := HR1.out.row 2 _ rfl
    have hxf := HR1.out.free
    obtain ⟨hs0, hs1, hs2⟩ := HR1.out.put3
    have hsz := size_put3 w1 w.heap.size
    clear h1
    go_wp2_with fail
    have HB1' := keep (HB1.out.alloc HB1.out.size (.cells #[.int .i64 4, .string S, .int .i64 V, .int .i64 A] 51))
    have HCW := keep (HC.out _ (HTK.out.to HB1'.out))
    have HR1' := keep (HR1.out.alloc (.cells #[.int .i64 4, .string S, .int .i64 V, .int .i64 A] 51))
    clear hx0 hx1 hx2 hxf hs0 hs1 hs2 hsz
    refine HCW.out.mono ?_
    rintro e w2 ⟨v, rfl, hv, h2⟩
    simp only at hv
    obtain ⟨vo, vc, rfl⟩ := hv.form
    have HV := keep (hv.mono (lo' := w.heap.size + 1) (by simp; omega))
    have HB2 := keep (HB1'.out.trans (h2.mono HB1'.out.size))
    have HR2 := keep (HR1'.out.to h2)
    have hwl2 : w.heap.size < w2.heap.size := HR2.out.lt
    have hx0 := HR2.out.row 0 _ rfl
    have hx1 := HR2.out.row 1 _ rfl
    have hx2 := HR2.out.row 2 _ rfl
    have hxf := HR2.out.free
    obtain ⟨hs0, hs1, hs2⟩ := HR2.out.put3
    have hsz := size_put3 w2 w.heap.size
    clear hv h2 HCW HC
    simp only [List.length_nil] at *
    go_wp2_with fail
    refine bodyPost_ret (v := .agg #[.slice vo 0 vc, .int .i64 a, .int .i64 E]) ?_ rfl ⟨_, rfl, ((HV.out.mono (Nat.le_succ _)).put3 w.heap.size (fun c => by have := (HV.out.lt _ c).1; omega) _ _ _).alloc _, (below_put3 HB2.out (Nat.le_refl _) _ _ _).alloc (by rw [hsz]; exact HB2.out.size) _⟩
    simp [results, Try.results29, go_sem, hs0, hs1, hs2, hsz, hwl2]
end Go.Proofs.Ytglmcjplglgnlaa
