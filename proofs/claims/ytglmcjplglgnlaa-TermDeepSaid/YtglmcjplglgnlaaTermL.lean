/-
  The document's terms of a level; its Parse.
-/
import Derived.Test.YtglmcjplglgnlaaTermC
namespace Go.Proofs.Ytglmcjplglgnlaa
open Go.RowKit Go.Joins

theorem atOf_cell {w : World} {b a : Nat} (h : w.cell? ⟨b, 1, none⟩ = some (.int .i64 a)) : atOf b w = 2000 - a := by
  unfold atOf
  rw [h]
  simp

set_option maxHeartbeats 4000000 in
theorem rlev_six (ts : List Tok) (tv : Value) (f : Nat) (HO : ROneOk ts tv f) (i d : Nat) (w : World) (hd : d ≤ 24) (hf : 8 * (ts.length - i) + 2 ≤ f + 1) (h : TkRow w.heap.size w tv ts) :
    Calls Try.prog 19 #[tv, .int .i64 (i : Int), .int .i64 6, .int .i64 (d : Int)] w fun e w' => GotTo (lev ts (f + 1) i 6 d) w e w' := by
  rw [lev_six]
  obtain ⟨o, cap, rfl, -⟩ := h.form
  have HB0 := keep ((Below.refl _ w).alloc (Nat.le_refl _) (.cells #[.slice none 0 0, .int .i64 0, .int .i64 0] 30))
  have HR0 := keep (BoxL.new w [.slice none 0 0, .int .i64 0, .int .i64 0] 30)
  have HC := keep (HO i d _ hd (by omega) (h.to HB0.out))
  generalize one ts f i d = R at HC ⊢
  generalize ts.length = n at *
  clear HO hd hf h
  go_enter Try.func19, Try.ntmps19
  go_wp2_with fail
  refine HC.out.mono ?_
  rintro e w1 ⟨v, rfl, hv, h1⟩
  obtain ⟨vo, vc, rfl⟩ := hv.form
  have HV := keep (hv.mono (lo' := w.heap.size + 1) (by simp))
  have HB1 := keep (HB0.out.trans (h1.mono HB0.out.size))
  have HR1 := keep (HR0.out.to h1)
  have hx0 := HR1.out.row 0 _ rfl
  have hx1 := HR1.out.row 1 _ rfl
  have hx2 := HR1.out.row 2 _ rfl
  have hxf := HR1.out.free
  obtain ⟨hs0, hs1, hs2⟩ := HR1.out.put3
  clear hv h1 HC
  go_wp2_with fail
  refine bodyPost_ret (v := .agg #[.slice vo R.1.length vc, .int .i64 R.2.1, .int .i64 R.2.2]) ?_ rfl ⟨_, rfl, (HV.out.mono (Nat.le_succ _)).put3 w.heap.size (fun c => by have := (HV.out.lt _ c).1; omega) _ _ _, below_put3 HB1.out (Nat.le_refl _) _ _ _⟩
  simp [results, Try.results19, go_sem, hs0, hs1, hs2]

/-- Between two rounds of the document's level: what x holds. -/
structure RLvl (ts : List Tok) (n d f : Nat) (R : List Nd × Nat × Int) (w : World) (Bx : Nat) (wr : World) : Prop where
  out : ∃ (xl : List Nd) (xa : Nat) (xE : Int) (xo : Option Addr) (xc : Nat), BoxL wr Bx [.slice xo xl.length xc, .int .i64 xa, .int .i64 xE] ∧ BoxL wr w.heap.size [.slice none 0 0, .int .i64 0, .int .i64 0] ∧
    NIn (w.heap.size + 1) wr (.slice xo xl.length xc) xl ∧ (Value.slice xo xl.length xc).ownBlock ≠ some Bx ∧ Below w.heap.size w wr ∧
    ((xE ≠ 0 ∧ R = (xl, xa, xE)) ∨ (xE = 0 ∧ ∃ bt cur g, xl = bt.reverse ++ cur ∧ goL ts g n d bt cur xa = R ∧ 8 * (ts.length - xa) + 1 ≤ g ∧ g ≤ f ∧ (n = 3 → bt = []) ∧ xa ≤ ts.length ∧ xl.length ≤ xa ∧ 1 ≤ cur.length))

set_option maxRecDepth 100000 in
set_option maxHeartbeats 16000000 in
theorem rlev_low (ts : List Tok) (tv : Value) (f : Nat) (hlen : ts.length ≤ 1000) (HL : ∀ g, g ≤ f → RLevOk ts tv g) (i n d : Nat) (w : World) (h1 : 1 ≤ n) (h5 : n ≤ 5) (hd : d ≤ 24) (hf : 8 * (ts.length - i) + 8 - n ≤ f + 1) (h : TkRow w.heap.size w tv ts) :
    Calls Try.prog 19 #[tv, .int .i64 (i : Int), .int .i64 (n : Int), .int .i64 (d : Int)] w fun e w' => GotTo (lev ts (f + 1) i n d) w e w' := by
  rw [lev_low ts f i d (by omega)]
  obtain ⟨R, hR⟩ : ∃ R, lp ts f n d [] [] i = R := ⟨_, rfl⟩
  rw [hR]
  obtain ⟨o, cap, rfl, -⟩ := h.form
  have HTK := keep h
  have HB0 := keep ((Below.refl _ w).alloc (Nat.le_refl _) (.cells #[.slice none 0 0, .int .i64 0, .int .i64 0] 30))
  have HR0 := keep (BoxL.new w [.slice none 0 0, .int .i64 0, .int .i64 0] 30)
  have HC0 := keep (show Calls Try.prog 19 #[.slice o ts.length cap, .int .i64 (i : Int), .int .i64 ((n : Int) + 1), .int .i64 (d : Int)] _ fun e w' => GotTo (lev ts f i (n + 1) d) _ e w' from HL f (Nat.le_refl _) i (n + 1) d _ (by omega) (by omega) hd (by omega) (h.to HB0.out))
  have HC := keep (fun g (hg : g ≤ f) (a : Nat) W (hr : 8 * (ts.length - (a + 1)) + 7 - n ≤ g) (h : TkRow W.heap.size W (.slice o ts.length cap) ts) => show Calls Try.prog 19 #[.slice o ts.length cap, .int .i64 ((a : Int) + 1), .int .i64 ((n : Int) + 1), .int .i64 (d : Int)] W fun e w' => GotTo (lev ts g (a + 1) (n + 1) d) W e w' from HL g hg (a + 1) (n + 1) d W (by omega) (by omega) hd (by omega) h)
  have HTOK := keep (fun W a (h : TkRow W.heap.size W (.slice o ts.length cap) ts) => rtok_any (.slice o ts.length cap) ts a W h)
  have hfit := (fits_all ts f).1 i (n + 1) d
  have hsome := (some_all ts f).1 i (n + 1) d
  have HKD := keep (fun (t : Tok) => show kd t (n : Int) = if t.K = 4 then (if opS t.S = 0 then 0 else if lvl (opS t.S) = (n : Int) then opS t.S else 0) else 0 by unfold kd; rw [knd_op t.S n h1 h5])
  have HLEN := keep hlen
  have HN := keep (show 1 ≤ n ∧ n ≤ 5 ∧ 8 * (ts.length - i) + 8 - n ≤ f + 1 from ⟨h1, h5, hf⟩)
  have h6 : ((n : Int) == 6) = false := by rw [beq_eq_false_iff_ne]; omega
  have hnI : (n : Int) ≤ 5 := by omega
  have hn1 : (1 : Int) ≤ (n : Int) := by omega
  obtain ⟨q, hq⟩ : ∃ q, q = ts.length := ⟨_, rfl⟩
  have HQ := keep hq
  rw [← hq] at HTK HC0 HC HTOK ⊢
  obtain ⟨M, hM⟩ : ∃ M, lev ts f i (n + 1) d = M := ⟨_, rfl⟩
  obtain ⟨m0, a0, E0⟩ := M
  rw [hM] at HC0 hfit hsome
  have HIN : Keep ((E0 ≠ 0 ∧ R = ([], a0, E0)) ∨ (E0 = 0 ∧ goL ts f n d [] m0 a0 = R)) := keep (by
    by_cases hE : E0 = 0
    · subst hE
      rw [lp_ok hM, List.nil_append] at hR
      exact .inr ⟨rfl, hR⟩
    · rw [lp_bad hM hE] at hR
      exact .inl ⟨hE, hR.symm⟩)
  have HBAD : Keep (E0 ≠ 0 → m0 = []) := keep (fun hE => by have := (bad_all ts f).1 i (n + 1) d; rw [hM] at this; exact this hE)
  have HFT := keep (show E0 = 0 → m0.length ≤ a0 - i ∧ i < a0 ∧ a0 ≤ ts.length ∧ 1 ≤ m0.length from fun e => by have a := hfit e; have b := hsome e; exact ⟨a.1, a.2.1, a.2.2, b⟩)
  clear hR h hlen HL h1 h5 hd hf hq hM hfit hsome
  go_enter Try.func19, Try.ntmps19
  go_wp2_with fail
  refine HC0.out.mono ?_
  rintro e w1 ⟨v, rfl, hv, h1⟩
  simp only at hv
  obtain ⟨vo, vc, rfl⟩ := hv.form
  obtain ⟨k0, hk0⟩ : ∃ k0, k0 = m0.length := ⟨_, rfl⟩
  have H0 : Keep (RLvl ts n d f R w w1.heap.size (w1.alloc (.cells #[.slice vo k0 vc, .int .i64 a0, .int .i64 E0] 30))) := keep (by
    have hB1 := HB0.out.trans (h1.mono HB0.out.size)
    refine ⟨m0, a0, E0, vo, vc, by rw [← hk0]; exact BoxL.new w1 _ _, (HR0.out.to h1).alloc _, by rw [hk0]; exact (hv.mono (by simp)).alloc _, fun c => by have := (hv.lt _ c).2; omega, hB1.alloc hB1.size _, ?_⟩
    rcases HIN.out with ⟨hE, e⟩ | ⟨hE, e⟩
    · exact .inl ⟨hE, by rw [HBAD.out hE]; exact e⟩
    · obtain ⟨f1, f2, f3, f4⟩ := HFT.out hE
      have := HN.out
      exact .inr ⟨hE, [], m0, f, by simp, e, by omega, Nat.le_refl _, fun _ => rfl, f3, by omega, f4⟩)
  rw [← hk0]
  have hlw : w.heap.size < w1.heap.size := (HR0.out.to h1).lt
  clear hv h1 hk0 HC0 HIN HBAD HFT
  go_wp2_with fail
  generalize (w1.alloc (.cells #[.slice vo k0 vc, .int .i64 a0, .int .i64 E0] 30)) = W1 at H0 ⊢
  generalize w1.heap.size = Bx at H0 hlw ⊢
  go_loopw [11] (fun _ wr => Keep (RLvl ts n d f R w Bx wr)) (fun _ wr => atOf Bx wr)
  case atStart => exact H0
  case round =>
    clear H0
    obtain ⟨xl, xa, xE, xo, xc, hX, hR, hN, hne, hB, hcase⟩ := hrel.out.out
    obtain ⟨k, hk⟩ : ∃ k, k = xl.length := ⟨_, rfl⟩
    rw [← hk] at hX hN hne
    have HK := keep hk
    have HX := keep hX
    have HR1 := keep hR
    have HNX := keep hN
    have HNE := keep hne
    have HB := keep hB
    have y0 := hX.row 0 _ rfl
    have y1 := hX.row 1 _ rfl
    have y2 := hX.row 2 _ rfl
    have hbl := hX.lt
    rcases hcase with ⟨hE, hRR⟩ | ⟨hE, bt, cur, g, hxl, hgo, hg, hgf, h3, hal, hkl, hcl⟩
    · have bE : (xE == 0) = false := by simpa using hE
      have HRR : Keep (R = (xl, xa, xE)) := keep hRR
      clear hrel hk hX hR hN hne hB hE hRR
      have hx0 := HR1.out.row 0 _ rfl
      have hx1 := HR1.out.row 1 _ rfl
      have hx2 := HR1.out.row 2 _ rfl
      have hxf := HR1.out.free
      obtain ⟨hs0, hs1, hs2⟩ := HR1.out.put3
      go_wp2_with fail
      refine bodyPost_ret (v := .agg #[.slice xo k xc, .int .i64 xa, .int .i64 xE]) ?_ rfl ⟨_, by rw [HRR.out], by rw [HRR.out]; exact (HNX.out.mono (Nat.le_succ _)).put3 w.heap.size (fun c => by have := (HNX.out.lt _ c).1; omega) _ _ _, below_put3 HB.out (Nat.le_refl _) _ _ _⟩
      simp [results, Try.results19, go_sem, hs0, hs1, hs2]
    · subst hE
      have haI : (xa : Int) ≤ 1000 := by have := HLEN.out; omega
      have HG := keep (show 8 * (ts.length - xa) + 1 ≤ g ∧ g ≤ f ∧ (n = 3 → bt = []) ∧ xa ≤ ts.length ∧ xl.length ≤ xa ∧ 1 ≤ cur.length from ⟨hg, hgf, h3, hal, hkl, hcl⟩)
      have HXL := keep hxl
      obtain ⟨g', rfl⟩ : ∃ g', g = g' + 1 := ⟨g - 1, by omega⟩
      have hstop := fun hz => goL_stop (ts := ts) (f := g') (n := n) (d := d) (bt := bt) (cur := cur) (a := xa) (.inl hz)
      have hon := fun (hz : kd (tokAt ts xa) n ≠ 0) => goL_on (ts := ts) (f := g') (n := n) (d := d) (bt := bt) (cur := cur) (a := xa) (fun c => by
        rcases c with c | ⟨c1, c2⟩
        · exact hz c
        · rw [h3 c1] at c2; simp at c2)
      have hin : kd (tokAt ts xa) n ≠ 0 → xa < ts.length := kd_in
      have HT := keep (HTOK.out wr xa (HTK.out.to hB))
      obtain ⟨t, ht⟩ : ∃ t, tokAt ts xa = t := ⟨_, rfl⟩
      have hkd := HKD.out t
      rw [ht] at hstop hon hin HT
      rw [hgo, ← hxl] at hstop
      rw [hgo] at hon
      obtain ⟨K, S, V, A⟩ := t
      simp only [Tok.agg] at HT
      simp only at hkd
      clear hrel hk hX hR hN hne hB hg hgf h3 hal hkl hcl hxl hgo ht
      by_cases h4 : K = 4
      · subst h4
        have b4 : ((4 : Int) == 4) = true := rfl
        rw [if_pos rfl] at hkd
        obtain ⟨op, hop⟩ : ∃ op, opS S = op := ⟨_, rfl⟩
        have HOP := keep (fun W => rop_any S W)
        rw [hop] at HOP hkd
        by_cases h0 : op = 0
        · subst h0
          rw [if_pos rfl] at hkd
          have HRR := keep (hstop hkd)
          clear hstop hon hin hkd hop
          go_wp2_with fail
          refine HT.out.mono ?_
          rintro e w2 ⟨rfl, h2⟩
          have HB2 := keep ((HB.out.trans (h2.mono HB.out.size)).alloc (by have := HB.out.size; have := h2.size; omega) (.cells #[.int .i64 4, .string S, .int .i64 V, .int .i64 A] 51))
          have HX2 := keep ((HX.out.to h2).alloc (.cells #[.int .i64 4, .string S, .int .i64 V, .int .i64 A] 51))
          have HR2 := keep ((HR1.out.to h2).alloc (.cells #[.int .i64 4, .string S, .int .i64 V, .int .i64 A] 51))
          have HN2 := keep ((HNX.out.to h2).alloc (.cells #[.int .i64 4, .string S, .int .i64 V, .int .i64 A] 51))
          have HT2 := keep (BoxL.new w2 [.int .i64 4, .string S, .int .i64 V, .int .i64 A] 51)
          have hb2 : Bx < w2.heap.size := (HX.out.to h2).lt
          clear h2 HT y0 y1 y2
          go_wp2_with fail
          refine (HOP.out _).mono ?_
          rintro e w3 ⟨rfl, h3⟩
          have HB3 := keep (HB2.out.trans (h3.mono HB2.out.size))
          have HX3 := keep (HX2.out.to h3)
          have HR3 := keep (HR2.out.to h3)
          have HN3 := keep (HN2.out.to h3)
          have HT3 := keep (HT2.out.to h3)
          have y0 := HX3.out.row 0 _ rfl
          have y1 := HX3.out.row 1 _ rfl
          have y2 := HX3.out.row 2 _ rfl
          have z0 := HT3.out.row 0 _ rfl
          have z3 := HT3.out.row 3 _ rfl
          have hz3 := HT3.out.lt
          clear h3 HOP
          have hx0 := HR3.out.row 0 _ rfl
          have hx1 := HR3.out.row 1 _ rfl
          have hx2 := HR3.out.row 2 _ rfl
          have hxf := HR3.out.free
          obtain ⟨hs0, hs1, hs2⟩ := HR3.out.put3
          go_wp2_with fail
          refine bodyPost_ret (v := .agg #[.slice xo k xc, .int .i64 (xa : Int), .int .i64 0]) ?_ rfl ⟨_, by rw [HRR.out], by rw [HRR.out]; exact (HN3.out.mono (Nat.le_succ _)).put3 w.heap.size (fun c => by have := (HN3.out.lt _ c).1; omega) _ _ _, below_put3 HB3.out (Nat.le_refl _) _ _ _⟩
          simp [results, Try.results19, go_sem, hs0, hs1, hs2]
        · have b0 : (op == 0) = false := by simpa using h0
          rw [if_neg h0] at hkd
          have HLV := keep (fun W => rlvl_any op W)
          obtain ⟨lv, hlv⟩ : ∃ lv, lvl op = lv := ⟨_, rfl⟩
          rw [hlv] at HLV hkd
          by_cases hln : lv = (n : Int)
          · have bl : (lv != (n : Int)) = false := by simp [hln]
            have bl' : (lv == (n : Int)) = true := by simp [hln]
            rw [if_pos hln] at hkd
            have hi := hin (by rw [hkd]; exact h0)
            have HRR := keep (hon (by rw [hkd]; exact h0))
            rw [hkd] at HRR
            have HI := keep hi
            clear hstop hon hin hkd hop h0 hlv hln hi
            go_wp2_with fail
            refine HT.out.mono ?_
            rintro e w2 ⟨rfl, h2⟩
            have HB2 := keep ((HB.out.trans (h2.mono HB.out.size)).alloc (by have := HB.out.size; have := h2.size; omega) (.cells #[.int .i64 4, .string S, .int .i64 V, .int .i64 A] 51))
            have HX2 := keep ((HX.out.to h2).alloc (.cells #[.int .i64 4, .string S, .int .i64 V, .int .i64 A] 51))
            have HR2 := keep ((HR1.out.to h2).alloc (.cells #[.int .i64 4, .string S, .int .i64 V, .int .i64 A] 51))
            have HN2 := keep ((HNX.out.to h2).alloc (.cells #[.int .i64 4, .string S, .int .i64 V, .int .i64 A] 51))
            have HT2 := keep (BoxL.new w2 [.int .i64 4, .string S, .int .i64 V, .int .i64 A] 51)
            have hb2 : Bx < w2.heap.size := (HX.out.to h2).lt
            clear h2 HT y0 y1 y2
            go_wp2_with fail
            refine (HOP.out _).mono ?_
            rintro e w3 ⟨rfl, h3⟩
            have HB3 := keep (HB2.out.trans (h3.mono HB2.out.size))
            have HX3 := keep (HX2.out.to h3)
            have HR3 := keep (HR2.out.to h3)
            have HN3 := keep (HN2.out.to h3)
            have HT3 := keep (HT2.out.to h3)
            have y0 := HX3.out.row 0 _ rfl
            have y1 := HX3.out.row 1 _ rfl
            have y2 := HX3.out.row 2 _ rfl
            have z0 := HT3.out.row 0 _ rfl
            have z3 := HT3.out.row 3 _ rfl
            have hz3 := HT3.out.lt
            clear h3 HOP
            go_wp2_with fail
            refine (HLV.out _).mono ?_
            rintro e w4 ⟨rfl, h4⟩
            have HB4 := keep (HB3.out.trans (h4.mono HB3.out.size))
            have HX4 := keep (HX3.out.to h4)
            have HR4 := keep (HR3.out.to h4)
            have HN4 := keep (HN3.out.to h4)
            have HT4 := keep (HT3.out.to h4)
            clear h4 HLV y0 y1 y2 z0 z3 hz3
            have y0 := HX4.out.row 0 _ rfl
            have y1 := HX4.out.row 1 _ rfl
            have y2 := HX4.out.row 2 _ rfl
            have z3 := HT4.out.row 3 _ rfl
            have HG2 := keep (show 8 * (q - (xa + 1)) + 7 - n ≤ g' ∧ g' ≤ f ∧ 1 ≤ g' from by have := HG.out; have := HN.out; have := HQ.out; have := HI.out; omega)
            have HCW := keep (HC.out g' HG2.out.2.1 xa w4 HG2.out.1 (HTK.out.to HB4.out))
            have hfit := (fits_all ts g').1 (xa + 1) (n + 1) d
            have hsome := (some_all ts g').1 (xa + 1) (n + 1) d
            have hbad := (bad_all ts g').1 (xa + 1) (n + 1) d
            obtain ⟨M, hM⟩ : ∃ M, lev ts g' (xa + 1) (n + 1) d = M := ⟨_, rfl⟩
            obtain ⟨m, b, E⟩ := M
            rw [hM] at HCW hfit hsome hbad
            have hRR := HRR.out
            clear HRR
            have HXN := keep (HN4.out.open (by rw [HXL.out, List.length_append]; have := HG.out; omega))
            by_cases hE : E = 0
            · subst hE
              rw [lp_ok hM] at hRR
              have HRR := keep hRR
              obtain ⟨f1, f2, f3⟩ := hfit rfl
              simp only at f1 f2 f3
              have HF := keep (show m.length ≤ b - (xa + 1) ∧ xa + 1 < b ∧ b ≤ ts.length ∧ 1 ≤ m.length from ⟨f1, f2, f3, hsome rfl⟩)
              obtain ⟨xb, xoff, xc', e, hxb, hxbl, hxcs⟩ := HXN.out
              injection e with e1 e2 e3
              subst e1 e3
              have HXC := keep hxcs
              have HXB := keep (show w.heap.size + 1 ≤ xb ∧ xb < w4.heap.size ∧ xb ≠ Bx from ⟨hxb, hxbl, fun c => HNE.out (by rw [c]; rfl)⟩)
              clear hfit hsome hbad hM hRR f1 f2 f3 hxb hxbl hxcs e2 HXN
              go_wp2_with fail
              refine HCW.out.mono ?_
              rintro e w5 ⟨yv, rfl, hy, h5⟩
              simp only at hy
              obtain ⟨yb, yoff, yc, rfl, hyb, hybl, hycs⟩ := hy.open HF.out.2.2.2
              obtain ⟨j, hj⟩ : ∃ j, j = m.length := ⟨_, rfl⟩
              have HJ := keep hj
              rw [← hj] at hy ⊢
              have HYC := keep hycs
              have HYB := keep (show w4.heap.size ≤ yb ∧ yb < w5.heap.size from ⟨hyb, hybl⟩)
              have HB5 := keep (HB4.out.trans (h5.mono HB4.out.size))
              have HX5 := keep (HX4.out.to h5)
              have HR5 := keep (HR4.out.to h5)
              have HT5 := keep (HT4.out.to h5)
              have HXC5 : Keep (∀ j u, (ncs xl)[j]? = some u → w5.cell? ⟨xb, xoff + j, none⟩ = some u) := keep (fun j u h => (h5.cell (p := ⟨xb, xoff + j, none⟩) HXB.out.2.1).trans (HXC.out j u h))
              have hb5 : Bx < w5.heap.size := HX5.out.lt
              have hb24 : w2.heap.size < w5.heap.size := HT5.out.lt
              have hjI : (j : Int) ≤ 1000 := by have := HF.out; have := HLEN.out; omega
              have hkI : (k : Int) ≤ 1000 := by have := HK.out; have := HG.out; have := HLEN.out; omega
              clear hj hycs hyb hybl hy HCW y0 y1 y2 z3
              have y0 := HX5.out.row 0 _ rfl
              have y1 := HX5.out.row 1 _ rfl
              have y2 := HX5.out.row 2 _ rfl
              have z3 := HT5.out.row 3 _ rfl
              have HYX := keep ((BoxL.new w5 [.slice (some ⟨yb, yoff, none⟩) j yc, .int .i64 b, .int .i64 0] 30).alloc (.cells #[.int .i64 op, .string ⟨#[]⟩, .int .i64 0, .int .i64 2, .int .i64 A] 42))
              have HX6 := keep ((HX5.out.alloc (.cells #[.slice (some ⟨yb, yoff, none⟩) j yc, .int .i64 b, .int .i64 0] 30)).alloc (.cells #[.int .i64 op, .string ⟨#[]⟩, .int .i64 0, .int .i64 2, .int .i64 A] 42))
              have HR6 := keep ((HR5.out.alloc (.cells #[.slice (some ⟨yb, yoff, none⟩) j yc, .int .i64 b, .int .i64 0] 30)).alloc (.cells #[.int .i64 op, .string ⟨#[]⟩, .int .i64 0, .int .i64 2, .int .i64 A] 42))
              have HW6 : Keep (Below w5.heap.size w5 ((w5.alloc (.cells #[.slice (some ⟨yb, yoff, none⟩) j yc, .int .i64 b, .int .i64 0] 30)).alloc (.cells #[.int .i64 op, .string ⟨#[]⟩, .int .i64 0, .int .i64 2, .int .i64 A] 42))) := keep (((Below.refl _ w5).alloc (Nat.le_refl _) _).alloc (by simp) _)
              have HB6 := keep (HB5.out.trans (HW6.out.mono HB5.out.size))
              have HOWN := keep (World.ownsRow_lit (e := 42) (base := w5.heap.size + 1) (size := 5) (w5.alloc (.cells #[.slice (some ⟨yb, yoff, none⟩) j yc, .int .i64 b, .int .i64 0] 30)) #[.int .i64 op, .string ⟨#[]⟩, .int .i64 0, .int .i64 2, .int .i64 A] 1 (by simp) (by unfold maxLen; omega) rfl)
              rw [World.size_alloc] at HOWN
              clear h5
              go_wp2_with (at_builtin; refine wpList_append_nds rfl (.tmp 67) (.tmp 69) rfl (w5.heap.size + 1) (.slice (some ⟨w5.heap.size + 1, 0, none⟩) 1 1) [⟨op, ⟨#[]⟩, 0, 2, A⟩] rfl HOWN.out (by simp) xb xoff k xc xl rfl HK.out.symm (by have := HK.out; simp; omega) (fun j u h => (HW6.out.cell (p := ⟨xb, xoff + j, none⟩) (by have := HXB.out; have := HYB.out; show xb < _; omega)).trans (HXC5.out j u h)) ?_)
              intro v7 w7 ho7 hg7 hat7
              replace hg7 : World.grownBy _ w7 (some (w5.heap.size + 1)) := hg7
              have HO7 := keep (show w7.ownsRow (w5.heap.size + 1) 42 5 v7 (⟨op, ⟨#[]⟩, 0, 2, A⟩ :: xl : List Nd).length (ncs (⟨op, ⟨#[]⟩, 0, 2, A⟩ :: xl)) from ho7)
              obtain ⟨vo7, vn7, vc7, rfl⟩ := own_slice' ho7
              have HX7 := keep (HX6.out.grown hg7 (fun e => by injection e with e; omega))
              have HR7 := keep (HR6.out.grown hg7 (fun e => by injection e with e; omega))
              have HY7 := keep (HYX.out.grown hg7 (fun e => by injection e with e; omega))
              have HB7 := keep (HB6.out.trans (grown_below hg7 (by omega) HB6.out.size))
              have HYC7 : Keep (∀ i u, (ncs m)[i]? = some u → w7.cell? ⟨yb, yoff + i, none⟩ = some u) := keep (fun i u h => (grown_cell hg7 (p := ⟨yb, yoff + i, none⟩) (by have := HYB.out; show yb < _; simp; omega) (fun e => by have e' : yb = w5.heap.size + 1 := (by injection e); have := HYB.out; omega)).trans ((HW6.out.cell (p := ⟨yb, yoff + i, none⟩) HYB.out.2).trans (HYC.out i u h)))
              have hz7 : w5.heap.size + 1 ≤ w7.heap.size := by have := hg7.size; simp at this; omega
              clear ho7 hg7 hat7 y0 y1 y2 z3
              go_wp2_with fail
              refine AnyGo.region (fun W' => W'.cell? ⟨w5.heap.size, 0, none⟩ = some (.slice (some ⟨yb, yoff, none⟩) j yc) ∧ W'.cell? ⟨w5.heap.size, 1, none⟩ = some (.int .i64 b)) (by kernel_rfl) (by rfl) ⟨HY7.out.row 0 _ rfl, HY7.out.row 1 _ rfl⟩ ?_
              intro wd ewd
              subst ewd
              (refine AnyGo.take 0 (some 71) ?_ (a' := ?_) rfl (by kernel_rfl) (fun _ _ d _ _ h => by cases d <;> exact h) (by kernel_rfl) (by rfl) (by kernel_rfl) ?_ ?_ ?_; rotate_left 2; (focus (intro W hW; (try dsimp only at hW); go_simp; (try with_reducible rfl))); (focus (simp only [Act.put, List.setIfInBounds_toArray]; rfl)))
              (refine AnyGo.take 1 (some 72) ?_ (a' := ?_) rfl (by kernel_rfl) (fun _ _ d _ _ h => by cases d <;> exact h) (by kernel_rfl) (by rfl) (by kernel_rfl) ?_ ?_ ?_; rotate_left 2; (focus (intro W hW; (try dsimp only at hW); go_simp; (try with_reducible rfl))); (focus (simp only [Act.put, List.setIfInBounds_toArray]; rfl)))
              (refine AnyGo.take 2 (some 73) ?_ (a' := ?_) rfl (by kernel_rfl) (fun _ _ d _ _ h => by cases d <;> exact h) (by kernel_rfl) (by rfl) (by kernel_rfl) ?_ ?_ ?_; rotate_left 2; (focus (intro W hW; (try dsimp only at hW); go_simp; (try with_reducible rfl))); (focus (simp only [Act.put, List.setIfInBounds_toArray]; rfl)))
              (refine AnyGo.take 4 (some 75) ?_ (a' := ?_) rfl (by kernel_rfl) (fun _ _ d _ _ h => by cases d <;> exact h) (by kernel_rfl) (by rfl) (by kernel_rfl) ?_ ?_ ?_; rotate_left 2; (focus (intro W hW; (try dsimp only at hW); go_simp; (try with_reducible rfl))); (focus (simp only [Act.put, List.setIfInBounds_toArray]; rfl)))
              (refine AnyGo.take 5 (some 76) ?_ (a' := ?_) rfl (by kernel_rfl) (fun _ _ d _ _ h => by cases d <;> exact h) (by kernel_rfl) (by rfl) (by kernel_rfl) ?_ ?_ ?_; rotate_left 2; (focus (intro W hW; (try dsimp only at hW); go_simp; (try with_reducible rfl))); (focus (simp only [Act.put, List.setIfInBounds_toArray]; rfl)))
              refine AnyGo.one (i := 3) (by kernel_rfl) rfl (by kernel_rfl) (fun K' hK' => ?_)
              refine wp_append_nds (.tmp 71) (.tmp 73) rfl (w5.heap.size + 1) (.slice vo7 vn7 vc7) (⟨op, ⟨#[]⟩, 0, 2, A⟩ :: xl) rfl HO7.out (by exact hz7) yb yoff j yc m rfl HJ.out.symm (by have := HK.out; simp; omega) (fun i u h => HYC7.out i u h) (some 74) rfl ?_
              intro v8 w8 ho8 hg8 hat8
              have HG8 : Keep (w7.grownBy w8 (Value.slice vo7 vn7 vc7).ownBlock) := keep ⟨hg8.os, hg8.tape, hg8.output, hg8.size, hg8.block⟩
              have hlt7 : ∀ p, (Value.slice vo7 vn7 vc7).ownBlock = some p → w5.heap.size + 1 ≤ p ∧ p < w7.heap.size := HO7.out.lt
              have HO8 := keep (show w8.ownsRow (w5.heap.size + 1) 42 5 v8 ((⟨op, ⟨#[]⟩, 0, 2, A⟩ :: xl) ++ m).length (ncs ((⟨op, ⟨#[]⟩, 0, 2, A⟩ :: xl) ++ m)) from ho8)
              have HX8 := keep (HX7.out.grown HG8.out (fun e => by have := (hlt7 _ e.symm).1; omega))
              have HR8 := keep (HR7.out.grown HG8.out (fun e => by have := (hlt7 _ e.symm).1; omega))
              have HY8 := keep (HY7.out.grown HG8.out (fun e => by have := (hlt7 _ e.symm).1; omega))
              have HB8 : Keep (Below w.heap.size w w8) := keep (HB7.out.trans ⟨HG8.out.os, HG8.out.tape, HG8.out.output, HG8.out.size, fun p hp => HG8.out.block p (by omega) (fun e => by have := (hlt7 _ e.symm).1; omega)⟩)
              obtain ⟨nl, hnl⟩ : ∃ nl, nl = (⟨op, ⟨#[]⟩, 0, 2, A⟩ :: xl) ++ m := ⟨_, rfl⟩
              have HNL := keep hnl
              rw [← hnl] at HO8
              obtain ⟨vo8, vc8, rfl⟩ := own_form HO8.out
              obtain ⟨kn, hkn⟩ : ∃ kn, kn = nl.length := ⟨_, rfl⟩
              have HKN := keep hkn
              have HN8 := keep ((NIn.of_own HO8.out (by have := HK.out; have := HJ.out; rw [HNL.out]; simp; omega)).mono (lo' := w.heap.size + 1) (by omega))
              have hne8 : (Value.slice vo8 kn vc8).ownBlock ≠ some Bx := fun c => by rw [hkn] at c; have := (HO8.out.lt _ c).1; omega
              rw [← hkn] at HN8 HO8 ⊢
              refine hK'.out _ _ ⟨HY8.out.row 0 _ rfl, HY8.out.row 1 _ rfl⟩ ?_
              clear hK' K' ho8 hg8 hat8 hnl hkn hlt7
              (try simp only [Act.put, List.setIfInBounds_toArray])
              (refine AnyGo.take 6 (some 77) ?_ (a' := ?_) rfl (by kernel_rfl) (fun _ _ d _ _ h => by cases d <;> exact h) (by kernel_rfl) (by rfl) (by kernel_rfl) ?_ ?_ ?_; rotate_left 2; (focus (intro W hW; (try dsimp only at hW); go_simp; (try with_reducible rfl))); (focus (simp only [Act.put, List.setIfInBounds_toArray]; rfl)))
              have r0 := HX8.out.row 0 _ rfl
              have r1 := HX8.out.row 1 _ rfl
              have r2 := HX8.out.row 2 _ rfl
              have rf := HX8.out.free
              refine AnyGo.one (i := 7) (by kernel_rfl) rfl (by kernel_rfl) (fun K' hK' => ?_)
              go_simp
              have hd5 : ¬ w5.heap.size = Bx := by omega
              have HY9 := keep (((HY8.out.other (p := ⟨Bx, 0, none⟩) (.slice vo8 kn vc8) (fun c => hd5 c.symm)).other (p := ⟨Bx, 1, none⟩) (.int .i64 b) (fun c => hd5 c.symm)).other (p := ⟨Bx, 2, none⟩) (.int .i64 0) (fun c => hd5 c.symm))
              refine hK'.out _ _ ⟨HY9.out.row 0 _ rfl, HY9.out.row 1 _ rfl⟩ ?_
              clear hK' K' r0 r1 r2 rf
              (try simp only [Act.put])
              refine AnyGo.fin (by kernel_rfl) ?_
              (try simp only [List.set_cons_succ, List.set_cons_zero])
              have HX9 := keep (((HX8.out.set 0 (.slice vo8 kn vc8) (by simp)).set 1 (.int .i64 b) (by simp)).set 2 (.int .i64 0) (by simp))
              have hwB : ¬ w.heap.size = Bx := by omega
              have HR9 := keep (((HR8.out.other (p := ⟨Bx, 0, none⟩) (.slice vo8 kn vc8) (fun c => hwB c.symm)).other (p := ⟨Bx, 1, none⟩) (.int .i64 b) (fun c => hwB c.symm)).other (p := ⟨Bx, 2, none⟩) (.int .i64 0) (fun c => hwB c.symm))
              have HN9 := keep (HN8.out.put3 Bx hne8 (.slice vo8 kn vc8) (.int .i64 b) (.int .i64 0))
              have HB9 := keep (below_put3 HB8.out (Nat.le_of_lt hlw) (.slice vo8 kn vc8) (.int .i64 b) (.int .i64 0))
              generalize (((w8.setCell ⟨Bx, 0, none⟩ (.slice vo8 kn vc8)).setCell ⟨Bx, 1, none⟩ (.int .i64 b)).setCell ⟨Bx, 2, none⟩ (.int .i64 0)) = w9 at HX9 HR9 HN9 HB9 HY9 ⊢
              simp only [List.set_cons_succ, List.set_cons_zero] at HX9
              have y0 := HX9.out.row 0 _ rfl
              have y1 := HX9.out.row 1 _ rfl
              have y2 := HX9.out.row 2 _ rfl
              have hbl9 := HX9.out.lt
              have HEQ : Keep (nl = (bt ++ [(⟨op, ⟨#[]⟩, 0, 2, A⟩ : Nd)]).reverse ++ (cur ++ m)) := keep (by rw [HNL.out, HXL.out]; simp)
              by_cases hn3 : n = 3
              · have b3 : ((n : Int) == 3) = true := by rw [beq_iff_eq]; omega
                have hR3 : R = (nl, b, 0) := by
                  have hb0 := HG.out.2.2.1 hn3
                  obtain ⟨g2, hg2⟩ : ∃ g2, g' = g2 + 1 := ⟨g' - 1, by have := HG2.out; omega⟩
                  have := HRR.out
                  rw [hg2, goL_stop (.inr ⟨hn3, by rw [hb0]; rfl⟩)] at this
                  rw [HEQ.out]; exact this
                replace HRR := keep hR3
                clear hR3 hn3
                have hx0 := HR9.out.row 0 _ rfl
                have hx1 := HR9.out.row 1 _ rfl
                have hx2 := HR9.out.row 2 _ rfl
                have hxf := HR9.out.free
                obtain ⟨hs0, hs1, hs2⟩ := HR9.out.put3
                go_wp2_with fail
                refine bodyPost_ret (v := .agg #[.slice vo8 kn vc8, .int .i64 b, .int .i64 0]) ?_ rfl ⟨_, by rw [HRR.out], by rw [HRR.out]; exact (HN9.out.mono (Nat.le_succ _)).put3 w.heap.size (fun c => by have := (HN9.out.lt _ c).1; omega) _ _ _, below_put3 HB9.out (Nat.le_refl _) _ _ _⟩
                simp [results, Try.results19, go_sem, hs0, hs1, hs2]
              · have b3 : ((n : Int) == 3) = false := by rw [beq_eq_false_iff_ne]; omega
                go_wp2_with fail
                go_roundw
                case rel =>
                  refine ⟨⟨nl, b, 0, vo8, vc8, by rw [← HKN.out]; exact HX9.out, HR9.out, by rw [← HKN.out]; exact HN9.out, by rw [← HKN.out]; exact hne8, HB9.out, .inr ⟨rfl, _, _, g', HEQ.out, HRR.out.symm, ?_, HG2.out.2.1, fun c => absurd c hn3, HF.out.2.2.1, ?_, ?_⟩⟩⟩
                  · have := HF.out; have := HG.out; omega
                  · rw [HNL.out, List.length_append, List.length_cons]; have := HF.out; have := HG.out; omega
                  · rw [List.length_append]; have := HF.out; omega
                case measure =>
                  rw [atOf_cell y1, atOf_cell (HX.out.row 1 _ rfl)]
                  have := HF.out; have := HLEN.out; omega
            · rw [lp_bad hM hE] at hRR
              have HRR := keep hRR
              have hm0 : m = [] := hbad hE
              subst hm0
              have bE : (E == 0) = false := by simpa using hE
              have bE' : (E != 0) = true := by simpa using hE
              clear hfit hsome hbad hM hRR hE HXN
              go_wp2_with fail
              refine HCW.out.mono ?_
              rintro e w5 ⟨yv, rfl, hy, h5⟩
              simp only at hy
              obtain ⟨yo, yc, rfl⟩ := hy.form
              have HY5 := keep (hy.mono (lo' := w.heap.size + 1) (by have := HB4.out.size; have := HR4.out.lt; omega))
              have HB5 := keep (HB4.out.trans (h5.mono HB4.out.size))
              have HR5 := keep (HR4.out.to h5)
              have hwl5 : w.heap.size < w5.heap.size := HR5.out.lt
              clear hy h5 HCW y0 y1 y2 z3
              simp only [List.length_nil] at *
              have hx0 := HR5.out.row 0 _ rfl
              have hx1 := HR5.out.row 1 _ rfl
              have hx2 := HR5.out.row 2 _ rfl
              have hxf := HR5.out.free
              obtain ⟨hs0, hs1, hs2⟩ := HR5.out.put3
              have hsz := size_put3 w5 w.heap.size
              go_wp2_with fail
              refine bodyPost_ret (v := .agg #[.slice yo 0 yc, .int .i64 b, .int .i64 E]) ?_ rfl ⟨_, by rw [HRR.out], by rw [HRR.out]; exact ((HY5.out.mono (Nat.le_succ _)).put3 w.heap.size (fun c => by have := (HY5.out.lt _ c).1; omega) _ _ _).alloc _, (below_put3 HB5.out (Nat.le_refl _) _ _ _).alloc (by rw [hsz]; exact HB5.out.size) _⟩
              simp [results, Try.results19, go_sem, hs0, hs1, hs2, hsz, hwl5]
          · have bl : (lv != (n : Int)) = true := by simp [hln]
            have bl' : (lv == (n : Int)) = false := by simp [hln]
            rw [if_neg hln] at hkd
            have HRR := keep (hstop hkd)
            clear hstop hon hin hkd hop h0 hlv hln
            go_wp2_with fail
            refine HT.out.mono ?_
            rintro e w2 ⟨rfl, h2⟩
            have HB2 := keep ((HB.out.trans (h2.mono HB.out.size)).alloc (by have := HB.out.size; have := h2.size; omega) (.cells #[.int .i64 4, .string S, .int .i64 V, .int .i64 A] 51))
            have HX2 := keep ((HX.out.to h2).alloc (.cells #[.int .i64 4, .string S, .int .i64 V, .int .i64 A] 51))
            have HR2 := keep ((HR1.out.to h2).alloc (.cells #[.int .i64 4, .string S, .int .i64 V, .int .i64 A] 51))
            have HN2 := keep ((HNX.out.to h2).alloc (.cells #[.int .i64 4, .string S, .int .i64 V, .int .i64 A] 51))
            have HT2 := keep (BoxL.new w2 [.int .i64 4, .string S, .int .i64 V, .int .i64 A] 51)
            have hb2 : Bx < w2.heap.size := (HX.out.to h2).lt
            clear h2 HT y0 y1 y2
            go_wp2_with fail
            refine (HOP.out _).mono ?_
            rintro e w3 ⟨rfl, h3⟩
            have HB3 := keep (HB2.out.trans (h3.mono HB2.out.size))
            have HX3 := keep (HX2.out.to h3)
            have HR3 := keep (HR2.out.to h3)
            have HN3 := keep (HN2.out.to h3)
            have HT3 := keep (HT2.out.to h3)
            have y0 := HX3.out.row 0 _ rfl
            have y1 := HX3.out.row 1 _ rfl
            have y2 := HX3.out.row 2 _ rfl
            have z0 := HT3.out.row 0 _ rfl
            have z3 := HT3.out.row 3 _ rfl
            have hz3 := HT3.out.lt
            clear h3 HOP
            go_wp2_with fail
            refine (HLV.out _).mono ?_
            rintro e w4 ⟨rfl, h4⟩
            have HB4 := keep (HB3.out.trans (h4.mono HB3.out.size))
            have HX4 := keep (HX3.out.to h4)
            have HR4 := keep (HR3.out.to h4)
            have HN4 := keep (HN3.out.to h4)
            have HT4 := keep (HT3.out.to h4)
            clear h4 HLV y0 y1 y2 z0 z3 hz3
            have y0 := HX4.out.row 0 _ rfl
            have y1 := HX4.out.row 1 _ rfl
            have y2 := HX4.out.row 2 _ rfl
            have z3 := HT4.out.row 3 _ rfl
            have hx0 := HR4.out.row 0 _ rfl
            have hx1 := HR4.out.row 1 _ rfl
            have hx2 := HR4.out.row 2 _ rfl
            have hxf := HR4.out.free
            obtain ⟨hs0, hs1, hs2⟩ := HR4.out.put3
            go_wp2_with fail
            refine bodyPost_ret (v := .agg #[.slice xo k xc, .int .i64 xa, .int .i64 0]) ?_ rfl ⟨_, by rw [HRR.out], by rw [HRR.out]; exact (HN4.out.mono (Nat.le_succ _)).put3 w.heap.size (fun c => by have := (HN4.out.lt _ c).1; omega) _ _ _, below_put3 HB4.out (Nat.le_refl _) _ _ _⟩
            simp [results, Try.results19, go_sem, hs0, hs1, hs2]
      · have b4 : (K == 4) = false := by simpa using h4
        have b4' : (K != 4) = true := by simpa using h4
        rw [if_neg h4] at hkd
        have HRR := keep (hstop hkd)
        have HOP := keep (fun W => rop_any S W)
        generalize opS S = op at HOP
        clear hstop hon hin hkd h4
        go_wp2_with fail
        refine HT.out.mono ?_
        rintro e w2 ⟨rfl, h2⟩
        have HB2 := keep ((HB.out.trans (h2.mono HB.out.size)).alloc (by have := HB.out.size; have := h2.size; omega) (.cells #[.int .i64 K, .string S, .int .i64 V, .int .i64 A] 51))
        have HX2 := keep ((HX.out.to h2).alloc (.cells #[.int .i64 K, .string S, .int .i64 V, .int .i64 A] 51))
        have HR2 := keep ((HR1.out.to h2).alloc (.cells #[.int .i64 K, .string S, .int .i64 V, .int .i64 A] 51))
        have HN2 := keep ((HNX.out.to h2).alloc (.cells #[.int .i64 K, .string S, .int .i64 V, .int .i64 A] 51))
        have HT2 := keep (BoxL.new w2 [.int .i64 K, .string S, .int .i64 V, .int .i64 A] 51)
        have hb2 : Bx < w2.heap.size := (HX.out.to h2).lt
        clear h2 HT y0 y1 y2
        go_wp2_with fail
        refine (HOP.out _).mono ?_
        rintro e w3 ⟨rfl, h3⟩
        have HB3 := keep (HB2.out.trans (h3.mono HB2.out.size))
        have HX3 := keep (HX2.out.to h3)
        have HR3 := keep (HR2.out.to h3)
        have HN3 := keep (HN2.out.to h3)
        have HT3 := keep (HT2.out.to h3)
        have y0 := HX3.out.row 0 _ rfl
        have y1 := HX3.out.row 1 _ rfl
        have y2 := HX3.out.row 2 _ rfl
        have z0 := HT3.out.row 0 _ rfl
        have z3 := HT3.out.row 3 _ rfl
        have hz3 := HT3.out.lt
        clear h3 HOP
        have hx0 := HR3.out.row 0 _ rfl
        have hx1 := HR3.out.row 1 _ rfl
        have hx2 := HR3.out.row 2 _ rfl
        have hxf := HR3.out.free
        obtain ⟨hs0, hs1, hs2⟩ := HR3.out.put3
        go_wp2_with fail
        refine bodyPost_ret (v := .agg #[.slice xo k xc, .int .i64 (xa : Int), .int .i64 0]) ?_ rfl ⟨_, by rw [HRR.out], by rw [HRR.out]; exact (HN3.out.mono (Nat.le_succ _)).put3 w.heap.size (fun c => by have := (HN3.out.lt _ c).1; omega) _ _ _, below_put3 HB3.out (Nat.le_refl _) _ _ _⟩
        simp [results, Try.results19, go_sem, hs0, hs1, hs2]
end Go.Proofs.Ytglmcjplglgnlaa
