/-
  Terms of a level: row, and all of the reader.
-/
import Derived.Test.YtglmcjplglgnlaaTermQ
namespace Go.Proofs.Ytglmcjplglgnlaa
open Go.RowKit Go.Joins

/-- What is read has a node. -/
theorem some_all (ts : List Tok) : ∀ f : Nat, (∀ i n d, (lev ts f i n d).2.2 = 0 → 1 ≤ (lev ts f i n d).1.length) ∧ (∀ i d, (one ts f i d).2.2 = 0 → 1 ≤ (one ts f i d).1.length) ∧
    (∀ n d bt cur a, (goL ts f n d bt cur a).2.2 = 0 → 1 ≤ cur.length → 1 ≤ (goL ts f n d bt cur a).1.length) := by
  intro f
  induction f with
  | zero =>
    refine ⟨fun i n d h => ?_, fun i d h => ?_, fun n d bt cur a h => ?_⟩
    · simp [lev] at h
    · simp [one] at h
    · simp [goL] at h
  | succ f ih =>
    obtain ⟨i1, i2, i3⟩ := ih
    refine ⟨fun i n d => ?_, fun i d => ?_, fun n d bt cur a => ?_⟩
    · by_cases hn : n = 6
      · subst hn; rw [lev_six]; exact i2 i d
      · rw [lev_low ts f i d hn]
        have g := i1 i (n + 1) d
        obtain ⟨R, hR⟩ : ∃ R, lev ts f i (n + 1) d = R := ⟨_, rfl⟩
        obtain ⟨l, b, e⟩ := R
        by_cases he : e = 0
        · subst he
          rw [lp_ok hR]
          rw [hR] at g
          exact fun h => i3 n d [] ([] ++ l) b h (by simpa using g rfl)
        · rw [lp_bad hR he]
          exact fun h => absurd h he
    · rw [one]
      split
      · exact fun _ => Nat.le_refl _
      · split
        · exact fun _ => Nat.le_refl _
        · split
          · exact fun h => by simp at h
          · split
            · exact fun h => by simp at h
            · split
              · have g := i1 (i + 1) 1 (d + 1)
                obtain ⟨R, hR⟩ : ∃ R, lev ts f (i + 1) 1 (d + 1) = R := ⟨_, rfl⟩
                obtain ⟨l, a, e⟩ := R
                rw [hR] at g ⊢
                simp only
                by_cases he : e = 0
                · rw [if_neg (by simp [he])]
                  split
                  · exact fun _ => g he
                  · exact fun h => by simp at h
                · rw [if_pos he]
                  exact fun h => absurd h he
              · obtain ⟨R, hR⟩ : ∃ R, one ts f (i + 1) (d + 1) = R := ⟨_, rfl⟩
                obtain ⟨l, a, e⟩ := R
                rw [hR]
                simp only
                by_cases he : e = 0
                · rw [if_neg (by simp [he])]
                  exact fun _ => by simp
                · rw [if_pos he]
                  exact fun h => absurd h he
    · by_cases hs : kd (tokAt ts a) n = 0 ∨ (n = 3 ∧ bt.length = 1)
      · rw [goL_stop hs]
        exact fun _ hc => by simp; omega
      · rw [goL_on hs]
        obtain ⟨R, hR⟩ : ∃ R, lev ts f (a + 1) (n + 1) d = R := ⟨_, rfl⟩
        obtain ⟨l, b, e⟩ := R
        by_cases he : e = 0
        · subst he
          rw [lp_ok hR]
          exact fun h hc => i3 n d _ (cur ++ l) b h (by rw [List.length_append]; omega)
        · rw [lp_bad hR he]
          exact fun h => absurd h he

section
variable {ts : List Tok} {tv : Value} {km b i : Nat} {l : List Nd} {nv : Value} {w w' : World}
/-- Another row is turned. -/
theorem Rd.other {row : Option Nat} (h : Rd ts tv km b i l nv w) (hg : w.grownBy w' row) (hr : ∀ k, row = some k → b < k ∧ nv.ownBlock ≠ some k) : Rd ts tv km b i l nv w' := by
  have hB : Below b w w' := ⟨hg.os, hg.tape, hg.output, hg.size, fun k hk => hg.block k (Nat.lt_trans hk h.size) (fun e => by have := (hr k e.symm).1; omega)⟩
  refine ⟨h.box.grown hg (fun e => by have := (hr b e.symm).1; omega), h.own.kept hg ?_, h.toks.below hB, h.map.to hB h.lt, h.lt, h.len⟩
  cases e : nv.ownBlock with
  | none => exact .inl rfl
  | some k => exact .inr (fun c => (hr k c.symm).2 e)
theorem RKept.later {d : Nat} {r r' : Option Nat} {x y z : World} {row : Option Nat} (h : RKept d r r' x y) (hg : y.grownBy z row) (hr : ∀ k, row = some k → x.heap.size ≤ k) : RKept d r r' x z :=
  ⟨hg.os.trans h.os, hg.tape.trans h.tape, hg.output.trans h.output, Nat.le_trans h.size hg.size, fun k hk hd hn => by
    rw [hg.block k (Nat.lt_of_lt_of_le hk h.size) (fun e => by have := hr k e.symm; omega)]
    exact h.block k hk hd hn, fun k e => by
    rcases h.row k e with e | e
    · exact .inl e
    · exact .inr e⟩
end

/-- What is still to be gone through, read off the reader's place. -/
def atOf (b : Nat) (w : World) : Nat := match w.cell? ⟨b, 1, none⟩ with
  | some (.int _ a) => 2000 - a.toNat
  | _ => 0
theorem atOf_is {w : World} {b a : Nat} {v0 v2 v3 : Value} (h : BoxL w b [v0, .int .i64 a, v2, v3]) : atOf b w = 2000 - a := by
  unfold atOf
  rw [h.row 1 _ rfl]
  simp

theorem fld_at (t : Tok) (w : World) : (Instr.field 51 (.agg #[.int .i64 t.K, .string t.S, .int .i64 t.V, .int .i64 t.A]) 3).run Try.prog w = .ok (.int .i64 t.A) w := by kernel_rfl

theorem row_six (ts : List Tok) (tv : Value) (km b f : Nat) (HP : PartOk ts tv km b f) (i d : Nat) (l : List Nd) (nv : Value) (w : World) (hd : d ≤ 24) (hf : 8 * (ts.length - i) + 2 ≤ f + 1) (h : Rd ts tv km b i l nv w) :
    Calls Try.prog 17 #[.pointer (some ⟨b, 0, none⟩), .int .i64 6, .int .i64 (d : Int)] w fun e w' => ReadTo tv km b l nv (lev ts (f + 1) i 6 d) w e w' := by
  rw [lev_six]
  have HC := keep (HP i d l nv w hd (by omega) h)
  generalize one ts f i d = R at HC ⊢
  clear HP hd hf h
  go_enter Try.func17, Try.ntmps17
  go_wp2_with fail
  refine HC.out.mono ?_
  rintro e w1 ⟨rfl, nv', h1, h2, h3⟩
  have H := keep (show _ ∧ _ ∧ _ from ⟨h1, h2, h3⟩)
  clear h1 h2 h3
  go_wp2_with fail
  go_ret
  exact ⟨rfl, nv', H.out⟩

/-- Between two rounds of row: the signs bt so far, what stands between them, the reader at the next term. -/
structure LevAt (ts : List Tok) (tv : Value) (km b : Nat) (l : List Nd) (nv : Value) (i n d f : Nat) (R : List Nd × Nat × Int) (w : World) (bv : Value) (wr : World) : Prop where
  out : ∃ (bt cur : List Nd) (a g : Nat) (nv' : Value), Rd ts tv km b a (l ++ cur) nv' wr ∧ wr.ownsRow w.heap.size 42 5 bv bt.length (ncs bt) ∧ (∀ k, bv.ownBlock = some k → nv'.ownBlock ≠ some k) ∧ RKept b nv.ownBlock nv'.ownBlock w wr ∧
    lp ts g n d bt cur a = R ∧ 8 * (ts.length - a) + 7 - n ≤ g ∧ g ≤ f ∧ bt.length ≤ a - i ∧ i ≤ a

set_option maxRecDepth 100000 in
set_option maxHeartbeats 8000000 in
theorem row_low (ts : List Tok) (tv : Value) (km b f : Nat) (hlen : ts.length ≤ 1000) (hts : ∀ t ∈ ts, t.S.size ≤ maxLen) (HR : ∀ g, g ≤ f → RowOk ts tv km b g) (i n d : Nat) (l : List Nd) (nv : Value) (w : World) (h1 : 1 ≤ n) (h5 : n ≤ 5) (hd : d ≤ 24) (hf : 8 * (ts.length - i) + 8 - n ≤ f + 1) (h : Rd ts tv km b i l nv w) :
    Calls Try.prog 17 #[.pointer (some ⟨b, 0, none⟩), .int .i64 (n : Int), .int .i64 (d : Int)] w fun e w' => ReadTo tv km b l nv (lev ts (f + 1) i n d) w e w' := by
  rw [lev_low ts f i d (by omega)]
  obtain ⟨R, hR⟩ : ∃ R, lp ts f n d [] [] i = R := ⟨_, rfl⟩
  rw [hR]
  obtain ⟨ao, ac, rfl⟩ := own_form h.own
  have H0 : Keep (LevAt ts tv km b l (.slice ao l.length ac) i n d f R w (.slice none 0 0) w) := ⟨⟨[], [], i, f, _, by rw [List.append_nil]; exact h, World.ownsRow_nil _ _ _ _, by simp [Value.ownBlock], RKept.refl _ _ _, hR, by omega, Nat.le_refl _, by simp, Nat.le_refl _⟩⟩
  obtain ⟨q, hq⟩ : ∃ q, q = l.length := ⟨_, rfl⟩
  rw [← hq] at H0 ⊢
  have HQ := keep hq
  have HRD := keep h
  have c2 := h.box.row 2 _ rfl
  rw [← hq] at c2
  have hbl := h.size
  have HROW := keep (fun g (hg : g ≤ f) a m v W (hr : 8 * (ts.length - a) + 7 - n ≤ g) (h : Rd ts tv km b a m v W) => show Calls Try.prog 17 #[.pointer (some ⟨b, 0, none⟩), .int .i64 ((n : Int) + 1), .int .i64 (d : Int)] W fun e w' => ReadTo tv km b m v (lev ts g a (n + 1) d) W e w' from
    HR g hg a (n + 1) d m v W (by omega) (by omega) hd (by omega) h)
  have HKIND := keep (fun a m v W (h : Rd ts tv km b a m v W) => kind_any b b km tv v ts a (n : Int) (by omega) hts W h.box h.toks (Nat.le_of_lt h.size) h.map)
  have HTOK := keep (fun a m v W (h : Rd ts tv km b a m v W) => token_any b b tv v (.map (some km)) ts a W h.box h.toks (Nat.le_of_lt h.size))
  have HLEN := keep hlen
  have h6 : ((n : Int) == 6) = false := by rw [beq_eq_false_iff_ne]; omega
  have hnI : (n : Int) ≤ 5 := by omega
  have hn1 : (1 : Int) ≤ (n : Int) := by omega
  have HN := keep h1
  clear hR hq h hlen hts HR h1 h5 hd hf
  go_enter Try.func17, Try.ntmps17
  go_wp2_with fail
  clear c2
  go_loopw [8] (fun bv wr => ∃ (bo : Option Addr) (k bc : Nat), bv = .slice bo k bc ∧ Keep (LevAt ts tv km b l (.slice ao q ac) i n d f R w (.slice bo k bc) wr)) (fun _ wr => atOf b wr)
  case atStart => exact ⟨none, 0, 0, rfl, H0⟩
  case round =>
    obtain ⟨bo, k, bc, rfl, ⟨⟨bt, cur, a, g, nv', hrd, hown, hap, hkept, hlp, hg, hgf, hbt, hia⟩⟩⟩ := hrel
    clear H0
    have hkb : bt.length = k := by
      obtain ⟨o, c, e⟩ := own_form hown
      injection e with _ e
      exact e.symm
    have HC := keep (HROW.out g hgf a _ _ wr hg hrd)
    have HFT := keep ((fits_all ts g).1 a (n + 1) d)
    have HSO := keep ((some_all ts g).1 a (n + 1) d)
    have HK := keep hkept
    have HO := keep hown
    have HAP := keep hap
    have HRR := keep hrd
    have HKB := keep hkb
    have HBT := keep (show bt.length ≤ a - i ∧ i ≤ a from ⟨hbt, hia⟩)
    have HG := keep (show 8 * (ts.length - a) + 7 - n ≤ g ∧ g ≤ f from ⟨hg, hgf⟩)
    obtain ⟨M, hM⟩ : ∃ M, lev ts g a (n + 1) d = M := ⟨_, rfl⟩
    obtain ⟨m, a', E⟩ := M
    rw [hM] at HC HFT HSO
    by_cases hE : E = 0
    · subst hE
      rw [lp_ok hM] at hlp
      obtain ⟨k1, k2, k3⟩ := HFT.out rfl
      simp only at k1 k2 k3
      have k4 : 1 ≤ m.length := HSO.out rfl
      have HF := keep (show m.length ≤ a' - a ∧ a < a' ∧ a' ≤ ts.length ∧ 1 ≤ m.length from ⟨k1, k2, k3, k4⟩)
      obtain ⟨g', rfl⟩ : ∃ g', g = g' + 1 := ⟨g - 1, by have := HG.out; have := HN.out; omega⟩
      obtain ⟨op, hop⟩ : ∃ op, kd (tokAt ts a') n = op := ⟨_, rfl⟩
      have hstop := goL_stop (ts := ts) (f := g') (n := n) (d := d) (bt := bt) (cur := cur ++ m) (a := a')
      have hon := goL_on (ts := ts) (f := g') (n := n) (d := d) (bt := bt) (cur := cur ++ m) (a := a')
      rw [hop, hlp, hkb] at hstop hon
      clear hrd hown hap hkept hg hgf hbt hia hM hlp k1 k2 k3 k4 HFT HSO
      by_cases h0 : op = 0
      · have b0 : (op == 0) = true := by simpa using h0
        have hS := hstop (.inl h0)
        have HS := keep hS
        clear hstop hon hS h0 hkb
        go_wp2_with fail
        refine HC.out.mono ?_
        rintro e w1 ⟨rfl, nv1, hb1, hk1, ho1⟩
        have HR1 := keep (HRR.out.after (a := a') (m := l ++ cur ++ m) hb1 hk1 (ho1 rfl) (by have := HF.out; have := HRR.out.len; rw [List.length_append]; omega))
        have HK1 := keep (HK.out.trans hk1)
        have HO1 := keep (hk1.own HO.out (fun j hj => ⟨fun e => by have := (HO.out.lt j hj).1; have := HRD.out.size; omega, HAP.out j hj⟩))
        have HAP1 : Keep (∀ j, (Value.slice bo k bc).ownBlock = some j → nv1.ownBlock ≠ some j) := keep (fun j hj e => by
          rcases hk1.row j e with e | e
          · exact HAP.out j hj e
          · have := (HO.out.lt j hj).2; omega)
        have HKI := keep (HKIND.out a' _ _ w1 HR1.out)
        rw [hop] at HKI
        obtain ⟨ao1, ac1, rfl⟩ := own_form HR1.out.own
        obtain ⟨q1, hq1⟩ : ∃ q1, q1 = (l ++ cur ++ m).length := ⟨_, rfl⟩
        have HQ1 := keep hq1
        rw [← hq1] at HR1 HK1 HAP1
        clear hb1 hk1 ho1 HC hop hq1
        go_wp2_with fail
        refine HKI.out.mono ?_
        rintro e w2 ⟨rfl, h2⟩
        have HR2 := keep (HR1.out.to h2)
        have HK2 := keep (HK1.out.trans (RKept.of h2))
        have HO2 := keep (own_to HO1.out h2)
        clear h2 HKI
        go_wp2_with fail
        refine (reverse_any w.heap.size (.slice bo k bc) bt (by have := HF.out; have := HBT.out; have := HLEN.out; omega) w2 HO2.out).mono ?_
        rintro e w3 ⟨rfl, ho3, hg3⟩
        have hlt := HO2.out.lt
        have HR3 := keep (HR2.out.other hg3 (fun j hj => ⟨by have := (hlt j hj).1; have := HRD.out.size; omega, HAP1.out j hj⟩))
        have HK3 := keep (HK2.out.later hg3 (fun j hj => (hlt j hj).1))
        have HO3 : Keep (w3.ownsRow w.heap.size 42 5 (.slice bo k bc) bt.reverse.length (ncs bt.reverse)) := keep (by rw [List.length_reverse]; exact ho3)
        have c2 := HR3.out.box.row 2 _ rfl
        clear ho3 hg3 hlt
        go_wp2_with fail
        have HQL := keep (show l.length < (l ++ cur ++ m).length by have := HF.out; rw [List.length_append, List.length_append]; omega)
        refine (insert_any (b + 1) (.slice ao1 q1 ac1) (.slice bo k bc) (l ++ cur ++ m) bt.reverse q (by rw [HQ.out]; exact HQL.out) (by have := HF.out; have := HBT.out; have := HLEN.out; have := HR3.out.len; rw [List.length_reverse]; omega) w3 (by have := HR3.out.size; omega) HR3.out.own w.heap.size HO3.out HAP1.out).mono ?_
        rintro e w4 ⟨v', rfl, ho4, hg4, hat4⟩
        obtain ⟨ov, nvv, cv, rfl⟩ := own_slice' ho4
        have HB4 := keep (HR3.out.box.grown hg4 (fun e => by have := (HR3.out.own.lt _ e.symm).1; omega))
        have HK4 := keep (HK3.out.trans (RKept.grown hg4 hat4))
        have HO4 := keep ho4
        have f2 := HB4.out.free 2
        have c2' := HB4.out.row 2 _ rfl
        clear ho4 hg4 hat4 c2
        go_wp2_with fail
        go_ret
        rw [HS.out]
        refine ⟨rfl, .slice ov nvv cv, HB4.out.set 2 _ (by simp), HK4.out.trans (RKept.cell (grown_at w4 b 2 _)), fun _ => ?_⟩
        have e : l ++ (bt.reverse ++ (cur ++ m)) = (l ++ cur ++ m).take q ++ bt.reverse ++ (l ++ cur ++ m).drop q := by
          rw [HQ.out, List.append_assoc l cur m, List.take_left, List.drop_left, List.append_assoc]
        simp only [e]
        exact own_other HO4.out b 2 _ (fun e => by have := (HO4.out.lt _ e).1; omega)
      · have b0 : (op == 0) = false := by simpa using h0
        by_cases h3 : n = 3
        · have b3 : ((n : Int) == 3) = true := by rw [beq_iff_eq]; omega
          by_cases hk1 : k = 1
          · have bk : ((k : Int) == 1) = true := by rw [beq_iff_eq]; omega
            have hS := hstop (.inr ⟨h3, hk1⟩)
            have HS := keep hS
            clear hstop hon hS h0 hkb h3 hk1
            go_wp2_with fail
            refine HC.out.mono ?_
            rintro e w1 ⟨rfl, nv1, hb1, hk1, ho1⟩
            have HR1 := keep (HRR.out.after (a := a') (m := l ++ cur ++ m) hb1 hk1 (ho1 rfl) (by have := HF.out; have := HRR.out.len; rw [List.length_append]; omega))
            have HK1 := keep (HK.out.trans hk1)
            have HO1 := keep (hk1.own HO.out (fun j hj => ⟨fun e => by have := (HO.out.lt j hj).1; have := HRD.out.size; omega, HAP.out j hj⟩))
            have HAP1 : Keep (∀ j, (Value.slice bo k bc).ownBlock = some j → nv1.ownBlock ≠ some j) := keep (fun j hj e => by
              rcases hk1.row j e with e | e
              · exact HAP.out j hj e
              · have := (HO.out.lt j hj).2; omega)
            have HKI := keep (HKIND.out a' _ _ w1 HR1.out)
            rw [hop] at HKI
            obtain ⟨ao1, ac1, rfl⟩ := own_form HR1.out.own
            obtain ⟨q1, hq1⟩ : ∃ q1, q1 = (l ++ cur ++ m).length := ⟨_, rfl⟩
            have HQ1 := keep hq1
            rw [← hq1] at HR1 HK1 HAP1
            clear hb1 hk1 ho1 HC hop hq1
            go_wp2_with fail
            refine HKI.out.mono ?_
            rintro e w2 ⟨rfl, h2⟩
            have HR2 := keep (HR1.out.to h2)
            have HK2 := keep (HK1.out.trans (RKept.of h2))
            have HO2 := keep (own_to HO1.out h2)
            clear h2 HKI
            go_wp2_with fail
            refine (reverse_any w.heap.size (.slice bo k bc) bt (by have := HF.out; have := HBT.out; have := HLEN.out; omega) w2 HO2.out).mono ?_
            rintro e w3 ⟨rfl, ho3, hg3⟩
            have hlt := HO2.out.lt
            have HR3 := keep (HR2.out.other hg3 (fun j hj => ⟨by have := (hlt j hj).1; have := HRD.out.size; omega, HAP1.out j hj⟩))
            have HK3 := keep (HK2.out.later hg3 (fun j hj => (hlt j hj).1))
            have HO3 : Keep (w3.ownsRow w.heap.size 42 5 (.slice bo k bc) bt.reverse.length (ncs bt.reverse)) := keep (by rw [List.length_reverse]; exact ho3)
            have c2 := HR3.out.box.row 2 _ rfl
            clear ho3 hg3 hlt
            go_wp2_with fail
            have HQL := keep (show l.length < (l ++ cur ++ m).length by have := HF.out; rw [List.length_append, List.length_append]; omega)
            refine (insert_any (b + 1) (.slice ao1 q1 ac1) (.slice bo k bc) (l ++ cur ++ m) bt.reverse q (by rw [HQ.out]; exact HQL.out) (by have := HF.out; have := HBT.out; have := HLEN.out; have := HR3.out.len; rw [List.length_reverse]; omega) w3 (by have := HR3.out.size; omega) HR3.out.own w.heap.size HO3.out HAP1.out).mono ?_
            rintro e w4 ⟨v', rfl, ho4, hg4, hat4⟩
            obtain ⟨ov, nvv, cv, rfl⟩ := own_slice' ho4
            have HB4 := keep (HR3.out.box.grown hg4 (fun e => by have := (HR3.out.own.lt _ e.symm).1; omega))
            have HK4 := keep (HK3.out.trans (RKept.grown hg4 hat4))
            have HO4 := keep ho4
            have f2 := HB4.out.free 2
            have c2' := HB4.out.row 2 _ rfl
            clear ho4 hg4 hat4 c2
            go_wp2_with fail
            go_ret
            rw [HS.out]
            refine ⟨rfl, .slice ov nvv cv, HB4.out.set 2 _ (by simp), HK4.out.trans (RKept.cell (grown_at w4 b 2 _)), fun _ => ?_⟩
            have e : l ++ (bt.reverse ++ (cur ++ m)) = (l ++ cur ++ m).take q ++ bt.reverse ++ (l ++ cur ++ m).drop q := by
              rw [HQ.out, List.append_assoc l cur m, List.take_left, List.drop_left, List.append_assoc]
            simp only [e]
            exact own_other HO4.out b 2 _ (fun e => by have := (HO4.out.lt _ e).1; omega)
          · have bk : ((k : Int) == 1) = false := by rw [beq_eq_false_iff_ne]; omega
            have hS := hon (fun c => by rcases c with c | c; exact h0 c; exact hk1 c.2)
            have HS := keep hS
            clear hstop hon hS h0 hkb h3 hk1
            go_wp2_with fail
            refine HC.out.mono ?_
            rintro e w1 ⟨rfl, nv1, hb1, hk1, ho1⟩
            have HR1 := keep (HRR.out.after (a := a') (m := l ++ cur ++ m) hb1 hk1 (ho1 rfl) (by have := HF.out; have := HRR.out.len; rw [List.length_append]; omega))
            have HK1 := keep (HK.out.trans hk1)
            have HO1 := keep (hk1.own HO.out (fun j hj => ⟨fun e => by have := (HO.out.lt j hj).1; have := HRD.out.size; omega, HAP.out j hj⟩))
            have HAP1 : Keep (∀ j, (Value.slice bo k bc).ownBlock = some j → nv1.ownBlock ≠ some j) := keep (fun j hj e => by
              rcases hk1.row j e with e | e
              · exact HAP.out j hj e
              · have := (HO.out.lt j hj).2; omega)
            have HKI := keep (HKIND.out a' _ _ w1 HR1.out)
            rw [hop] at HKI
            obtain ⟨ao1, ac1, rfl⟩ := own_form HR1.out.own
            obtain ⟨q1, hq1⟩ : ∃ q1, q1 = (l ++ cur ++ m).length := ⟨_, rfl⟩
            have HQ1 := keep hq1
            rw [← hq1] at HR1 HK1 HAP1
            clear hb1 hk1 ho1 HC hop hq1
            go_wp2_with fail
            refine HKI.out.mono ?_
            rintro e w2 ⟨rfl, h2⟩
            have HR2 := keep (HR1.out.to h2)
            have HK2 := keep (HK1.out.trans (RKept.of h2))
            have HO2 := keep (own_to HO1.out h2)
            clear h2 HKI
            go_wp2_with fail
            refine (HTOK.out a' _ _ w2 HR2.out).mono ?_
            rintro e w3 ⟨rfl, h3⟩
            have HR3 := keep (HR2.out.to h3)
            have HK3 := keep (HK2.out.trans (RKept.of h3))
            have HO3 := keep (own_to HO2.out h3)
            obtain ⟨t, ht⟩ : ∃ t, tokAt ts a' = t := ⟨_, rfl⟩
            rw [ht] at HS
            rw [ht]
            unfold Tok.agg
            have hfd := fld_at t
            have HX4 := keep (BoxL.new w3 [.int .i64 op, .string ⟨#[]⟩, .int .i64 0, .int .i64 2, .int .i64 t.A] 42)
            have HB4 := keep ((Below.refl _ w3).alloc (Nat.le_refl _) (.cells #[.int .i64 op, .string ⟨#[]⟩, .int .i64 0, .int .i64 2, .int .i64 t.A] 42))
            have HR4 := keep (HR3.out.to HB4.out)
            have HK4 := keep (HK3.out.trans (RKept.of HB4.out))
            have HO4 := keep (own_to HO3.out HB4.out)
            clear h3 ht
            go_wp2_with (at_builtin; refine wpList_append_nds rfl (.tmp 43) (.tmp 49) rfl w.heap.size (.slice bo k bc) bt rfl HO4.out (by have := HK4.out.size; omega) w3.heap.size 0 1 1 [⟨op, ⟨#[]⟩, 0, 2, t.A⟩] rfl rfl (by have := HF.out; have := HBT.out; have := HLEN.out; omega) (nd_cells (x := ⟨op, ⟨#[]⟩, 0, 2, t.A⟩) HX4.out) ?_)
            intro v' w5 ho5 hg5 hat5
            have ho5' : w5.ownsRow w.heap.size 42 5 v' (bt ++ [(⟨op, ⟨#[]⟩, 0, 2, t.A⟩ : Nd)]).length (ncs (bt ++ [(⟨op, ⟨#[]⟩, 0, 2, t.A⟩ : Nd)])) := by rw [List.length_append]; exact ho5
            clear ho5
            obtain ⟨bo', bc', rfl⟩ := own_form ho5'
            have hlt := HO4.out.lt
            have HR5 := keep (HR4.out.other hg5 (fun j hj => ⟨by have := (hlt j hj).1; have := HRD.out.size; omega, HAP1.out j hj⟩))
            have HK5 := keep (HK4.out.later hg5 (fun j hj => (hlt j hj).1))
            have HAP5 : Keep (∀ j, (Value.slice bo' (bt ++ [(⟨op, ⟨#[]⟩, 0, 2, t.A⟩ : Nd)]).length bc').ownBlock = some j → (Value.slice ao1 q1 ac1).ownBlock ≠ some j) := keep (fun j hj e => by
              rcases hat5 with c | c
              · rw [c] at hj; exact HAP1.out j hj e
              · rw [c] at hj; injection hj with hj; have := (HR4.out.own.lt j e).2; rw [World.size_alloc] at this; omega)
            have HO5 := keep ho5'
            have c1 := HR5.out.box.row 1 _ rfl
            have f1 := HR5.out.box.free 1
            have haI : (a' : Int) ≤ 1000 := by have := HF.out; have := HLEN.out; omega
            clear hfd ho5' hg5 hat5 hlt
            obtain ⟨k', hk'⟩ : ∃ k', k' = (bt ++ [(⟨op, ⟨#[]⟩, 0, 2, t.A⟩ : Nd)]).length := ⟨_, rfl⟩
            have HKQ := keep hk'
            rw [← hk'] at HAP5 HO5 ⊢
            clear hk'
            go_wp2_with fail
            have HR6 := keep HR5.out.step
            have HO6 := keep (own_other HO5.out b 1 (.int .i64 ((a' : Int) + 1)) (fun e => by have := (HO5.out.lt _ e).1; have := HRD.out.size; omega))
            have HK6 := keep (HK5.out.trans (step_kept b (Value.slice ao1 q1 ac1).ownBlock w5 (.int .i64 ((a' : Int) + 1))))
            go_roundw
            case rel =>
              refine ⟨bo', k', bc', rfl, ⟨⟨bt ++ [⟨op, ⟨#[]⟩, 0, 2, t.A⟩], cur ++ m, a' + 1, g', .slice ao1 q1 ac1, by rw [← List.append_assoc]; exact HR6.out, by rw [← HKQ.out]; exact HO6.out, HAP5.out, HK6.out, HS.out.symm, ?_, ?_, ?_, ?_⟩⟩⟩
              all_goals
                have hF := HF.out
                have hG := HG.out
                have hB := HBT.out
                try rw [List.length_append]
                try simp only [List.length_cons, List.length_nil]
                omega
            case measure =>
              rw [atOf_is HR6.out.box, atOf_is HRR.out.box]
              have := HF.out; have := HLEN.out; omega
        · have b3 : ((n : Int) == 3) = false := by rw [beq_eq_false_iff_ne]; omega
          have hS := hon (fun c => by rcases c with c | c; exact h0 c; exact h3 c.1)
          have HS := keep hS
          clear hstop hon hS h0 hkb h3
          go_wp2_with fail
          refine HC.out.mono ?_
          rintro e w1 ⟨rfl, nv1, hb1, hk1, ho1⟩
          have HR1 := keep (HRR.out.after (a := a') (m := l ++ cur ++ m) hb1 hk1 (ho1 rfl) (by have := HF.out; have := HRR.out.len; rw [List.length_append]; omega))
          have HK1 := keep (HK.out.trans hk1)
          have HO1 := keep (hk1.own HO.out (fun j hj => ⟨fun e => by have := (HO.out.lt j hj).1; have := HRD.out.size; omega, HAP.out j hj⟩))
          have HAP1 : Keep (∀ j, (Value.slice bo k bc).ownBlock = some j → nv1.ownBlock ≠ some j) := keep (fun j hj e => by
            rcases hk1.row j e with e | e
            · exact HAP.out j hj e
            · have := (HO.out.lt j hj).2; omega)
          have HKI := keep (HKIND.out a' _ _ w1 HR1.out)
          rw [hop] at HKI
          obtain ⟨ao1, ac1, rfl⟩ := own_form HR1.out.own
          obtain ⟨q1, hq1⟩ : ∃ q1, q1 = (l ++ cur ++ m).length := ⟨_, rfl⟩
          have HQ1 := keep hq1
          rw [← hq1] at HR1 HK1 HAP1
          clear hb1 hk1 ho1 HC hop hq1
          go_wp2_with fail
          refine HKI.out.mono ?_
          rintro e w2 ⟨rfl, h2⟩
          have HR2 := keep (HR1.out.to h2)
          have HK2 := keep (HK1.out.trans (RKept.of h2))
          have HO2 := keep (own_to HO1.out h2)
          clear h2 HKI
          go_wp2_with fail
          refine (HTOK.out a' _ _ w2 HR2.out).mono ?_
          rintro e w3 ⟨rfl, h3⟩
          have HR3 := keep (HR2.out.to h3)
          have HK3 := keep (HK2.out.trans (RKept.of h3))
          have HO3 := keep (own_to HO2.out h3)
          obtain ⟨t, ht⟩ : ∃ t, tokAt ts a' = t := ⟨_, rfl⟩
          rw [ht] at HS
          rw [ht]
          unfold Tok.agg
          have hfd := fld_at t
          have HX4 := keep (BoxL.new w3 [.int .i64 op, .string ⟨#[]⟩, .int .i64 0, .int .i64 2, .int .i64 t.A] 42)
          have HB4 := keep ((Below.refl _ w3).alloc (Nat.le_refl _) (.cells #[.int .i64 op, .string ⟨#[]⟩, .int .i64 0, .int .i64 2, .int .i64 t.A] 42))
          have HR4 := keep (HR3.out.to HB4.out)
          have HK4 := keep (HK3.out.trans (RKept.of HB4.out))
          have HO4 := keep (own_to HO3.out HB4.out)
          clear h3 ht
          go_wp2_with (at_builtin; refine wpList_append_nds rfl (.tmp 43) (.tmp 49) rfl w.heap.size (.slice bo k bc) bt rfl HO4.out (by have := HK4.out.size; omega) w3.heap.size 0 1 1 [⟨op, ⟨#[]⟩, 0, 2, t.A⟩] rfl rfl (by have := HF.out; have := HBT.out; have := HLEN.out; omega) (nd_cells (x := ⟨op, ⟨#[]⟩, 0, 2, t.A⟩) HX4.out) ?_)
          intro v' w5 ho5 hg5 hat5
          have ho5' : w5.ownsRow w.heap.size 42 5 v' (bt ++ [(⟨op, ⟨#[]⟩, 0, 2, t.A⟩ : Nd)]).length (ncs (bt ++ [(⟨op, ⟨#[]⟩, 0, 2, t.A⟩ : Nd)])) := by rw [List.length_append]; exact ho5
          clear ho5
          obtain ⟨bo', bc', rfl⟩ := own_form ho5'
          have hlt := HO4.out.lt
          have HR5 := keep (HR4.out.other hg5 (fun j hj => ⟨by have := (hlt j hj).1; have := HRD.out.size; omega, HAP1.out j hj⟩))
          have HK5 := keep (HK4.out.later hg5 (fun j hj => (hlt j hj).1))
          have HAP5 : Keep (∀ j, (Value.slice bo' (bt ++ [(⟨op, ⟨#[]⟩, 0, 2, t.A⟩ : Nd)]).length bc').ownBlock = some j → (Value.slice ao1 q1 ac1).ownBlock ≠ some j) := keep (fun j hj e => by
            rcases hat5 with c | c
            · rw [c] at hj; exact HAP1.out j hj e
            · rw [c] at hj; injection hj with hj; have := (HR4.out.own.lt j e).2; rw [World.size_alloc] at this; omega)
          have HO5 := keep ho5'
          have c1 := HR5.out.box.row 1 _ rfl
          have f1 := HR5.out.box.free 1
          have haI : (a' : Int) ≤ 1000 := by have := HF.out; have := HLEN.out; omega
          clear hfd ho5' hg5 hat5 hlt
          obtain ⟨k', hk'⟩ : ∃ k', k' = (bt ++ [(⟨op, ⟨#[]⟩, 0, 2, t.A⟩ : Nd)]).length := ⟨_, rfl⟩
          have HKQ := keep hk'
          rw [← hk'] at HAP5 HO5 ⊢
          clear hk'
          go_wp2_with fail
          have HR6 := keep HR5.out.step
          have HO6 := keep (own_other HO5.out b 1 (.int .i64 ((a' : Int) + 1)) (fun e => by have := (HO5.out.lt _ e).1; have := HRD.out.size; omega))
          have HK6 := keep (HK5.out.trans (step_kept b (Value.slice ao1 q1 ac1).ownBlock w5 (.int .i64 ((a' : Int) + 1))))
          go_roundw
          case rel =>
            refine ⟨bo', k', bc', rfl, ⟨⟨bt ++ [⟨op, ⟨#[]⟩, 0, 2, t.A⟩], cur ++ m, a' + 1, g', .slice ao1 q1 ac1, by rw [← List.append_assoc]; exact HR6.out, by rw [← HKQ.out]; exact HO6.out, HAP5.out, HK6.out, HS.out.symm, ?_, ?_, ?_, ?_⟩⟩⟩
            all_goals
              have hF := HF.out
              have hG := HG.out
              have hB := HBT.out
              try rw [List.length_append]
              try simp only [List.length_cons, List.length_nil]
              omega
          case measure =>
            rw [atOf_is HR6.out.box, atOf_is HRR.out.box]
            have := HF.out; have := HLEN.out; omega
    · rw [lp_bad hM hE] at hlp
      have HE := keep hE
      have bE : (E == 0) = false := by simpa using hE
      have bE' : (E != 0) = true := by simpa using hE
      have HS := keep hlp
      clear hrd hown hap hkept hg hgf hbt hia hM hlp HFT HSO hE hkb
      go_wp2_with fail
      refine HC.out.mono ?_
      rintro e w1 ⟨rfl, nv1, hb1, hk1, ho1⟩
      have HB1 := keep hb1
      have HK1 := keep (HK.out.trans hk1)
      clear hb1 hk1 ho1 HC
      go_wp2_with fail
      go_ret
      rw [← HS.out]
      exact ⟨rfl, nv1, HB1.out, HK1.out, fun e => absurd e HE.out⟩
end Go.Proofs.Ytglmcjplglgnlaa
