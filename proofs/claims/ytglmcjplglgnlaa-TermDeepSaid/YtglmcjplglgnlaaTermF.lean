/-
  The document's part of a term: a sign ahead.
-/
import Derived.Test.YtglmcjplglgnlaaTermD
namespace Go.Proofs.Ytglmcjplglgnlaa
open Go.RowKit Go.Joins

set_option maxRecDepth 100000 in
set_option maxHeartbeats 8000000 in
theorem rone_neg (ts : List Tok) (tv : Value) (f : Nat) (hlen : ts.length ≤ 1000) (HO : ROneOk ts tv f) (i d : Nat) (w : World) (S : ByteArray) (V A : Int) (s0 : S = str [45]) (hi : i < ts.length) (h24 : d < 24) (hf : 8 * (ts.length - i) ≤ f) (h : TkRow w.heap.size w tv ts) (ht : tokAt ts i = ⟨4, S, V, A⟩)
    (hr : one ts (f + 1) i d = match one ts f (i + 1) (d + 1) with | (l, a, e) => if e ≠ 0 then ([], a, e) else (⟨3, ⟨#[]⟩, 0, 1, A⟩ :: l, a, 0)) :
    Calls Try.prog 29 #[tv, .int .i64 (i : Int), .int .i64 (d : Int)] w fun e w' => GotTo (one ts (f + 1) i d) w e w' := by
  obtain ⟨o, cap, rfl, -⟩ := h.form
  have HTK := keep h
  have HTOK := keep (fun W (h : TkRow W.heap.size W (.slice o ts.length cap) ts) => rtok_any (.slice o ts.length cap) ts i W h)
  have HB0 := keep ((Below.refl _ w).alloc (Nat.le_refl _) (.cells #[.slice none 0 0, .int .i64 0, .int .i64 0] 30))
  have HR0 := keep (BoxL.new w [.slice none 0 0, .int .i64 0, .int .i64 0] 30)
  have hfit2 := (fits_all ts f).2.1 (i + 1) (d + 1)
  have hsome2 := (some_all ts f).2.1 (i + 1) (d + 1)
  rw [ht] at HTOK
  obtain ⟨n, hn⟩ : ∃ n, n = ts.length := ⟨_, rfl⟩
  have HLEN := keep hlen
  have hiI : (i : Int) < 1000 := by omega
  have hdI : (d : Int) < 24 := by omega
  have hb24 : ((d : Int) == 24) = false := by rw [beq_eq_false_iff_ne]; omega
  rw [← hn] at HTK HTOK HO ⊢
  simp only [Tok.agg] at HTOK
  have q0 : (S.toList == [45]) = true := by rw [s0, toList_str]; rfl
  have q0' : (S.toList != [45]) = false := by rw [bne, q0]; rfl
  have q1 : (S.toList == [33]) = false := by rw [s0, toList_str]; rfl
  have q1' : (S.toList != [33]) = true := by rw [bne, q1]; rfl
  have q2 : (S.toList == [40]) = false := by rw [s0, toList_str]; rfl
  have q2' : (S.toList != [40]) = true := by rw [bne, q2]; rfl
  have HC := keep (fun W (h : TkRow W.heap.size W (.slice o n cap) ts) => show Calls Try.prog 29 #[.slice o n cap, .int .i64 ((i : Int) + 1), .int .i64 ((d : Int) + 1)] W fun e w' => GotTo (one ts f (i + 1) (d + 1)) W e w' from HO (i + 1) (d + 1) W (by omega) (by omega) h)
  clear HO hf h hlen ht hn s0 h24
  have hbad := (bad_all ts f).2.1 (i + 1) (d + 1)
  obtain ⟨RR, hRR⟩ : ∃ RR, one ts (f + 1) i d = RR := ⟨_, rfl⟩
  rw [hRR] at hr ⊢
  obtain ⟨R, hR⟩ : ∃ R, one ts f (i + 1) (d + 1) = R := ⟨_, rfl⟩
  obtain ⟨m, a, E⟩ := R
  rw [hR] at hr HC hfit2 hsome2 hbad
  by_cases hE : E = 0
  · subst hE
    have hr' : RR = (⟨3, ⟨#[]⟩, 0, 1, A⟩ :: m, a, 0) := by rw [hr]; simp
    rw [hr']
    obtain ⟨k1, k2, k3⟩ := hfit2 rfl
    simp only at k1 k2 k3
    have HM := keep (show 1 ≤ m.length ∧ m.length ≤ 1000 ∧ a ≤ 1000 from ⟨hsome2 rfl, by have := HLEN.out; omega, by have := HLEN.out; omega⟩)
    clear hr hr' hRR hR hfit2 hsome2 hbad k1 k2 k3 hi
    go_enter Try.func29, Try.ntmps29
    go_wp2_with fail
    refine (HTOK.out _ (HTK.out.to HB0.out)).mono ?_
    rintro e w1 ⟨rfl, h1⟩
    have HB1 := keep (HB0.out.trans (h1.mono HB0.out.size))
    have HR1 := keep (HR0.out.to h1)
    have hwl : w.heap.size < w1.heap.size := HR1.out.lt
    have hx0 := HR1.out.row 0 _ rfl
    have hx1 := HR1.out.row 1 _ rfl
    have hx2 := HR1.out.row 2 _ rfl
    have hxf := HR1.out.free
    obtain ⟨hs0, hs1, hs2⟩ := HR1.out.put3
    have hsz := size_put3 w1 w.heap.size
    clear h1
    go_wp2_with fail
    have HT1 := keep (BoxL.new w1 [.int .i64 4, .string S, .int .i64 V, .int .i64 A] 51)
    have HB1' := keep (HB1.out.alloc HB1.out.size (.cells #[.int .i64 4, .string S, .int .i64 V, .int .i64 A] 51))
    have HCW := keep (HC.out _ (HTK.out.to HB1'.out))
    have HR1' := keep (HR1.out.alloc (.cells #[.int .i64 4, .string S, .int .i64 V, .int .i64 A] 51))
    clear hx0 hx1 hx2 hxf hs0 hs1 hs2 hsz
    refine HCW.out.mono ?_
    rintro e w2 ⟨v, rfl, hv, h2⟩
    simp only at hv
    obtain ⟨vb, voff, vc, rfl, hvb, hvl, hvc⟩ := hv.open HM.out.1
    have HV := keep hv
    have HVC := keep hvc
    have HVB := keep (show w1.heap.size < vb ∧ vb < w2.heap.size from ⟨by rw [World.size_alloc] at hvb; omega, hvl⟩)
    have HB2 := keep (HB1'.out.trans (h2.mono HB1'.out.size))
    have HR2 := keep (HR1'.out.to h2)
    have HT2 := keep (HT1.out.to h2)
    have hwl2 : w.heap.size < w2.heap.size := HR2.out.lt
    have hx0 := HR2.out.row 0 _ rfl
    have hx1 := HR2.out.row 1 _ rfl
    have hx2 := HR2.out.row 2 _ rfl
    have hxf := HR2.out.free
    have hmI : (m.length : Int) ≤ 1000 := by have := HM.out; omega
    have t1 := HT2.out.row 1 _ rfl
    have htl := HT2.out.lt
    clear hv h2 hvc hvb hvl HCW HC
    obtain ⟨ml, hml⟩ : ∃ ml, ml = m.length := ⟨_, rfl⟩
    have HML := keep hml
    rw [← hml] at hmI HV ⊢
    clear hml
    go_wp2_with fail
    have HX3 := keep (BoxL.new w2 [.slice (some ⟨vb, voff, none⟩) ml vc, .int .i64 a, .int .i64 0] 30)
    have HT3 := keep (HT2.out.alloc (.cells #[.slice (some ⟨vb, voff, none⟩) ml vc, .int .i64 a, .int .i64 0] 30))
    have HR3 := keep (HR2.out.alloc (.cells #[.slice (some ⟨vb, voff, none⟩) ml vc, .int .i64 a, .int .i64 0] 30))
    have HB3 := keep (HB2.out.alloc HB2.out.size (.cells #[.slice (some ⟨vb, voff, none⟩) ml vc, .int .i64 a, .int .i64 0] 30))
    have HV3 := keep (HV.out.alloc (.cells #[.slice (some ⟨vb, voff, none⟩) ml vc, .int .i64 a, .int .i64 0] 30))
    have HOWN := keep (World.ownsRow_lit (e := 42) (base := w2.heap.size + 1) (size := 5) (w2.alloc (.cells #[.slice (some ⟨vb, voff, none⟩) ml vc, .int .i64 a, .int .i64 0] 30)) #[.int .i64 3, .string ⟨#[]⟩, .int .i64 0, .int .i64 1, .int .i64 A] 1 (by simp) (by unfold maxLen; omega) rfl)
    rw [World.size_alloc] at HOWN
    refine AnyGo.region (fun W' => W'.cell? ⟨w1.heap.size, 3, none⟩ = some (.int .i64 A) ∧ W'.cell? ⟨w2.heap.size, 0, none⟩ = some (.slice (some ⟨vb, voff, none⟩) ml vc) ∧ W'.cell? ⟨w2.heap.size, 1, none⟩ = some (.int .i64 a)) (by kernel_rfl) (by rfl) ⟨HT3.out.row 3 _ rfl, HX3.out.row 0 _ rfl, HX3.out.row 1 _ rfl⟩ ?_
    intro wd ewd
    subst ewd
    clear hx0 hx1 hx2 hxf t1
    (refine AnyGo.take 0 (some 110) ?_ (a' := ?_) rfl (by kernel_rfl) (fun _ _ d _ _ h => by cases d <;> exact h) (by kernel_rfl) (by rfl) (by kernel_rfl) ?_ ?_ ?_; rotate_left 2; (focus (intro W hW; (try dsimp only at hW); go_simp; (try with_reducible rfl))); (focus (simp only [Act.put, List.setIfInBounds_toArray]; rfl)))
    (refine AnyGo.take 1 (some 111) ?_ (a' := ?_) rfl (by kernel_rfl) (fun _ _ d _ _ h => by cases d <;> exact h) (by kernel_rfl) (by rfl) (by kernel_rfl) ?_ ?_ ?_; rotate_left 2; (focus (intro W hW; (try dsimp only at hW); go_simp; (try with_reducible rfl))); (focus (simp only [Act.put, List.setIfInBounds_toArray]; rfl)))
    (refine AnyGo.take 2 (some 112) ?_ (a' := ?_) rfl (by kernel_rfl) (fun _ _ d _ _ h => by cases d <;> exact h) (by kernel_rfl) (by rfl) (by kernel_rfl) ?_ ?_ ?_; rotate_left 2; (focus (intro W hW; (try dsimp only at hW); go_simp; (try with_reducible rfl))); (focus (simp only [Act.put, List.setIfInBounds_toArray]; rfl)))
    (refine AnyGo.take 3 (some 113) ?_ (a' := ?_) rfl (by kernel_rfl) (fun _ _ d _ _ h => by cases d <;> exact h) (by kernel_rfl) (by rfl) (by kernel_rfl) ?_ ?_ ?_; rotate_left 2; (focus (intro W hW; (try dsimp only at hW); go_simp; (try with_reducible rfl))); (focus (simp only [Act.put, List.setIfInBounds_toArray]; rfl)))
    (refine AnyGo.take 5 (some 115) ?_ (a' := ?_) rfl (by kernel_rfl) (fun _ _ d _ _ h => by cases d <;> exact h) (by kernel_rfl) (by rfl) (by kernel_rfl) ?_ ?_ ?_; rotate_left 2; (focus (intro W hW; (try dsimp only at hW); go_simp; (try with_reducible rfl))); (focus (simp only [Act.put, List.setIfInBounds_toArray]; rfl)))
    (refine AnyGo.take 6 (some 116) ?_ (a' := ?_) rfl (by kernel_rfl) (fun _ _ d _ _ h => by cases d <;> exact h) (by kernel_rfl) (by rfl) (by kernel_rfl) ?_ ?_ ?_; rotate_left 2; (focus (intro W hW; (try dsimp only at hW); go_simp; (try with_reducible rfl))); (focus (simp only [Act.put, List.setIfInBounds_toArray]; rfl)))
    (refine AnyGo.take 8 (some 118) ?_ (a' := ?_) rfl (by kernel_rfl) (fun _ _ d _ _ h => by cases d <;> exact h) (by kernel_rfl) (by rfl) (by kernel_rfl) ?_ ?_ ?_; rotate_left 2; (focus (intro W hW; (try dsimp only at hW); go_simp; (try with_reducible rfl))); (focus (simp only [Act.put, List.setIfInBounds_toArray]; rfl)))
    (refine AnyGo.take 9 (some 119) ?_ (a' := ?_) rfl (by kernel_rfl) (fun _ _ d _ _ h => by cases d <;> exact h) (by kernel_rfl) (by rfl) (by kernel_rfl) ?_ ?_ ?_; rotate_left 2; (focus (intro W hW; (try dsimp only at hW); go_simp; (try with_reducible rfl))); (focus (simp only [Act.put, List.setIfInBounds_toArray]; rfl)))
    refine AnyGo.one (i := 4) (by kernel_rfl) rfl (by kernel_rfl) (fun K' hK' => ?_)
    go_simp
    have HT4 := keep ((HT3.out.alloc (.cells #[.int .i64 3, .string ⟨#[]⟩, .int .i64 0, .int .i64 1, .int .i64 A] 42)).drew)
    have HX4 := keep ((HX3.out.alloc (.cells #[.int .i64 3, .string ⟨#[]⟩, .int .i64 0, .int .i64 1, .int .i64 A] 42)).drew)
    have HR4 := keep ((HR3.out.alloc (.cells #[.int .i64 3, .string ⟨#[]⟩, .int .i64 0, .int .i64 1, .int .i64 A] 42)).drew)
    have HB4 := keep ((HB3.out.alloc HB3.out.size (.cells #[.int .i64 3, .string ⟨#[]⟩, .int .i64 0, .int .i64 1, .int .i64 A] 42)).drew)
    have HW4 : Keep (Below w2.heap.size w2 ((w2.alloc (.cells #[.slice (some ⟨vb, voff, none⟩) ml vc, .int .i64 a, .int .i64 0] 30)).alloc (.cells #[.int .i64 3, .string ⟨#[]⟩, .int .i64 0, .int .i64 1, .int .i64 A] 42)).drew) := keep ((((Below.refl _ w2).alloc (Nat.le_refl _) _).alloc (by simp) _).drew)
    refine hK'.out _ _ ⟨HT4.out.row 3 _ rfl, HX4.out.row 0 _ rfl, HX4.out.row 1 _ rfl⟩ ?_
    clear hK' K'
    (try simp only [Act.put, List.setIfInBounds_toArray])
    refine AnyGo.one (i := 7) (by kernel_rfl) rfl (by kernel_rfl) (fun K' hK' => ?_)
    refine wp_append_nds (.tmp 114) (.tmp 116) rfl (w2.heap.size + 1) (.slice (some ⟨w2.heap.size + 1, 0, none⟩) 1 1) [⟨3, ⟨#[]⟩, 0, 1, A⟩] rfl HOWN.out (by simp) vb voff ml vc m rfl HML.out.symm (by have := HM.out; have := HML.out; simp; omega)
      (fun j u hj => (HW4.out.cell (p := ⟨vb, voff + j, none⟩) HVB.out.2).trans (HVC.out j u hj)) (some 117) rfl ?_
    intro v' w5 ho5 hg5 hat5
    replace hg5 : World.grownBy _ w5 (some (w2.heap.size + 1)) := hg5
    have HO5 := keep (show w5.ownsRow (w2.heap.size + 1) 42 5 v' (⟨3, ⟨#[]⟩, 0, 1, A⟩ :: m : List Nd).length (ncs (⟨3, ⟨#[]⟩, 0, 1, A⟩ :: m)) from ho5)
    obtain ⟨vo5, vn5, vc5, rfl⟩ := own_slice' ho5
    have HT5 := keep (HT4.out.grown hg5 (fun e => by injection e with e; have := HT2.out.lt; omega))
    have HX5 := keep (HX4.out.grown hg5 (fun e => by injection e with e; omega))
    have HR5 := keep (HR4.out.grown hg5 (fun e => by injection e with e; omega))
    have HB5 := keep (HB4.out.trans (grown_below hg5 (by omega) HB4.out.size))
    refine hK'.out _ _ ⟨HT5.out.row 3 _ rfl, HX5.out.row 0 _ rfl, HX5.out.row 1 _ rfl⟩ ?_
    clear hK' K' ho5 hg5 hat5
    (try simp only [Act.put, List.setIfInBounds_toArray])
    (refine AnyGo.take 10 (some 120) ?_ (a' := ?_) rfl (by kernel_rfl) (fun _ _ d _ _ h => by cases d <;> exact h) (by kernel_rfl) (by rfl) (by kernel_rfl) ?_ ?_ ?_; rotate_left 2; (focus (intro W hW; (try dsimp only at hW); go_simp; (try with_reducible rfl))); (focus (simp only [Act.put, List.setIfInBounds_toArray]; rfl)))
    have r0 := HR5.out.row 0 _ rfl
    have r1 := HR5.out.row 1 _ rfl
    have r2 := HR5.out.row 2 _ rfl
    have rf := HR5.out.free
    refine AnyGo.one (i := 11) (by kernel_rfl) rfl (by kernel_rfl) (fun K' hK' => ?_)
    go_simp
    have hd1 : ¬ w1.heap.size = w.heap.size := by omega
    have hd2 : ¬ w2.heap.size = w.heap.size := by omega
    have HT6 := keep (((HT5.out.other (p := ⟨w.heap.size, 0, none⟩) (.slice vo5 vn5 vc5) (fun c => hd1 c.symm)).other (p := ⟨w.heap.size, 1, none⟩) (.int .i64 a) (fun c => hd1 c.symm)).other (p := ⟨w.heap.size, 2, none⟩) (.int .i64 0) (fun c => hd1 c.symm))
    have HX6 := keep (((HX5.out.other (p := ⟨w.heap.size, 0, none⟩) (.slice vo5 vn5 vc5) (fun c => hd2 c.symm)).other (p := ⟨w.heap.size, 1, none⟩) (.int .i64 a) (fun c => hd2 c.symm)).other (p := ⟨w.heap.size, 2, none⟩) (.int .i64 0) (fun c => hd2 c.symm))
    refine hK'.out _ _ ⟨HT6.out.row 3 _ rfl, HX6.out.row 0 _ rfl, HX6.out.row 1 _ rfl⟩ ?_
    clear hK' K' r0 r1 r2 rf
    (try simp only [Act.put])
    refine AnyGo.fin (by kernel_rfl) ?_
    (try simp only [List.set_cons_succ, List.set_cons_zero])
    obtain ⟨hs0, hs1, hs2⟩ := HR5.out.put3
    go_wp2_with fail
    refine bodyPost_ret (v := .agg #[.slice vo5 vn5 vc5, .int .i64 a, .int .i64 0]) ?_ rfl ⟨_, rfl, ((NIn.of_own HO5.out (by have := HM.out; simp; omega)).mono (by omega)).put3 w.heap.size (fun c => by have := (HO5.out.lt _ c).1; omega) _ _ _, below_put3 HB5.out (Nat.le_refl _) _ _ _⟩
    simp [results, Try.results29, go_sem, hs0, hs1, hs2]
  · have hr' : RR = ([], a, E) := by rw [hr]; simp [hE]
    rw [hr']
    have hm0 : m = [] := hbad hE
    subst hm0
    have bE : (E == 0) = false := by simpa using hE
    have bE' : (E != 0) = true := by simpa using hE
    clear hr hr' hRR hR hfit2 hsome2 hbad hE hi
    go_enter Try.func29, Try.ntmps29
    go_wp2_with fail
    refine (HTOK.out _ (HTK.out.to HB0.out)).mono ?_
    rintro e w1 ⟨rfl, h1⟩
    have HB1 := keep (HB0.out.trans (h1.mono HB0.out.size))
    have HR1 := keep (HR0.out.to h1)
    have hwl : w.heap.size < w1.heap.size := HR1.out.lt
    have hx0 := HR1.out.row 0 _ rfl
    have hx1 := HR1.out.row 1 _ rfl
    have hx2 := HR1.out.row 2 _ rfl
    have hxf := HR1.out.free
    obtain ⟨hs0, hs1, hs2⟩ := HR1.out.put3
    have hsz := size_put3 w1 w.heap.size
    clear h1
    go_wp2_with fail
    have HB1' := keep (HB1.out.alloc HB1.out.size (.cells #[.int .i64 4, .string S, .int .i64 V, .int .i64 A] 51))
    have HCW := keep (HC.out _ (HTK.out.to HB1'.out))
    have HR1' := keep (HR1.out.alloc (.cells #[.int .i64 4, .string S, .int .i64 V, .int .i64 A] 51))
    clear hx0 hx1 hx2 hxf hs0 hs1 hs2 hsz
    refine HCW.out.mono ?_
    rintro e w2 ⟨v, rfl, hv, h2⟩
    simp only at hv
    obtain ⟨vo, vc, rfl⟩ := hv.form
    have HV := keep (hv.mono (lo' := w.heap.size + 1) (by simp; omega))
    have HB2 := keep (HB1'.out.trans (h2.mono HB1'.out.size))
    have HR2 := keep (HR1'.out.to h2)
    have hwl2 : w.heap.size < w2.heap.size := HR2.out.lt
    have hx0 := HR2.out.row 0 _ rfl
    have hx1 := HR2.out.row 1 _ rfl
    have hx2 := HR2.out.row 2 _ rfl
    have hxf := HR2.out.free
    obtain ⟨hs0, hs1, hs2⟩ := HR2.out.put3
    have hsz := size_put3 w2 w.heap.size
    clear hv h2 HCW HC
    simp only [List.length_nil] at *
    go_wp2_with fail
    refine bodyPost_ret (v := .agg #[.slice vo 0 vc, .int .i64 a, .int .i64 E]) ?_ rfl ⟨_, rfl, ((HV.out.mono (Nat.le_succ _)).put3 w.heap.size (fun c => by have := (HV.out.lt _ c).1; omega) _ _ _).alloc _, (below_put3 HB2.out (Nat.le_refl _) _ _ _).alloc (by rw [hsz]; exact HB2.out.size) _⟩
    simp [results, Try.results29, go_sem, hs0, hs1, hs2, hsz, hwl2]
end Go.Proofs.Ytglmcjplglgnlaa
