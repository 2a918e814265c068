/-
  The document's part of a term.
-/
import Derived.Test.YtglmcjplglgnlaaTermE
import Derived.Test.YtglmcjplglgnlaaTermF
import Derived.Test.YtglmcjplglgnlaaTermFN
namespace Go.Proofs.Ytglmcjplglgnlaa
open Go.RowKit Go.Joins

set_option maxRecDepth 100000 in
set_option maxHeartbeats 8000000 in
theorem rone_any (ts : List Tok) (tv : Value) (f : Nat) (hlen : ts.length ≤ 1000) (HL : RLevOk ts tv f) (HO : ROneOk ts tv f) : ROneOk ts tv (f + 1) := by
  intro i d w hd hf h
  obtain ⟨o, cap, rfl, -⟩ := h.form
  have HTK := keep h
  have HTOK := keep (fun W (h : TkRow W.heap.size W (.slice o ts.length cap) ts) => rtok_any (.slice o ts.length cap) ts i W h)
  have HB0 := keep ((Below.refl _ w).alloc (Nat.le_refl _) (.cells #[.slice none 0 0, .int .i64 0, .int .i64 0] 30))
  have HR0 := keep (BoxL.new w [.slice none 0 0, .int .i64 0, .int .i64 0] 30)
  have hk1 := fun (e : (tokAt ts i).K = 2) => one_num (f := f) (d := d) e
  have hk2 := fun (e : (tokAt ts i).K = 1) => one_name (f := f) (d := d) e
  have hk3 := fun (h2 : (tokAt ts i).K ≠ 2) (h1 : (tokAt ts i).K ≠ 1) (h : kd (tokAt ts i) 6 = 0) (ho : isOn (tokAt ts i) (str [40]) = false) => one_none (f := f) (d := d) h2 h1 h ho
  have hk4 := fun (h2 : (tokAt ts i).K ≠ 2) (h1 : (tokAt ts i).K ≠ 1) h (hd : d = 24) => one_deep (ts := ts) (i := i) (f := f) h2 h1 h hd
  have hk5 := fun (h2 : (tokAt ts i).K ≠ 2) (h1 : (tokAt ts i).K ≠ 1) h ho (hd : d ≠ 24) => one_brk (ts := ts) (i := i) (f := f) h2 h1 h ho hd
  have hk6 := fun (h2 : (tokAt ts i).K ≠ 2) (h1 : (tokAt ts i).K ≠ 1) h (hd : d ≠ 24) => one_sign (ts := ts) (i := i) (f := f) h2 h1 h hd
  have hin1 : (tokAt ts i).K ≠ 0 → i < ts.length := in_of
  obtain ⟨t, ht⟩ : ∃ t, tokAt ts i = t := ⟨_, rfl⟩
  rw [ht] at HTOK hk1 hk2 hk3 hk4 hk5 hk6 hin1
  obtain ⟨n, hn⟩ : ∃ n, n = ts.length := ⟨_, rfl⟩
  have HN := keep hn
  have HLEN := keep hlen
  have HO' := HO
  have HL' := HL
  rw [← hn] at HTK HTOK HL HO hin1
  obtain ⟨K, S, V, A⟩ := t
  simp only [Tok.agg] at HTOK
  simp only at hk1 hk2 hk3 hk4 hk5 hk6 hin1
  have hdI : (d : Int) ≤ 24 := by omega
  by_cases h2 : K = 2
  · subst h2
    rw [hk1 rfl]
    have hi := hin1 (by omega)
    have hiI : (i : Int) < 1000 := by omega
    rw [← hn]
    clear hk1 hk2 hk3 hk4 hk5 hk6 hin1 HL HO HL' HO' hd hf h hlen  ht hn hi
    go_enter Try.func29, Try.ntmps29
    go_wp2_with fail
    refine (HTOK.out _ (HTK.out.to HB0.out)).mono ?_
    rintro e w1 ⟨rfl, h1⟩
    have HB1 := keep (HB0.out.trans (h1.mono HB0.out.size))
    have HR1 := keep (HR0.out.to h1)
    have hwl : w.heap.size < w1.heap.size := HR1.out.lt
    have hx0 := HR1.out.row 0 _ rfl
    have hx1 := HR1.out.row 1 _ rfl
    have hx2 := HR1.out.row 2 _ rfl
    have hxf := HR1.out.free
    obtain ⟨hs0, hs1, hs2⟩ := HR1.out.put3
    have hsz := size_put3 w1 w.heap.size
    clear h1
    go_wp2_with fail
    refine bodyPost_ret (v := .agg #[.slice (some ⟨w1.heap.size + 1, 0, none⟩) 1 1, .int .i64 ((i : Int) + 1), .int .i64 0]) ?_ rfl ⟨_, rfl, nin_two (hsz _ _ _) (by omega) _ ⟨1, ⟨#[]⟩, V, 0, A⟩, ((below_put3 HB1.out (Nat.le_refl _) _ _ _).alloc (by rw [hsz]; omega) _).alloc (by rw [World.size_alloc, hsz]; omega) _⟩
    simp [results, Try.results29, go_sem, hs0, hs1, hs2, hsz, hwl]
  · by_cases h1 : K = 1
    · subst h1
      rw [hk2 rfl]
      have hi := hin1 (by omega)
      have hiI : (i : Int) < 1000 := by omega
      rw [← hn]
      clear hk1 hk2 hk3 hk4 hk5 hk6 hin1 HL HO HL' HO' hd hf h hlen  ht hn hi
      go_enter Try.func29, Try.ntmps29
      go_wp2_with fail
      refine (HTOK.out _ (HTK.out.to HB0.out)).mono ?_
      rintro e w1 ⟨rfl, h1⟩
      have HB1 := keep (HB0.out.trans (h1.mono HB0.out.size))
      have HR1 := keep (HR0.out.to h1)
      have hwl : w.heap.size < w1.heap.size := HR1.out.lt
      have hx0 := HR1.out.row 0 _ rfl
      have hx1 := HR1.out.row 1 _ rfl
      have hx2 := HR1.out.row 2 _ rfl
      have hxf := HR1.out.free
      obtain ⟨hs0, hs1, hs2⟩ := HR1.out.put3
      have hsz := size_put3 w1 w.heap.size
      clear h1
      go_wp2_with fail
      refine bodyPost_ret (v := .agg #[.slice (some ⟨w1.heap.size + 1, 0, none⟩) 1 1, .int .i64 ((i : Int) + 1), .int .i64 0]) ?_ rfl ⟨_, rfl, nin_two (hsz _ _ _) (by omega) _ ⟨2, S, 0, 0, A⟩, ((below_put3 HB1.out (Nat.le_refl _) _ _ _).alloc (by rw [hsz]; omega) _).alloc (by rw [World.size_alloc, hsz]; omega) _⟩
      simp [results, Try.results29, go_sem, hs0, hs1, hs2, hsz, hwl]
    · have b2 : (K == 2) = false := by simpa using h2
      have b1 : (K == 1) = false := by simpa using h1
      by_cases h4 : K = 4
      · subst h4
        have hi := hin1 (by omega)
        have hiI : (i : Int) < 1000 := by omega
        have hkd : kd ⟨4, S, V, A⟩ 6 = if S = str [45] then 3 else if S = str [33] then 4 else 0 := by rw [← knd_six]; rfl
        have hon : isOn ⟨4, S, V, A⟩ (str [40]) = decide (S = str [40]) := by simp [isOn]
        rw [hkd, hon] at hk3 hk4 hk5
        rw [hkd] at hk6
        by_cases s0 : S = str [45]
        · rw [if_pos s0] at hk4 hk6
          have q0 : (S.toList == [45]) = true := by rw [s0, toList_str]; rfl
          have q0' : (S.toList != [45]) = false := by rw [bne, q0]; rfl
          have q1 : (S.toList == [33]) = false := by rw [s0, toList_str]; rfl
          have q1' : (S.toList != [33]) = true := by rw [bne, q1]; rfl
          have q2 : (S.toList == [40]) = false := by rw [s0, toList_str]; rfl
          have q2' : (S.toList != [40]) = true := by rw [bne, q2]; rfl
          by_cases h24 : d = 24
          · rw [hk4 h2 h1 (fun c => by simp at c) h24]
            subst h24
            rw [← hn]
            clear hk1 hk2 hk3 hk4 hk5 hk6 hin1 HL HO HL' HO' hd hf h hlen  ht hn h1 h2 hi hkd hon s0
            go_enter Try.func29, Try.ntmps29
            go_wp2_with fail
            refine (HTOK.out _ (HTK.out.to HB0.out)).mono ?_
            rintro e w1 ⟨rfl, h1⟩
            have HB1 := keep (HB0.out.trans (h1.mono HB0.out.size))
            have HR1 := keep (HR0.out.to h1)
            have hwl : w.heap.size < w1.heap.size := HR1.out.lt
            have hx0 := HR1.out.row 0 _ rfl
            have hx1 := HR1.out.row 1 _ rfl
            have hx2 := HR1.out.row 2 _ rfl
            have hxf := HR1.out.free
            obtain ⟨hs0, hs1, hs2⟩ := HR1.out.put3
            have hsz := size_put3 w1 w.heap.size
            clear h1
            go_wp2_with fail
            refine bodyPost_ret (v := .agg #[.slice none 0 0, .int .i64 (i : Int), .int .i64 5]) ?_ rfl ⟨_, rfl, NIn.nil _ _, (below_put3 HB1.out (Nat.le_refl _) _ _ _).alloc (by rw [hsz]; omega) _⟩
            simp [results, Try.results29, go_sem, hs0, hs1, hs2, hsz, hwl]
          · exact rone_neg ts _ f hlen HO' i d w S V A s0 (by omega) (by omega) (by omega) h ht (hk6 h2 h1 (by decide) h24)
        · by_cases s1 : S = str [33]
          · rw [if_neg s0, if_pos s1] at hk4 hk6
            have q0 : (S.toList == [45]) = false := by rw [s1, toList_str]; rfl
            have q0' : (S.toList != [45]) = true := by rw [bne, q0]; rfl
            have q1 : (S.toList == [33]) = true := by rw [s1, toList_str]; rfl
            have q1' : (S.toList != [33]) = false := by rw [bne, q1]; rfl
            have q2 : (S.toList == [40]) = false := by rw [s1, toList_str]; rfl
            have q2' : (S.toList != [40]) = true := by rw [bne, q2]; rfl
            by_cases h24 : d = 24
            · rw [hk4 h2 h1 (fun c => by simp at c) h24]
              subst h24
              rw [← hn]
              clear hk1 hk2 hk3 hk4 hk5 hk6 hin1 HL HO HL' HO' hd hf h hlen  ht hn h1 h2 hi hkd hon s0 s1
              go_enter Try.func29, Try.ntmps29
              go_wp2_with fail
              refine (HTOK.out _ (HTK.out.to HB0.out)).mono ?_
              rintro e w1 ⟨rfl, h1⟩
              have HB1 := keep (HB0.out.trans (h1.mono HB0.out.size))
              have HR1 := keep (HR0.out.to h1)
              have hwl : w.heap.size < w1.heap.size := HR1.out.lt
              have hx0 := HR1.out.row 0 _ rfl
              have hx1 := HR1.out.row 1 _ rfl
              have hx2 := HR1.out.row 2 _ rfl
              have hxf := HR1.out.free
              obtain ⟨hs0, hs1, hs2⟩ := HR1.out.put3
              have hsz := size_put3 w1 w.heap.size
              clear h1
              go_wp2_with fail
              refine bodyPost_ret (v := .agg #[.slice none 0 0, .int .i64 (i : Int), .int .i64 5]) ?_ rfl ⟨_, rfl, NIn.nil _ _, (below_put3 HB1.out (Nat.le_refl _) _ _ _).alloc (by rw [hsz]; omega) _⟩
              simp [results, Try.results29, go_sem, hs0, hs1, hs2, hsz, hwl]
            · exact rone_not ts _ f hlen HO' i d w S V A s1 (by omega) (by omega) (by omega) h ht (hk6 h2 h1 (by decide) h24)
          · rw [if_neg s0, if_neg s1] at hk3 hk4 hk5
            by_cases s2 : S = str [40]
            · skip
              have q0 : (S.toList == [45]) = false := by rw [s2, toList_str]; rfl
              have q0' : (S.toList != [45]) = true := by rw [bne, q0]; rfl
              have q1 : (S.toList == [33]) = false := by rw [s2, toList_str]; rfl
              have q1' : (S.toList != [33]) = true := by rw [bne, q1]; rfl
              have q2 : (S.toList == [40]) = true := by rw [s2, toList_str]; rfl
              have q2' : (S.toList != [40]) = false := by rw [bne, q2]; rfl
              by_cases h24 : d = 24
              · rw [hk4 h2 h1 (fun c => by simp [s2] at c) h24]
                subst h24
                rw [← hn]
                clear hk1 hk2 hk3 hk4 hk5 hk6 hin1 HL HO HL' HO' hd hf h hlen  ht hn h1 h2 hi hkd hon s0 s1 s2
                go_enter Try.func29, Try.ntmps29
                go_wp2_with fail
                refine (HTOK.out _ (HTK.out.to HB0.out)).mono ?_
                rintro e w1 ⟨rfl, h1⟩
                have HB1 := keep (HB0.out.trans (h1.mono HB0.out.size))
                have HR1 := keep (HR0.out.to h1)
                have hwl : w.heap.size < w1.heap.size := HR1.out.lt
                have hx0 := HR1.out.row 0 _ rfl
                have hx1 := HR1.out.row 1 _ rfl
                have hx2 := HR1.out.row 2 _ rfl
                have hxf := HR1.out.free
                obtain ⟨hs0, hs1, hs2⟩ := HR1.out.put3
                have hsz := size_put3 w1 w.heap.size
                clear h1
                go_wp2_with fail
                refine bodyPost_ret (v := .agg #[.slice none 0 0, .int .i64 (i : Int), .int .i64 5]) ?_ rfl ⟨_, rfl, NIn.nil _ _, (below_put3 HB1.out (Nat.le_refl _) _ _ _).alloc (by rw [hsz]; omega) _⟩
                simp [results, Try.results29, go_sem, hs0, hs1, hs2, hsz, hwl]
              · rw [hk5 h2 h1 rfl (by simp [s2]) h24]
                exact rone_brk ts _ f hlen HL' i d w S V A s2 (by omega) (by omega) (by omega) h ht
            · rw [hk3 h2 h1 rfl (by simp [s2])]
              have q0 : (S.toList == [45]) = false := by have := beq_no s0; rwa [toList_str] at this
              have q1 : (S.toList == [33]) = false := by have := beq_no s1; rwa [toList_str] at this
              have q2 : (S.toList == [40]) = false := by have := beq_no s2; rwa [toList_str] at this
              have q0' : (S.toList != [45]) = true := by rw [bne, q0]; rfl
              have q1' : (S.toList != [33]) = true := by rw [bne, q1]; rfl
              have q2' : (S.toList != [40]) = true := by rw [bne, q2]; rfl
              rw [← hn]
              clear hk1 hk2 hk3 hk4 hk5 hk6 hin1 HL HO HL' HO' hd hf h hlen  ht hn h1 h2 hi hkd hon s0 s1 s2
              go_enter Try.func29, Try.ntmps29
              go_wp2_with fail
              refine (HTOK.out _ (HTK.out.to HB0.out)).mono ?_
              rintro e w1 ⟨rfl, h1⟩
              have HB1 := keep (HB0.out.trans (h1.mono HB0.out.size))
              have HR1 := keep (HR0.out.to h1)
              have hwl : w.heap.size < w1.heap.size := HR1.out.lt
              have hx0 := HR1.out.row 0 _ rfl
              have hx1 := HR1.out.row 1 _ rfl
              have hx2 := HR1.out.row 2 _ rfl
              have hxf := HR1.out.free
              obtain ⟨hs0, hs1, hs2⟩ := HR1.out.put3
              have hsz := size_put3 w1 w.heap.size
              clear h1
              go_wp2_with fail
              refine bodyPost_ret (v := .agg #[.slice none 0 0, .int .i64 (i : Int), .int .i64 11]) ?_ rfl ⟨_, rfl, NIn.nil _ _, (below_put3 HB1.out (Nat.le_refl _) _ _ _).alloc (by rw [hsz]; omega) _⟩
              simp [results, Try.results29, go_sem, hs0, hs1, hs2, hsz, hwl]
      · have b4 : (K == 4) = false := by simpa using h4
        have b4' : (K != 4) = true := by simpa using h4
        rw [hk3 h2 h1 (by simp [kd, h4]) (by simp [isOn, h4])]
        rw [← hn]
        clear hk1 hk2 hk3 hk4 hk5 hk6 hin1 HL HO HL' HO' hd hf h hlen  ht hn h1 h2 h4
        go_enter Try.func29, Try.ntmps29
        go_wp2_with fail
        refine (HTOK.out _ (HTK.out.to HB0.out)).mono ?_
        rintro e w1 ⟨rfl, h1⟩
        have HB1 := keep (HB0.out.trans (h1.mono HB0.out.size))
        have HR1 := keep (HR0.out.to h1)
        have hwl : w.heap.size < w1.heap.size := HR1.out.lt
        have hx0 := HR1.out.row 0 _ rfl
        have hx1 := HR1.out.row 1 _ rfl
        have hx2 := HR1.out.row 2 _ rfl
        have hxf := HR1.out.free
        obtain ⟨hs0, hs1, hs2⟩ := HR1.out.put3
        have hsz := size_put3 w1 w.heap.size
        clear h1
        go_wp2_with fail
        refine bodyPost_ret (v := .agg #[.slice none 0 0, .int .i64 (i : Int), .int .i64 11]) ?_ rfl ⟨_, rfl, NIn.nil _ _, (below_put3 HB1.out (Nat.le_refl _) _ _ _).alloc (by rw [hsz]; omega) _⟩
        simp [results, Try.results29, go_sem, hs0, hs1, hs2, hsz, hwl]
end Go.Proofs.Ytglmcjplglgnlaa
