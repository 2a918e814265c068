/-
  slices.Reverse of a row of nodes.
-/
import Derived.Test.YtglmcjplglgnlaaTermH
namespace Go.Proofs.Ytglmcjplglgnlaa
open Go.RowKit Go.Joins

theorem own_form {W : World} {B : Nat} {v : Value} {l : List Nd} (h : W.ownsRow B 42 5 v l.length (ncs l)) : ∃ o c, v = .slice o l.length c := by
  rcases h.2 with ⟨rfl, h0⟩ | ⟨g, cap, cur, rfl, _⟩
  · exact ⟨_, _, by rw [h0]⟩
  · exact ⟨_, _, rfl⟩

theorem run_idx_nd (g n cap i : Nat) (hi : i < n) (W : World) : (Instr.indexAt 24 (.slice (some ⟨g, 0, none⟩) n cap) (.int .i64 (i : Int))).run Try.prog W = .ok (.pointer (some ⟨g, i * 5, none⟩)) W := by
  have ht : Try.prog.underlying 24 = some (.slice (Try.prog.elem 24)) := by simp [Program.elem, Try.underlying24]
  have he : Try.prog.elem 24 = 42 := by simp [Program.elem, Try.underlying24]
  have h1 : (0 : Int) ≤ (i : Int) ∧ (i : Int) < (n : Int) := by omega
  rw [run_indexAt_slice W _ _ _ _ _ _ ht, he, if_pos h1, sizeOfN]
  simp [Result.andThen, Addr.add_mid]

/-- Between two rounds of Reverse: the first i and the last i have changed places. -/
structure RevAt (l : List Nd) (v : Value) (B : Nat) (w : World) (i : Nat) (wr : World) : Prop where
  out : ∃ m : List Nd, m.length = l.length ∧ 2 * i ≤ l.length ∧ (∀ x, x < l.length → m[x]? = if x < i ∨ l.length ≤ x + i then l[l.length - 1 - x]? else l[x]?) ∧
    wr.ownsRow B 42 5 v m.length (ncs m) ∧ w.grownBy wr v.ownBlock
theorem RevAt.fin {l : List Nd} {v : Value} {B : Nat} {w : World} {i : Nat} {wr : World} (h : RevAt l v B w i wr) (hi : l.length ≤ 2 * i + 1) : wr.ownsRow B 42 5 v l.length (ncs l.reverse) ∧ w.grownBy wr v.ownBlock := by
  obtain ⟨m, h1, h2, h3, h4, h5⟩ := h.out
  have : m = l.reverse := by
    apply List.ext_getElem?
    intro j
    by_cases hj : j < l.length
    · rw [h3 j hj, List.getElem?_reverse hj]
      by_cases hc : j < i ∨ l.length ≤ j + i
      · rw [if_pos hc]
      · rw [if_neg hc]
        congr 1
        omega
    · rw [List.getElem?_eq_none (by omega), List.getElem?_eq_none (by rw [List.length_reverse]; omega)]
  subst this
  rw [List.length_reverse] at h4
  exact ⟨h4, h5⟩

set_option maxRecDepth 100000 in
set_option maxHeartbeats 4000000 in
theorem reverse_any (B : Nat) (v : Value) (l : List Nd) (hl : l.length ≤ 100000) (w : World) (h : w.ownsRow B 42 5 v l.length (ncs l)) :
    Calls Try.prog 27 #[v] w fun e w' => e = .returned (.tuple #[]) ∧ w'.ownsRow B 42 5 v l.length (ncs l.reverse) ∧ w.grownBy w' v.ownBlock := by
  have H0 : Keep (RevAt l v B w 0 w) := ⟨⟨l, rfl, by omega, fun x hx => by rw [if_neg (by omega)], h, ⟨rfl, rfl, rfl, Nat.le_refl _, fun _ _ _ => rfl⟩⟩⟩
  obtain ⟨ao, ac, rfl⟩ := own_form h
  have HFIN := keep (fun i wr (h : RevAt l (.slice ao l.length ac) B w i wr) (hi : l.length ≤ 2 * i + 1) => h.fin hi)
  obtain ⟨n, hn⟩ : ∃ n, n = l.length := ⟨_, rfl⟩
  have HN := keep hn
  rw [← hn] at H0 HFIN hl ⊢
  have hnI : (n : Int) ≤ 100000 := by omega
  clear h hn
  go_enter Try.func27, Try.ntmps27
  go_wp2_with fail
  go_loopw [2, 3] (fun iv jv wr => ∃ i : Nat, iv = .int .i64 (i : Int) ∧ jv = .int .i64 ((n : Int) - 1 - (i : Int)) ∧ Keep (RevAt l (.slice ao n ac) B w i wr)) (fun iv _ _ => n - (intOf iv).toNat)
  case atStart => exact ⟨0, rfl, by simp, H0⟩
  case round =>
    obtain ⟨i, rfl, rfl, HR⟩ := hrel
    clear H0
    have hR := HR.out.out
    by_cases hlt : 2 * i + 1 < n
    · obtain ⟨m, hml, hi2, hm, hown, hg⟩ := hR
      have hN := HN.out
      obtain ⟨x, hx⟩ : ∃ x, m[i]? = some x := ⟨_, List.getElem?_eq_getElem (by omega)⟩
      obtain ⟨j, hj⟩ : ∃ j, j = n - 1 - i := ⟨_, rfl⟩
      obtain ⟨y, hy⟩ : ∃ y, m[j]? = some y := ⟨_, List.getElem?_eq_getElem (by omega)⟩
      obtain ⟨g, cap, cur, e, hb, hgg, -⟩ := own_open hown (by omega)
      have e' := e
      simp only [Value.slice.injEq] at e'
      obtain ⟨rfl, -, rfl⟩ := e'
      have hjI : (n : Int) - 1 - (i : Int) = (j : Int) := by omega
      rw [hjI]
      obtain ⟨x0, x1, x2, x3, x4⟩ := own_nd hown hx
      obtain ⟨y0, y1, y2, y3, y4⟩ := own_nd hown hy
      have hltI : (i : Int) < (j : Int) := by omega
      have hiI : (i : Int) < (n : Int) := by omega
      have hjI2 : (j : Int) < (n : Int) := by omega
      have hjn : j < n := by omega
      have hin : i < n := by omega
      have hij : i < j := by omega
      have HO := keep hown
      have HG := keep hg
      have HX := keep hx
      have HY := keep hy
      have HM := keep hm
      have HML := keep hml
      have HJ := keep hj
      clear hm hown hg hx hy hgg hb e hml hj hi2 hjI hN
      have hij1 := run_idx_nd g n ac i hin
      have hij2 := run_idx_nd g n ac j hjn
      go_wp2_with fail
      refine AnyGo.region (fun _ => True) (by kernel_rfl) (by rfl) trivial ?_
      intro wd ewd
      subst ewd
      (refine AnyGo.take 0 (some 14) ?_ (a' := ?_) rfl (by kernel_rfl) (fun _ _ d _ _ h => by cases d <;> exact h) (by kernel_rfl) (by rfl) (by kernel_rfl) ?_ ?_ ?_; rotate_left 2; (focus (intro W hW; (try dsimp only at hW); go_simp; (try with_reducible rfl))); (focus (simp only [Act.put, List.setIfInBounds_toArray]; rfl)))
      (refine AnyGo.take 1 (some 15) ?_ (a' := ?_) rfl (by kernel_rfl) (fun _ _ d _ _ h => by cases d <;> exact h) (by kernel_rfl) (by rfl) (by kernel_rfl) ?_ ?_ ?_; rotate_left 2; (focus (intro W hW; (try dsimp only at hW); go_simp; (try with_reducible rfl))); (focus (simp only [Act.put, List.setIfInBounds_toArray]; rfl)))
      (refine AnyGo.take 2 (some 16) ?_ (a' := ?_) rfl (by kernel_rfl) (fun _ _ d _ _ h => by cases d <;> exact h) (by kernel_rfl) (by rfl) (by kernel_rfl) ?_ ?_ ?_; rotate_left 2; (focus (intro W hW; (try dsimp only at hW); go_simp; (try with_reducible rfl))); (focus (simp only [Act.put, List.setIfInBounds_toArray]; rfl)))
      (refine AnyGo.take 3 (some 17) ?_ (a' := ?_) rfl (by kernel_rfl) (fun _ _ d _ _ h => by cases d <;> exact h) (by kernel_rfl) (by rfl) (by kernel_rfl) ?_ ?_ ?_; rotate_left 2; (focus (intro W hW; (try dsimp only at hW); go_simp; (try with_reducible rfl))); (focus (simp only [Act.put, List.setIfInBounds_toArray]; rfl)))
      (refine AnyGo.take 4 (some 18) ?_ (a' := ?_) rfl (by kernel_rfl) (fun _ _ d _ _ h => by cases d <;> exact h) (by kernel_rfl) (by rfl) (by kernel_rfl) ?_ ?_ ?_; rotate_left 2; (focus (intro W hW; (try dsimp only at hW); go_simp; (try with_reducible rfl))); (focus (simp only [Act.put, List.setIfInBounds_toArray]; rfl)))
      (refine AnyGo.take 5 (some 19) ?_ (a' := ?_) rfl (by kernel_rfl) (fun _ _ d _ _ h => by cases d <;> exact h) (by kernel_rfl) (by rfl) (by kernel_rfl) ?_ ?_ ?_; rotate_left 2; (focus (intro W hW; (try dsimp only at hW); go_simp; (try with_reducible rfl))); (focus (simp only [Act.put, List.setIfInBounds_toArray]; rfl)))
      (refine AnyGo.take 6 (some 20) ?_ (a' := ?_) rfl (by kernel_rfl) (fun _ _ d _ _ h => by cases d <;> exact h) (by kernel_rfl) (by rfl) (by kernel_rfl) ?_ ?_ ?_; rotate_left 2; (focus (intro W hW; (try dsimp only at hW); go_simp; (try with_reducible rfl))); (focus (simp only [Act.put, List.setIfInBounds_toArray]; rfl)))
      (refine AnyGo.take 8 (some 22) ?_ (a' := ?_) rfl (by kernel_rfl) (fun _ _ d _ _ h => by cases d <;> exact h) (by kernel_rfl) (by rfl) (by kernel_rfl) ?_ ?_ ?_; rotate_left 2; (focus (intro W hW; (try dsimp only at hW); go_simp; (try with_reducible rfl))); (focus (simp only [Act.put, List.setIfInBounds_toArray]; rfl)))
      (refine AnyGo.take 9 (some 23) ?_ (a' := ?_) rfl (by kernel_rfl) (fun _ _ d _ _ h => by cases d <;> exact h) (by kernel_rfl) (by rfl) (by kernel_rfl) ?_ ?_ ?_; rotate_left 2; (focus (intro W hW; (try dsimp only at hW); go_simp; (try with_reducible rfl))); (focus (simp only [Act.put, List.setIfInBounds_toArray]; rfl)))
      (refine AnyGo.take 10 (some 24) ?_ (a' := ?_) rfl (by kernel_rfl) (fun _ _ d _ _ h => by cases d <;> exact h) (by kernel_rfl) (by rfl) (by kernel_rfl) ?_ ?_ ?_; rotate_left 2; (focus (intro W hW; (try dsimp only at hW); go_simp; (try with_reducible rfl))); (focus (simp only [Act.put, List.setIfInBounds_toArray]; rfl)))
      refine AnyGo.two (i := 7) (j := 11) (by kernel_rfl) rfl rfl (by kernel_rfl) (by kernel_rfl) (fun K' hK' => ?_) (fun K' hK' => ?_)
      · skip
        go_simp
        refine hK'.out _ _ trivial ?_
        clear hK' K'
        (try simp only [Act.put, List.setIfInBounds_toArray])
        refine AnyGo.one (i := 11) (by kernel_rfl) rfl (by kernel_rfl) (fun K' hK' => ?_)
        go_simp
        refine hK'.out _ _ trivial ?_
        clear hK' K'
        (try simp only [Act.put, List.setIfInBounds_toArray])
        (refine AnyGo.take 12 (some 26) ?_ (a' := ?_) rfl (by kernel_rfl) (fun _ _ d _ _ h => by cases d <;> exact h) (by kernel_rfl) (by rfl) (by kernel_rfl) ?_ ?_ ?_; rotate_left 2; (focus (intro W hW; (try dsimp only at hW); go_simp; (try with_reducible rfl))); (focus (simp only [Act.put, List.setIfInBounds_toArray]; rfl)))
        clear x0 x1 x2 x3 x4 y0 y1 y2 y3 y4
        refine AnyGo.one (i := 13) (by kernel_rfl) rfl (by kernel_rfl) (fun K' hK' => ?_)
        refine wp_store_nd (.tmp 26) (.tmp 21) rfl B g n ac m HO.out i (by have := HML.out; have := HN.out; omega) y rfl rfl none rfl ?_
        intro w1 ho1 hg1
        have HO1 := keep ho1
        have HG1 := keep hg1
        refine hK'.out _ _ trivial ?_
        clear hK' K' ho1 hg1
        (try simp only [Act.put])
        (refine AnyGo.take 14 (some 27) ?_ (a' := ?_) rfl (by kernel_rfl) (fun _ _ d _ _ h => by cases d <;> exact h) (by kernel_rfl) (by rfl) (by kernel_rfl) ?_ ?_ ?_; rotate_left 2; (focus (intro W hW; (try dsimp only at hW); go_simp; (try with_reducible rfl))); (focus (simp only [Act.put, List.setIfInBounds_toArray]; rfl)))
        refine AnyGo.one (i := 15) (by kernel_rfl) rfl (by kernel_rfl) (fun K' hK' => ?_)
        refine wp_store_nd (.tmp 27) (.tmp 25) rfl B g n ac (m.set i y) HO1.out j (by have := HML.out; have := HN.out; rw [List.length_set]; omega) x rfl rfl none rfl ?_
        intro w2 ho2 hg2
        have HO2 := keep ho2
        have HG2 := keep hg2
        refine hK'.out _ _ trivial ?_
        clear hK' K' ho2 hg2
        (try simp only [Act.put])
        refine AnyGo.fin (by kernel_rfl) ?_
        (try simp only [List.set_cons_succ, List.set_cons_zero])
        have HNEW : Keep (RevAt l (.slice (some ⟨g, 0, none⟩) n ac) B w (i + 1) w2) := ⟨⟨by
          have hM := HM.out
          have hN := HN.out
          have hJ := HJ.out
          have hml := HML.out
          refine ⟨(m.set i y).set j x, by simp [hml], by omega, fun k hk => ?_, HO2.out, ?_⟩
          · by_cases hkj : k = j
            · subst hkj
              rw [List.getElem?_set_self (by rw [List.length_set]; omega), if_pos (by omega), show l.length - 1 - k = i by omega, ← HX.out, hM i (by omega), if_neg (by omega)]
            · rw [List.getElem?_set_ne (fun e => hkj e.symm)]
              by_cases hki : k = i
              · subst hki
                rw [List.getElem?_set_self (by omega), if_pos (by omega), show l.length - 1 - k = j by omega, ← HY.out, hM j (by omega), if_neg (by omega)]
              · rw [List.getElem?_set_ne (fun e => hki e.symm), hM k hk]
                by_cases hc : k < i ∨ l.length ≤ k + i
                · rw [if_pos hc, if_pos (by omega)]
                · rw [if_neg hc, if_neg (by omega)]
          · have a1 : World.grownBy wr w1 (some g) := ⟨HG1.out.os, HG1.out.tape, HG1.out.output, HG1.out.size, HG1.out.block⟩
            exact (HG.out.trans a1).trans HG2.out⟩⟩
        go_wp2_with fail
        go_roundw
        case rel => exact ⟨i + 1, val_int (by omega), val_int (by have := HJ.out; omega), HNEW⟩
        case measure => simp [intOf]; omega
      · skip
        go_simp
        refine hK'.out _ _ trivial ?_
        clear hK' K'
        (try simp only [Act.put, List.setIfInBounds_toArray])
        refine AnyGo.one (i := 7) (by kernel_rfl) rfl (by kernel_rfl) (fun K' hK' => ?_)
        go_simp
        refine hK'.out _ _ trivial ?_
        clear hK' K'
        (try simp only [Act.put, List.setIfInBounds_toArray])
        (refine AnyGo.take 12 (some 26) ?_ (a' := ?_) rfl (by kernel_rfl) (fun _ _ d _ _ h => by cases d <;> exact h) (by kernel_rfl) (by rfl) (by kernel_rfl) ?_ ?_ ?_; rotate_left 2; (focus (intro W hW; (try dsimp only at hW); go_simp; (try with_reducible rfl))); (focus (simp only [Act.put, List.setIfInBounds_toArray]; rfl)))
        clear x0 x1 x2 x3 x4 y0 y1 y2 y3 y4
        refine AnyGo.one (i := 13) (by kernel_rfl) rfl (by kernel_rfl) (fun K' hK' => ?_)
        refine wp_store_nd (.tmp 26) (.tmp 21) rfl B g n ac m HO.out i (by have := HML.out; have := HN.out; omega) y rfl rfl none rfl ?_
        intro w1 ho1 hg1
        have HO1 := keep ho1
        have HG1 := keep hg1
        refine hK'.out _ _ trivial ?_
        clear hK' K' ho1 hg1
        (try simp only [Act.put])
        (refine AnyGo.take 14 (some 27) ?_ (a' := ?_) rfl (by kernel_rfl) (fun _ _ d _ _ h => by cases d <;> exact h) (by kernel_rfl) (by rfl) (by kernel_rfl) ?_ ?_ ?_; rotate_left 2; (focus (intro W hW; (try dsimp only at hW); go_simp; (try with_reducible rfl))); (focus (simp only [Act.put, List.setIfInBounds_toArray]; rfl)))
        refine AnyGo.one (i := 15) (by kernel_rfl) rfl (by kernel_rfl) (fun K' hK' => ?_)
        refine wp_store_nd (.tmp 27) (.tmp 25) rfl B g n ac (m.set i y) HO1.out j (by have := HML.out; have := HN.out; rw [List.length_set]; omega) x rfl rfl none rfl ?_
        intro w2 ho2 hg2
        have HO2 := keep ho2
        have HG2 := keep hg2
        refine hK'.out _ _ trivial ?_
        clear hK' K' ho2 hg2
        (try simp only [Act.put])
        refine AnyGo.fin (by kernel_rfl) ?_
        (try simp only [List.set_cons_succ, List.set_cons_zero])
        have HNEW : Keep (RevAt l (.slice (some ⟨g, 0, none⟩) n ac) B w (i + 1) w2) := ⟨⟨by
          have hM := HM.out
          have hN := HN.out
          have hJ := HJ.out
          have hml := HML.out
          refine ⟨(m.set i y).set j x, by simp [hml], by omega, fun k hk => ?_, HO2.out, ?_⟩
          · by_cases hkj : k = j
            · subst hkj
              rw [List.getElem?_set_self (by rw [List.length_set]; omega), if_pos (by omega), show l.length - 1 - k = i by omega, ← HX.out, hM i (by omega), if_neg (by omega)]
            · rw [List.getElem?_set_ne (fun e => hkj e.symm)]
              by_cases hki : k = i
              · subst hki
                rw [List.getElem?_set_self (by omega), if_pos (by omega), show l.length - 1 - k = j by omega, ← HY.out, hM j (by omega), if_neg (by omega)]
              · rw [List.getElem?_set_ne (fun e => hki e.symm), hM k hk]
                by_cases hc : k < i ∨ l.length ≤ k + i
                · rw [if_pos hc, if_pos (by omega)]
                · rw [if_neg hc, if_neg (by omega)]
          · have a1 : World.grownBy wr w1 (some g) := ⟨HG1.out.os, HG1.out.tape, HG1.out.output, HG1.out.size, HG1.out.block⟩
            exact (HG.out.trans a1).trans HG2.out⟩⟩
        go_wp2_with fail
        go_roundw
        case rel => exact ⟨i + 1, val_int (by omega), val_int (by have := HJ.out; omega), HNEW⟩
        case measure => simp [intOf]; omega
    · have HF := keep (HFIN.out i wr HR.out (by omega))
      have hd : ¬ ((i : Int) < (n : Int) - 1 - (i : Int)) := by omega
      clear hR HFIN
      go_wp2_with fail
      go_end0
      exact ⟨rfl, HF.out.1, HF.out.2⟩
end Go.Proofs.Ytglmcjplglgnlaa
