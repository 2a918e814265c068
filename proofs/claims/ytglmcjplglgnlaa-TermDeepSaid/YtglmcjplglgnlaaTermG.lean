/-
  slices.Insert of nodes where there is no room; Insert, whatever room there is.
-/
import Derived.Test.YtglmcjplglgnlaaTermJ
namespace Go.Proofs.Ytglmcjplglgnlaa
open Go.RowKit Go.Joins

theorem zeros_len (k : Nat) : (Builtin.zeroCells (Value.agg #[.int .i64 0, .string ⟨#[]⟩, .int .i64 0, .int .i64 0, .int .i64 0]).cells k).size = k * 5 := by
  simp [Builtin.zeroCells, Value.cells]

set_option maxRecDepth 100000 in
set_option maxHeartbeats 4000000 in
theorem insert_grow (B : Nat) (l xs : List Nd) (i : Nat) (hi : i < l.length) (hl : l.length + xs.length ≤ 100000) (h0 : 0 < xs.length) (w : World) (hB : B ≤ w.heap.size) (g cap : Nat) (h : w.ownsRow B 42 5 (.slice (some ⟨g, 0, none⟩) l.length cap) l.length (ncs l)) (Bu gu cu : Nat) (hu : w.ownsRow Bu 42 5 (.slice (some ⟨gu, 0, none⟩) xs.length cu) xs.length (ncs xs)) (hroom : cap < l.length + xs.length) :
    Calls Try.prog 28 #[.slice (some ⟨g, 0, none⟩) l.length cap, .int .i64 (i : Int), .slice (some ⟨gu, 0, none⟩) xs.length cu] w fun e w' => InsTo B (.slice (some ⟨g, 0, none⟩) l.length cap) (l.take i ++ xs ++ l.drop i) w e w' := by
  obtain ⟨g', cap', cur, e, hb, hg, h1, h2, h3, h4⟩ := own_open h (by omega)
  simp only [Value.slice.injEq, Option.some.injEq, Addr.mk.injEq, and_true, true_and] at e
  obtain ⟨rfl, rfl⟩ := e
  obtain ⟨gu', cu', curu, e, _, hgu, hu1, hu2, hu3, hu4⟩ := own_open hu h0
  simp only [Value.slice.injEq, Option.some.injEq, Addr.mk.injEq, and_true, true_and] at e
  obtain ⟨rfl, rfl⟩ := e
  obtain ⟨i0, hi0, hz0, hzs, hzb⟩ := info_parts elN
  have hgl : g < w.heap.size := (Array.getElem?_eq_some_iff.1 hg).1
  have hgul : gu < w.heap.size := (Array.getElem?_eq_some_iff.1 hgu).1
  have hold : (Builtin.firstCells i0.size i (.slice (some ⟨g, 0, none⟩) i cap)).run Try.prog w.drew = .ok (ncs (l.take i)).toArray w.drew := by
    rw [hzs]
    exact run_firstCells_some w.drew 5 i ⟨g, 0, none⟩ i cap (ncs (l.take i)) (by rw [ncs_len, List.length_take, Nat.min_eq_left (by omega)]) (fun j v hj => by
      rw [Addr.add_mid, Nat.zero_add]
      rw [← ncs_take, List.getElem?_take] at hj
      split at hj
      · refine cell_at (W := w.drew) hg ?_
        rw [← h4, List.getElem?_take] at hj
        split at hj
        · exact hj
        · cases hj
      · cases hj)
  obtain ⟨G, hG⟩ : ∃ G, G = grownCap w (l.length + xs.length) cap 42 := ⟨_, rfl⟩
  have hGn : l.length + xs.length ≤ G := by rw [hG]; exact grownCap_ge w _ _ _
  have hG2 : G ≤ maxLen := by rw [hG]; exact grownCap_le_maxLen w _ _ _ (by unfold maxLen; omega)
  obtain ⟨ROW, hROW⟩ : ∃ ROW : Array Value, ROW = (ncs (l.take i)).toArray ++ Builtin.zeroCells (Value.agg #[.int .i64 0, .string ⟨#[]⟩, .int .i64 0, .int .i64 0, .int .i64 0]).cells (l.length + xs.length - i) ++ Builtin.zeroCells (Value.agg #[.int .i64 0, .string ⟨#[]⟩, .int .i64 0, .int .i64 0, .int .i64 0]).cells (G - (l.length + xs.length)) := ⟨_, rfl⟩
  have hRs : ROW.size = G * 5 := by
    rw [hROW, Array.size_append, Array.size_append, zeros_len, zeros_len, List.size_toArray, ncs_len, List.length_take, Nat.min_eq_left (by omega)]
    omega
  have hRt : ROW.toList.take (i * 5) = ncs (l.take i) := by
    rw [hROW, Array.toList_append, Array.toList_append, List.append_assoc]
    exact List.take_left' (by rw [ncs_len, List.length_take, Nat.min_eq_left (by omega)])
  have hrz : ∀ ty, (Builtin.append_ #[24, 3] ty #[.slice (some ⟨g, 0, none⟩) i cap, .int .i64 ((l.length : Int) + (xs.length : Int) - (i : Int))]).run Try.prog w =
      .ok (.slice (some ⟨w.heap.size, 0, none⟩) (l.length + xs.length) G) (w.drew.alloc (.cells ROW 42)) := fun ty => by
    have hik : i + (l.length + xs.length - i) = l.length + xs.length := by omega
    have h := Lib.run_append_grow_zeros w 24 3 ty 42 i0 _ .i64 .i64 Try.underlying24 Try.underlying3 hi0 hz0 (some ⟨g, 0, none⟩) i cap (ncs (l.take i)) hold (l.length + xs.length - i) (by omega) (by omega) (by omega) (by omega) (by rw [hzb]; omega) (by rw [hzb, hik]; exact growslice_fits hroom (by omega))
    rw [hik] at h
    rw [show (l.length : Int) + (xs.length : Int) - (i : Int) = ((l.length + xs.length - i : Nat) : Int) by omega, hROW, hG]
    exact h
  obtain ⟨W1, hW1⟩ : ∃ W1, W1 = w.drew.alloc (.cells ROW 42) := ⟨_, rfl⟩
  obtain ⟨nb, hnb⟩ : ∃ nb, nb = w.heap.size := ⟨_, rfl⟩
  have HGR1 : Keep (w.grownBy W1 none) := keep (by
    have := World.grownBy_alloc w.drew (.cells ROW 42) none
    rw [← hW1] at this
    exact ⟨this.os, this.tape, this.output, this.size, this.block⟩)
  have HN1 : Keep (W1.heap[nb]? = some (.cells (List.toArray ROW.toList) 42 (0, 0))) := keep (by
    rw [hW1, hnb]
    have := heap_alloc_new w.drew (.cells ROW 42)
    simpa using this)
  rw [← hW1, ← hnb] at hrz
  rw [← hnb] at hgl hgul
  have HG1 : Keep (W1.heap[g]? = some (.cells cur.toArray 42 (0, 0))) := keep ((HGR1.out.block g (by omega) (by simp)).trans hg)
  have HGU1 : Keep (W1.heap[gu]? = some (.cells curu.toArray 42 (0, 0))) := keep ((HGR1.out.block gu (by omega) (by simp)).trans hgu)
  have hRl : ROW.toList.length = G * 5 := by simpa using hRs
  have HLEN := keep (show (l.take i ++ xs ++ l.drop i).length = l.length + xs.length by simp; omega)
  have HDL := keep (show (ncs (l.drop i)).length = (l.length - i) * 5 by rw [ncs_len, List.length_drop])
  have HXL := keep (ncs_len xs)
  have HFIN := keep (ins_cells2 (xs := xs) (by omega : i ≤ l.length) hRt)
  have HSRC : Keep (∀ j v, (ncs (l.drop i))[j]? = some v → cur[i * 5 + j]? = some v) := keep (fun j v hj => by
    rw [← ncs_drop, List.getElem?_drop, ← h4, List.getElem?_take] at hj
    split at hj
    · exact hj
    · cases hj)
  have HSRU : Keep (∀ j v, (ncs xs)[j]? = some v → curu[0 + j]? = some v) := keep (fun j v hj => by
    rw [← hu4, List.getElem?_take] at hj
    rw [Nat.zero_add]
    split at hj
    · exact hj
    · cases hj)
  generalize ROW.toList = row at hRl HFIN HN1
  obtain ⟨n, hn⟩ : ∃ n, n = l.length := ⟨_, rfl⟩
  obtain ⟨m, hm⟩ : ∃ m, m = xs.length := ⟨_, rfl⟩
  obtain ⟨p, hp⟩ : ∃ p, p = n - i := ⟨_, rfl⟩
  obtain ⟨p2, hp2⟩ : ∃ p2, p2 = n + m - i := ⟨_, rfl⟩
  obtain ⟨r, hr⟩ : ∃ r, r = n + m := ⟨_, rfl⟩
  obtain ⟨o1, ho1⟩ : ∃ o1, o1 = i * 5 := ⟨_, rfl⟩
  obtain ⟨o2, ho2⟩ : ∃ o2, o2 = (i + m) * 5 := ⟨_, rfl⟩
  obtain ⟨c1, hc1⟩ : ∃ c1, c1 = cap - i := ⟨_, rfl⟩
  obtain ⟨c3, hc3⟩ : ∃ c3, c3 = G - i := ⟨_, rfl⟩
  obtain ⟨c2, hc2⟩ : ∃ c2, c2 = G - (i + m) := ⟨_, rfl⟩
  have hs1 := run_from_n g n cap i (by omega) (by omega)
  have hs2 := run_upto_n g n cap i (by omega)
  have hs3 := run_from_n nb r G (i + m) (by omega) (by omega)
  have hs4 := run_from_n nb r G i (by omega) (by omega)
  rw [show r - (i + m) = p by omega, ← ho2, ← hc2, Int.natCast_add] at hs3
  rw [show r - i = p2 by omega, ← ho1, ← hc3] at hs4
  rw [← hp, ← ho1, ← hc1] at hs1
  rw [← hn, ← hm] at HLEN HFIN hl hroom hGn hrz
  rw [← hn] at hi HDL h1 ⊢
  rw [← hm] at HXL h0 ⊢
  rw [← ho1] at HFIN HSRC
  rw [← ho2] at HFIN
  rw [← hr] at HFIN HLEN hrz
  rw [← hp] at HDL
  have HEQ := keep (show p = n - i ∧ p2 = n + m - i ∧ r = n + m ∧ o1 = i * 5 ∧ o2 = (i + m) * 5 ∧ i < n ∧ n + m ≤ G ∧ row.length = G * 5 ∧ G ≤ maxLen ∧ B ≤ nb ∧ n ≤ cap ∧ nb = w.heap.size from ⟨hp, hp2, hr, ho1, ho2, hi, hGn, hRl, hG2, by omega, h1, hnb⟩)
  have hnI : (n : Int) ≤ 100000 := by omega
  have hmI : (m : Int) ≤ 100000 := by omega
  have hiI : (i : Int) < (n : Int) := by omega
  have hm0 : ¬ ((m : Int) = 0) := by omega
  have hin : ¬ ((i : Int) = (n : Int)) := by omega
  have hnc : (cap : Int) < (n : Int) + (m : Int) := by omega
  have HLT := keep (show g < nb ∧ gu < nb from ⟨hgl, hgul⟩)
  clear h hu hg hgu h1 h2 h3 h4 hu1 hu2 hu3 hu4 hb hn hm hp hp2 hr ho1 ho2 hc1 hc2 hc3 hi0 hz0 hzs hzb hgl hgul hold hG hGn hG2 hROW hRs hRt hW1 hRl hnb hroom hB
  go_enter Try.func28, Try.ntmps28
  go_wp2_with (first | (at_builtin; refine Lib.wpList_append_run _ rfl _ _ _ _ rfl _ _ rfl rfl _ _ (hrz _) ?_) | (refine wpList_copy_k rfl (.tmp 43) (.tmp 44) 24 24 rfl 42 Try.underlying24 5 sizeN nb o1 gu 0 p2 c3 m cu rfl rfl row 42 HN1.out (ncs xs) m (by have := HEQ.out; simp only [Nat.min_def]; split <;> omega) HXL.out (fun j v hj => cell_at HGU1.out (HSRU.out j v hj)) (by have := HEQ.out; have := HXL.out; omega) (ncs_one _) ?_))
  intro w1 hg1 hgr1
  have HN2 := keep hg1
  have HGR2 := keep hgr1
  have HG2 : Keep (w1.heap[g]? = some (.cells cur.toArray 42 (0, 0))) := keep ((HGR2.out.block g (Array.getElem?_eq_some_iff.1 HG1.out).1 (fun e => by injection e with e; have := HLT.out; omega)).trans HG1.out)
  clear hg1 hgr1 hrz
  go_wp2_with fail
  have hw1 : IntKind.i64.wrap ((i : Int) + (m : Int)) = (i : Int) + (m : Int) := IntWalk.i64_in _ (by omega)
  refine AnyGo.region (fun _ => True) (by kernel_rfl) (by rfl) trivial ?_
  intro wd ewd
  subst ewd
  (refine AnyGo.take 0 (some 46) ?_ (a' := ?_) rfl (by kernel_rfl) (fun _ _ d _ _ h => by cases d <;> exact h) (by kernel_rfl) (by rfl) (by kernel_rfl) ?_ ?_ ?_; rotate_left 2; (focus (intro W hW; (try dsimp only at hW); go_simp; (try with_reducible rfl))); (focus (simp only [Act.put, List.setIfInBounds_toArray]; rfl)))
  (refine AnyGo.take 1 (some 47) ?_ (a' := ?_) rfl (by kernel_rfl) (fun _ _ d _ _ h => by cases d <;> exact h) (by kernel_rfl) (by rfl) (by kernel_rfl) ?_ ?_ ?_; rotate_left 2; (focus (intro W hW; (try dsimp only at hW); go_simp; (try with_reducible rfl))); (focus (simp only [Act.put, List.setIfInBounds_toArray]; rfl)))
  (refine AnyGo.take 2 (some 48) ?_ (a' := ?_) rfl (by kernel_rfl) (fun _ _ d _ _ h => by cases d <;> exact h) (by kernel_rfl) (by rfl) (by kernel_rfl) ?_ ?_ ?_; rotate_left 2; (focus (intro W hW; (try dsimp only at hW); go_simp; (try with_reducible rfl))); (focus (simp only [Act.put, List.setIfInBounds_toArray]; rfl)))
  (refine AnyGo.take 3 (some 49) ?_ (a' := ?_) rfl (by kernel_rfl) (fun _ _ d _ _ h => by cases d <;> exact h) (by kernel_rfl) (by rfl) (by kernel_rfl) ?_ ?_ ?_; rotate_left 2; (focus (intro W hW; (try dsimp only at hW); go_simp; (try with_reducible rfl))); (focus (simp only [Act.put, List.setIfInBounds_toArray]; rfl)))
  (refine AnyGo.take 4 (some 50) ?_ (a' := ?_) rfl (by kernel_rfl) (fun _ _ d _ _ h => by cases d <;> exact h) (by kernel_rfl) (by rfl) (by kernel_rfl) ?_ ?_ ?_; rotate_left 2; (focus (intro W hW; (try dsimp only at hW); go_simp; (try with_reducible rfl))); (focus (simp only [Act.put, List.setIfInBounds_toArray]; rfl)))
  (refine AnyGo.take 5 (some 51) ?_ (a' := ?_) rfl (by kernel_rfl) (fun _ _ d _ _ h => by cases d <;> exact h) (by kernel_rfl) (by rfl) (by kernel_rfl) ?_ ?_ ?_; rotate_left 2; (focus (intro W hW; (try dsimp only at hW); go_simp; (try with_reducible rfl))); (focus (simp only [Act.put, List.setIfInBounds_toArray]; rfl)))
  (refine AnyGo.take 6 (some 52) ?_ (a' := ?_) rfl (by kernel_rfl) (fun _ _ d _ _ h => by cases d <;> exact h) (by kernel_rfl) (by rfl) (by kernel_rfl) ?_ ?_ ?_; rotate_left 2; (focus (intro W hW; (try dsimp only at hW); go_simp; (try with_reducible rfl))); (focus (simp only [Act.put, List.setIfInBounds_toArray]; rfl)))
  (refine AnyGo.take 7 (some 53) ?_ (a' := ?_) rfl (by kernel_rfl) (fun _ _ d _ _ h => by cases d <;> exact h) (by kernel_rfl) (by rfl) (by kernel_rfl) ?_ ?_ ?_; rotate_left 2; (focus (intro W hW; (try dsimp only at hW); go_simp; (try with_reducible rfl))); (focus (simp only [Act.put, List.setIfInBounds_toArray]; rfl)))
  refine AnyGo.one (i := 8) (by kernel_rfl) rfl (by kernel_rfl) (fun K' hK' => ?_)
  refine wp_copy_k (.tmp 50) (.tmp 53) 24 24 rfl 42 Try.underlying24 5 sizeN nb o2 g o1 p c2 p c1 rfl rfl (splice row o1 (ncs xs)) 42 HN2.out (ncs (l.drop i)) p (by simp) HDL.out
    (fun j v hj => cell_at (W := w1.drew) HG2.out (HSRC.out j v hj)) (by have := HEQ.out; have := HDL.out; have := HXL.out; rw [length_splice _ _ _ (by omega)]; omega) (ncs_one _) (some 54) rfl ?_
  intro w2 hg2 hgr2
  refine hK'.out _ _ trivial ?_
  have HN3 := keep hg2
  have HGR3 : Keep (w1.grownBy w2 (some nb)) := keep ⟨hgr2.os, hgr2.tape, hgr2.output, hgr2.size, hgr2.block⟩
  clear hK' K' hg2 hgr2 hw1
  (try simp only [Act.put, List.setIfInBounds_toArray])
  refine AnyGo.fin (by kernel_rfl) ?_
  (try simp only [List.set_cons_succ, List.set_cons_zero])
  go_wp2_with fail
  go_ret
  have hE := HEQ.out
  have hD := HDL.out
  have hX := HXL.out
  refine ⟨_, rfl, own_shut (by omega) HN3.out (by omega) (by omega) (by rw [length_splice _ _ _ (by rw [length_splice _ _ _ (by omega)]; omega), length_splice _ _ _ (by omega)]; omega) HLEN.out HFIN.out, ?_, .inr (by rw [← hE.2.2.2.2.2.2.2.2.2.2.2]; rfl)⟩
  have hz := HGR1.out.size
  refine ⟨HGR3.out.os.trans (HGR2.out.os.trans HGR1.out.os), HGR3.out.tape.trans (HGR2.out.tape.trans HGR1.out.tape), HGR3.out.output.trans (HGR2.out.output.trans HGR1.out.output), Nat.le_trans hz (Nat.le_trans HGR2.out.size HGR3.out.size), fun k hk _ => ?_⟩
  rw [HGR3.out.block k (Nat.lt_of_lt_of_le hk (Nat.le_trans hz HGR2.out.size)) (fun e => by injection e with e; omega), HGR2.out.block k (Nat.lt_of_lt_of_le hk hz) (fun e => by injection e with e; omega)]
  exact HGR1.out.block k hk (by simp)

theorem insert_any (B : Nat) (v u : Value) (l xs : List Nd) (i : Nat) (hi : i < l.length) (hl : l.length + xs.length ≤ 100000) (w : World) (hB : B ≤ w.heap.size) (h : w.ownsRow B 42 5 v l.length (ncs l)) (Bu : Nat) (hu : w.ownsRow Bu 42 5 u xs.length (ncs xs)) (hne : ∀ k, u.ownBlock = some k → v.ownBlock ≠ some k) :
    Calls Try.prog 28 #[v, .int .i64 (i : Int), u] w fun e w' => InsTo B v (l.take i ++ xs ++ l.drop i) w e w' := by
  by_cases h0 : xs.length = 0
  · have hx : xs = [] := List.length_eq_zero_iff.1 h0
    have e : l.take i ++ xs ++ l.drop i = l := by rw [hx, List.append_nil, List.take_append_drop]
    rw [e]
    exact insert_none B v u l xs i hi (by omega) h0 w h Bu hu
  · obtain ⟨g, cap, cur, rfl, _⟩ := own_open h (by omega)
    obtain ⟨gu, cu, curu, rfl, _⟩ := own_open hu (by omega)
    by_cases hr : l.length + xs.length ≤ cap
    · exact insert_shift B l xs i hi hl (by omega) w g cap h Bu gu cu hu (fun e => hne gu rfl (by rw [e]; rfl)) hr
    · exact insert_grow B l xs i hi hl (by omega) w hB g cap h Bu gu cu hu (by omega)
end Go.Proofs.Ytglmcjplglgnlaa
