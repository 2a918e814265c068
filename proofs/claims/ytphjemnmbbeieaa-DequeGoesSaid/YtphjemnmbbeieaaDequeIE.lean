/-
  A place of the deque's ring cleared; Push and Shove.
-/
import Derived.Test.YtphjemnmbbeieaaDequeID
namespace Go.Proofs.Ytphjemnmbbeieaa.I
open Go.RowKit

/-- The cell at a place of the ring. -/
theorem DAt.cellAt {d g : Nat} {cs : List Value} {f : Nat} {l : List Int} {w : World} (h : DAt d g cs f l w) (j : Nat) : w.cell? ⟨g, j, none⟩ = cs[j]? := by
  rw [cell_of_row w g _ _ _ _ h.cells]; simp

set_option maxHeartbeats 1000000 in
theorem clear_any (d g : Nat) (cs : List Value) (f : Nat) (l : List Int) (i : Nat) (w : World) (h : DAt d g cs f l w) (hi : i < cs.length) :
    Calls Try.prog 35 #[.pointer (some ⟨d, 0, none⟩), .int .i64 (i : Int)] w fun e w' => e = .returned (.tuple #[]) ∧
      w' = (w.setCell ⟨g, wr cs.length (f + i), none⟩ (.int .i64 0)).drew := by
  have HA := keep h
  obtain ⟨c0, c1, _⟩ := h.box.cells
  have hwl := wr_lt (i := i) h.ring.first (by omega)
  have hcl := h.cellAt (wr cs.length (f + i))
  rw [List.getElem?_eq_getElem hwl] at hcl
  have hfz := frozen_of_row w g (wr cs.length (f + i)) _ _ h.cells
  have hle := h.le
  have HP := keep (fun W (h0 : W.cell? ⟨d, 0, none⟩ = some (.slice (some ⟨g, 0, none⟩) cs.length cs.length)) (h1 : W.cell? ⟨d, 1, none⟩ = some (.int .i64 (f : Int))) => place_any d _ cs.length f i W h0 h1 hle (by have := h.ring.first; omega) (by omega))
  generalize wr cs.length (f + i) = j at *
  generalize cs[j] = old at *
  generalize cs.length = n at *
  have hjI : (j : Int) < (n : Int) := by omega
  have hj0 : (0 : Int) ≤ (j : Int) := by omega
  clear h hi hwl hle
  go_enter Try.func35, Try.ntmps35
  go_wp2_with fail
  refine AnyGo.region (fun W' => W'.cell? ⟨d, 0, none⟩ = some (.slice (some ⟨g, 0, none⟩) n n)) (by kernel_rfl) (by rfl) c0 ?_
  intro wd ewd
  subst ewd
  (refine AnyGo.take 0 (some 5) ?_ (a' := ?_) rfl (by kernel_rfl) (fun _ _ d _ _ h => by cases d <;> exact h) (by kernel_rfl) (by rfl) (by kernel_rfl) ?_ ?_ ?_; rotate_left 2; (focus (intro W hW; (try dsimp only at hW); go_simp; (try with_reducible rfl))); (focus (simp only [Act.put, List.setIfInBounds_toArray]; rfl)))
  (refine AnyGo.take 1 (some 6) ?_ (a' := ?_) rfl (by kernel_rfl) (fun _ _ d _ _ h => by cases d <;> exact h) (by kernel_rfl) (by rfl) (by kernel_rfl) ?_ ?_ ?_; rotate_left 2; (focus (intro W hW; (try dsimp only at hW); go_simp; (try with_reducible rfl))); (focus (simp only [Act.put, List.setIfInBounds_toArray]; rfl)))
  (refine AnyGo.take 2 (some 7) ?_ (a' := ?_) rfl (by kernel_rfl) (fun _ _ d _ _ h => by cases d <;> exact h) (by kernel_rfl) (by rfl) (by kernel_rfl) ?_ ?_ ?_; rotate_left 2; (focus (intro W hW; (try dsimp only at hW); go_simp; (try with_reducible rfl))); (focus (simp only [Act.put, List.setIfInBounds_toArray]; rfl)))
  (refine AnyGo.take 3 (some 8) ?_ (a' := ?_) rfl (by kernel_rfl) (fun _ _ d _ _ h => by cases d <;> exact h) (by kernel_rfl) (by rfl) (by kernel_rfl) ?_ ?_ ?_; rotate_left 2; (focus (intro W hW; (try dsimp only at hW); go_simp; (try with_reducible rfl))); (focus (simp only [Act.put, List.setIfInBounds_toArray]; rfl)))
  (refine AnyGo.take 4 (some 9) ?_ (a' := ?_) rfl (by kernel_rfl) (fun _ _ d _ _ h => by cases d <;> exact h) (by kernel_rfl) (by rfl) (by kernel_rfl) ?_ ?_ ?_; rotate_left 2; (focus (intro W hW; (try dsimp only at hW); go_simp; (try with_reducible rfl))); (focus (simp only [Act.put, List.setIfInBounds_toArray]; rfl)))
  (refine AnyGo.take 5 (some 10) ?_ (a' := ?_) rfl (by kernel_rfl) (fun _ _ d _ _ h => by cases d <;> exact h) (by kernel_rfl) (by rfl) (by kernel_rfl) ?_ ?_ ?_; rotate_left 2; (focus (intro W hW; (try dsimp only at hW); go_simp; (try with_reducible rfl))); (focus (simp only [Act.put, List.setIfInBounds_toArray]; rfl)))
  (refine AnyGo.take 7 (some 12) ?_ (a' := ?_) rfl (by kernel_rfl) (fun _ _ d _ _ h => by cases d <;> exact h) (by kernel_rfl) (by rfl) (by kernel_rfl) ?_ ?_ ?_; rotate_left 2; (focus (intro W hW; (try dsimp only at hW); go_simp; (try with_reducible rfl))); (focus (simp only [Act.put, List.setIfInBounds_toArray]; rfl)))
  refine AnyGo.one (i := 6) (by kernel_rfl) rfl (by kernel_rfl) (fun K' hK' => ?_)
  go_simp
  refine (HP.out w.drew c0 c1).mono ?_
  rintro e w' ⟨rfl, rfl⟩
  refine hK'.out _ _ c0 ?_
  clear hK' K'
  (try simp only [Act.put, List.setIfInBounds_toArray])
  (refine AnyGo.take 8 (some 13) ?_ (a' := ?_) rfl (by kernel_rfl) (fun _ _ d _ _ h => by cases d <;> exact h) (by kernel_rfl) (by rfl) (by kernel_rfl) ?_ ?_ ?_; rotate_left 2; (focus (intro W hW; (try dsimp only at hW); go_simp; (try with_reducible rfl))); (focus (simp only [Act.put, List.setIfInBounds_toArray]; rfl)))
  refine AnyGo.one (i := 9) (by kernel_rfl) rfl (by kernel_rfl) (fun K' hK' => ?_)
  go_simp
  refine hK'.out _ _ ((World.cell?_setCell_other w _ _ _ (by intro c; injection c with c _; exact HA.out.ne c)).trans c0) ?_
  clear hK' K'
  refine AnyGo.fin (by kernel_rfl) ?_
  go_end0
  exact ⟨rfl, rfl⟩

/-- An element laid into the ring. -/
theorem DAt.put {d g : Nat} {cs : List Value} {f : Nat} {l : List Int} {w : World} (h : DAt d g cs f l w) (j : Nat) (x : Value) : (w.setCell ⟨g, j, none⟩ x).heap[g]? = some (.cells (cs.set j x).toArray 3 (0, 0)) := by
  rw [heap_setCell_same w g j _ _ _ h.cells]; simp
theorem dkept_put {d : Nat} {r : Option Nat} {w w' : World} {g : Nat} (h : DKept d r (some g) w w') (p : Addr) (x : Value) (hp : p.block = d ∨ p.block = g) : DKept d r (some g) w (w'.setCell p x) :=
  h.trans ((DKept.grown (k := p.block) ⟨rfl, rfl, rfl, by simp, fun k _ hn => heap_setCell_other w' p k x (fun e => hn (by rw [e]))⟩ (by rcases hp with e | e; exact .inl e; exact .inr (by rw [e]))))
theorem dkept_drew' {d : Nat} {r r' : Option Nat} {w w' : World} (h : DKept d r r' w w') : DKept d r r' w w'.drew := h.trans (dkept_drew d r' w')

set_option maxHeartbeats 1000000 in
theorem push_any (d : Nat) (r : Option Nat) (l : List Int) (x : Int) (w : World) (h : DQ d r l w) (hl : l.length ≤ 1000) :
    Calls Try.prog 21 #[.pointer (some ⟨d, 0, none⟩), .int .i64 x] w fun e w' => e = .returned (.tuple #[]) ∧ DTo d r (l ++ [x]) w w' := by
  have HW := keep (widen_any d r l w h hl)
  have hlI : (l.length : Int) ≤ 1000 := by omega
  clear h
  go_enter Try.func21, Try.ntmps21
  go_wp2_with fail
  refine HW.out.mono ?_
  rintro e w1 ⟨rfl, g, cs, f, ha, hlt, hk⟩
  have HA := keep ha
  have HK := keep hk
  have HT : Keep (DAt d g (cs.set (wr cs.length (f + l.length)) (.int .i64 x)) f (l ++ [x]) ((w1.setCell ⟨g, wr cs.length (f + l.length), none⟩ (.int .i64 x)).setCell ⟨d, 2, none⟩ (.int .i64 ((l.length : Int) + 1)))) := ⟨by
    have hr := ha.ring.push (by rw [List.length_map]; exact hlt) (.int .i64 x)
    rw [List.length_map] at hr
    refine ⟨?_, ?_, ha.ne, by rw [List.length_set]; exact ha.le, by rw [List.map_append]; exact hr⟩
    · rw [List.length_set]
      have hb : DBox d (some ⟨g, 0, none⟩) cs.length f l.length (w1.setCell ⟨g, wr cs.length (f + l.length), none⟩ (.int .i64 x)) := (heap_setCell_other w1 _ d _ ha.ne.symm).trans ha.box
      have := hb.set2 (l.length + 1)
      rw [List.length_append, List.length_singleton]
      simpa using this
    · rw [heap_setCell_other _ _ _ _ ha.ne]
      exact ha.put _ _⟩
  have HKT : Keep (DKept d r (some g) w ((w1.setCell ⟨g, wr cs.length (f + l.length), none⟩ (.int .i64 x)).setCell ⟨d, 2, none⟩ (.int .i64 ((l.length : Int) + 1)))) := ⟨dkept_put (dkept_put hk _ _ (.inr rfl)) _ _ (.inl rfl)⟩
  obtain ⟨c0, c1, c2, _, _, z2⟩ := ha.box.cells
  have hwl := wr_lt (i := l.length) ha.ring.first (by omega)
  have hcl := ha.cellAt (wr cs.length (f + l.length))
  rw [List.getElem?_eq_getElem hwl] at hcl
  have hfz := frozen_of_row w1 g (wr cs.length (f + l.length)) _ _ ha.cells
  have HP := keep (fun W (h0 : W.cell? ⟨d, 0, none⟩ = some (.slice (some ⟨g, 0, none⟩) cs.length cs.length)) (h1 : W.cell? ⟨d, 1, none⟩ = some (.int .i64 (f : Int))) => place_any d _ cs.length f l.length W h0 h1 ha.le (by have := ha.ring.first; have := ha.le; omega) (by omega))
  generalize wr cs.length (f + l.length) = j at *
  generalize cs[j] = old at *
  generalize cs.length = n at *
  have hjI : (j : Int) < (n : Int) := by omega
  have hj0 : (0 : Int) ≤ (j : Int) := by omega
  have hgd := ha.ne
  clear ha hk hwl hlt hl
  generalize l.length = k at *
  go_wp2_with fail
  refine AnyGo.region (fun W' => W'.cell? ⟨d, 0, none⟩ = some (.slice (some ⟨g, 0, none⟩) n n) ∧ W'.cell? ⟨d, 2, none⟩ = some (.int .i64 (k : Int))) (by kernel_rfl) (by rfl) ⟨c0, c2⟩ ?_
  intro wd ewd
  subst ewd
  (refine AnyGo.take 0 (some 8) ?_ (a' := ?_) rfl (by kernel_rfl) (fun _ _ d _ _ h => by cases d <;> exact h) (by kernel_rfl) (by rfl) (by kernel_rfl) ?_ ?_ ?_; rotate_left 2; (focus (intro W hW; (try dsimp only at hW); go_simp; (try with_reducible rfl))); (focus (simp only [Act.put, List.setIfInBounds_toArray]; rfl)))
  (refine AnyGo.take 1 (some 9) ?_ (a' := ?_) rfl (by kernel_rfl) (fun _ _ d _ _ h => by cases d <;> exact h) (by kernel_rfl) (by rfl) (by kernel_rfl) ?_ ?_ ?_; rotate_left 2; (focus (intro W hW; (try dsimp only at hW); go_simp; (try with_reducible rfl))); (focus (simp only [Act.put, List.setIfInBounds_toArray]; rfl)))
  (refine AnyGo.take 2 (some 10) ?_ (a' := ?_) rfl (by kernel_rfl) (fun _ _ d _ _ h => by cases d <;> exact h) (by kernel_rfl) (by rfl) (by kernel_rfl) ?_ ?_ ?_; rotate_left 2; (focus (intro W hW; (try dsimp only at hW); go_simp; (try with_reducible rfl))); (focus (simp only [Act.put, List.setIfInBounds_toArray]; rfl)))
  (refine AnyGo.take 3 (some 11) ?_ (a' := ?_) rfl (by kernel_rfl) (fun _ _ d _ _ h => by cases d <;> exact h) (by kernel_rfl) (by rfl) (by kernel_rfl) ?_ ?_ ?_; rotate_left 2; (focus (intro W hW; (try dsimp only at hW); go_simp; (try with_reducible rfl))); (focus (simp only [Act.put, List.setIfInBounds_toArray]; rfl)))
  (refine AnyGo.take 4 (some 12) ?_ (a' := ?_) rfl (by kernel_rfl) (fun _ _ d _ _ h => by cases d <;> exact h) (by kernel_rfl) (by rfl) (by kernel_rfl) ?_ ?_ ?_; rotate_left 2; (focus (intro W hW; (try dsimp only at hW); go_simp; (try with_reducible rfl))); (focus (simp only [Act.put, List.setIfInBounds_toArray]; rfl)))
  (refine AnyGo.take 5 (some 13) ?_ (a' := ?_) rfl (by kernel_rfl) (fun _ _ d _ _ h => by cases d <;> exact h) (by kernel_rfl) (by rfl) (by kernel_rfl) ?_ ?_ ?_; rotate_left 2; (focus (intro W hW; (try dsimp only at hW); go_simp; (try with_reducible rfl))); (focus (simp only [Act.put, List.setIfInBounds_toArray]; rfl)))
  (refine AnyGo.take 6 (some 14) ?_ (a' := ?_) rfl (by kernel_rfl) (fun _ _ d _ _ h => by cases d <;> exact h) (by kernel_rfl) (by rfl) (by kernel_rfl) ?_ ?_ ?_; rotate_left 2; (focus (intro W hW; (try dsimp only at hW); go_simp; (try with_reducible rfl))); (focus (simp only [Act.put, List.setIfInBounds_toArray]; rfl)))
  (refine AnyGo.take 7 (some 15) ?_ (a' := ?_) rfl (by kernel_rfl) (fun _ _ d _ _ h => by cases d <;> exact h) (by kernel_rfl) (by rfl) (by kernel_rfl) ?_ ?_ ?_; rotate_left 2; (focus (intro W hW; (try dsimp only at hW); go_simp; (try with_reducible rfl))); (focus (simp only [Act.put, List.setIfInBounds_toArray]; rfl)))
  (refine AnyGo.take 8 (some 16) ?_ (a' := ?_) rfl (by kernel_rfl) (fun _ _ d _ _ h => by cases d <;> exact h) (by kernel_rfl) (by rfl) (by kernel_rfl) ?_ ?_ ?_; rotate_left 2; (focus (intro W hW; (try dsimp only at hW); go_simp; (try with_reducible rfl))); (focus (simp only [Act.put, List.setIfInBounds_toArray]; rfl)))
  (refine AnyGo.take 10 (some 18) ?_ (a' := ?_) rfl (by kernel_rfl) (fun _ _ d _ _ h => by cases d <;> exact h) (by kernel_rfl) (by rfl) (by kernel_rfl) ?_ ?_ ?_; rotate_left 2; (focus (intro W hW; (try dsimp only at hW); go_simp; (try with_reducible rfl))); (focus (simp only [Act.put, List.setIfInBounds_toArray]; rfl)))
  refine AnyGo.one (i := 9) (by kernel_rfl) rfl (by kernel_rfl) (fun K' hK' => ?_)
  go_simp
  refine (HP.out w1.drew c0 c1).mono ?_
  rintro e w' ⟨rfl, rfl⟩
  refine hK'.out _ _ ⟨c0, c2⟩ ?_
  clear hK' K'
  (try simp only [Act.put, List.setIfInBounds_toArray])
  (refine AnyGo.take 11 (some 19) ?_ (a' := ?_) rfl (by kernel_rfl) (fun _ _ d _ _ h => by cases d <;> exact h) (by kernel_rfl) (by rfl) (by kernel_rfl) ?_ ?_ ?_; rotate_left 2; (focus (intro W hW; (try dsimp only at hW); go_simp; (try with_reducible rfl))); (focus (simp only [Act.put, List.setIfInBounds_toArray]; rfl)))
  refine AnyGo.one (i := 12) (by kernel_rfl) rfl (by kernel_rfl) (fun K' hK' => ?_)
  go_simp
  have c2' : (w1.setCell ⟨g, j, none⟩ (.int .i64 x)).cell? ⟨d, 2, none⟩ = some (.int .i64 (k : Int)) := (World.cell?_setCell_other w1 _ _ _ (by intro c; injection c with c _; exact hgd c)).trans c2
  have c0' : (w1.setCell ⟨g, j, none⟩ (.int .i64 x)).cell? ⟨d, 0, none⟩ = some (.slice (some ⟨g, 0, none⟩) n n) := (World.cell?_setCell_other w1 _ _ _ (by intro c; injection c with c _; exact hgd c)).trans c0
  refine hK'.out _ _ ⟨c0', c2'⟩ ?_
  clear hK' K' c0 c0' c1 hcl hfz
  refine AnyGo.fin (by kernel_rfl) ?_
  go_wp2_with fail
  go_end0
  exact ⟨rfl, some g, HT.out.drew.dq, dkept_drew' HKT.out⟩

set_option maxHeartbeats 1000000 in
theorem shove_any (d : Nat) (r : Option Nat) (l : List Int) (x : Int) (w : World) (h : DQ d r l w) (hl : l.length ≤ 1000) :
    Calls Try.prog 22 #[.pointer (some ⟨d, 0, none⟩), .int .i64 x] w fun e w' => e = .returned (.tuple #[]) ∧ DTo d r (x :: l) w w' := by
  have HW := keep (widen_any d r l w h hl)
  have hlI : (l.length : Int) ≤ 1000 := by omega
  clear h
  go_enter Try.func22, Try.ntmps22
  go_wp2_with fail
  refine HW.out.mono ?_
  rintro e w1 ⟨rfl, g, cs, f, ha, hlt, hk⟩
  have HA := keep ha
  have HK := keep hk
  have hfj := wr_lt (i := cs.length - 1) ha.ring.first (by omega)
  have HT : Keep (DAt d g (cs.set (wr cs.length (f + (cs.length - 1))) (.int .i64 x)) (wr cs.length (f + (cs.length - 1))) (x :: l) (((w1.setCell ⟨d, 1, none⟩ (.int .i64 (wr cs.length (f + (cs.length - 1)) : Nat))).setCell ⟨g, wr cs.length (f + (cs.length - 1)), none⟩ (.int .i64 x)).setCell ⟨d, 2, none⟩ (.int .i64 ((l.length : Int) + 1)))) := ⟨by
    have hr := ha.ring.shove (by rw [List.length_map]; exact hlt) (.int .i64 x)
    refine ⟨?_, ?_, ha.ne, by rw [List.length_set]; exact ha.le, by rw [List.map_cons]; exact hr⟩
    · rw [List.length_set]
      have hb : DBox d (some ⟨g, 0, none⟩) cs.length (wr cs.length (f + (cs.length - 1))) l.length ((w1.setCell ⟨d, 1, none⟩ (.int .i64 (wr cs.length (f + (cs.length - 1)) : Nat))).setCell ⟨g, wr cs.length (f + (cs.length - 1)), none⟩ (.int .i64 x)) := (heap_setCell_other _ _ d _ ha.ne.symm).trans (ha.box.set1 _)
      have := hb.set2 (l.length + 1)
      rw [List.length_cons]
      simpa using this
    · rw [heap_setCell_other _ _ _ _ ha.ne]
      have hc : (w1.setCell ⟨d, 1, none⟩ (.int .i64 (wr cs.length (f + (cs.length - 1)) : Nat))).heap[g]? = some (.cells cs.toArray 3 (0, 0)) := (heap_setCell_other _ _ g _ ha.ne).trans ha.cells
      rw [heap_setCell_same _ g _ _ _ _ hc]; simp⟩
  have HKT : Keep (DKept d r (some g) w (((w1.setCell ⟨d, 1, none⟩ (.int .i64 (wr cs.length (f + (cs.length - 1)) : Nat))).setCell ⟨g, wr cs.length (f + (cs.length - 1)), none⟩ (.int .i64 x)).setCell ⟨d, 2, none⟩ (.int .i64 ((l.length : Int) + 1)))) := ⟨dkept_put (dkept_put (dkept_put hk _ _ (.inl rfl)) _ _ (.inr rfl)) _ _ (.inl rfl)⟩
  obtain ⟨c0, c1, c2, _, z1, z2⟩ := ha.box.cells
  have hcl := ha.cellAt (wr cs.length (f + (cs.length - 1)))
  rw [List.getElem?_eq_getElem hfj] at hcl
  have hfz := frozen_of_row w1 g (wr cs.length (f + (cs.length - 1))) _ _ ha.cells
  have HP := keep (place_any d _ cs.length f (cs.length - 1) w1 c0 c1 ha.le (by have := ha.ring.first; have := ha.le; omega) (by have := ha.le; omega))
  rw [show ((cs.length - 1 : Nat) : Int) = (cs.length : Int) - 1 by omega] at HP
  have hnI : (cs.length : Int) ≤ 1000000 := by have := ha.le; omega
  have hn0 : (0 : Int) < (cs.length : Int) := by omega
  generalize wr cs.length (f + (cs.length - 1)) = j at *
  generalize cs[j] = old at *
  generalize cs.length = n at *
  have hjI : (j : Int) < (n : Int) := by omega
  have hj0 : (0 : Int) ≤ (j : Int) := by omega
  have hgd := ha.ne
  have hgd' : ¬ d = g := fun e => hgd e.symm
  clear ha hk hfj hlt hl
  generalize l.length = k at *
  go_wp2_with fail
  refine HP.out.mono ?_
  rintro e w' ⟨rfl, rfl⟩
  go_wp2_with fail
  obtain ⟨w2, hw2⟩ : ∃ w2, w2 = w1.setCell ⟨d, 1, none⟩ (.int .i64 (j : Int)) := ⟨_, rfl⟩
  have c0' : w2.cell? ⟨d, 0, none⟩ = some (.slice (some ⟨g, 0, none⟩) n n) := by rw [hw2, World.cell?_setCell_other _ _ _ _ (by intro c; injection c with _ c; cases c)]; exact c0
  have c1' : w2.cell? ⟨d, 1, none⟩ = some (.int .i64 (j : Int)) := by rw [hw2]; exact World.cell?_setCell_same _ _ _ c1
  have c2' : w2.cell? ⟨d, 2, none⟩ = some (.int .i64 (k : Int)) := by rw [hw2, World.cell?_setCell_other _ _ _ _ (by intro c; injection c with _ c; cases c)]; exact c2
  have hcl' : w2.cell? ⟨g, j, none⟩ = some old := by rw [hw2, World.cell?_setCell_other _ _ _ _ (by intro c; injection c with c _; exact hgd' c)]; exact hcl
  have hfz' : w2.frozen? ⟨g, j, none⟩ = false := by rw [hw2, World.frozen?_setCell]; exact hfz
  have z2' : w2.frozen? ⟨d, 2, none⟩ = false := by rw [hw2, World.frozen?_setCell]; exact z2
  rw [← hw2] at HT HKT ⊢
  clear hw2 c0 c1 c2 z1 z2 hcl hfz HP HA HK
  refine AnyGo.region (fun W' => W'.cell? ⟨d, 0, none⟩ = some (.slice (some ⟨g, 0, none⟩) n n) ∧ W'.cell? ⟨d, 1, none⟩ = some (.int .i64 (j : Int))) (by kernel_rfl) (by rfl) ⟨c0', c1'⟩ ?_
  intro wd ewd
  subst ewd
  (refine AnyGo.take 0 (some 19) ?_ (a' := ?_) rfl (by kernel_rfl) (fun _ _ d _ _ h => by cases d <;> exact h) (by kernel_rfl) (by rfl) (by kernel_rfl) ?_ ?_ ?_; rotate_left 2; (focus (intro W hW; (try dsimp only at hW); go_simp; (try with_reducible rfl))); (focus (simp only [Act.put, List.setIfInBounds_toArray]; rfl)))
  (refine AnyGo.take 1 (some 20) ?_ (a' := ?_) rfl (by kernel_rfl) (fun _ _ d _ _ h => by cases d <;> exact h) (by kernel_rfl) (by rfl) (by kernel_rfl) ?_ ?_ ?_; rotate_left 2; (focus (intro W hW; (try dsimp only at hW); go_simp; (try with_reducible rfl))); (focus (simp only [Act.put, List.setIfInBounds_toArray]; rfl)))
  (refine AnyGo.take 2 (some 21) ?_ (a' := ?_) rfl (by kernel_rfl) (fun _ _ d _ _ h => by cases d <;> exact h) (by kernel_rfl) (by rfl) (by kernel_rfl) ?_ ?_ ?_; rotate_left 2; (focus (intro W hW; (try dsimp only at hW); go_simp; (try with_reducible rfl))); (focus (simp only [Act.put, List.setIfInBounds_toArray]; rfl)))
  (refine AnyGo.take 3 (some 22) ?_ (a' := ?_) rfl (by kernel_rfl) (fun _ _ d _ _ h => by cases d <;> exact h) (by kernel_rfl) (by rfl) (by kernel_rfl) ?_ ?_ ?_; rotate_left 2; (focus (intro W hW; (try dsimp only at hW); go_simp; (try with_reducible rfl))); (focus (simp only [Act.put, List.setIfInBounds_toArray]; rfl)))
  (refine AnyGo.take 4 (some 23) ?_ (a' := ?_) rfl (by kernel_rfl) (fun _ _ d _ _ h => by cases d <;> exact h) (by kernel_rfl) (by rfl) (by kernel_rfl) ?_ ?_ ?_; rotate_left 2; (focus (intro W hW; (try dsimp only at hW); go_simp; (try with_reducible rfl))); (focus (simp only [Act.put, List.setIfInBounds_toArray]; rfl)))
  (refine AnyGo.take 5 (some 24) ?_ (a' := ?_) rfl (by kernel_rfl) (fun _ _ d _ _ h => by cases d <;> exact h) (by kernel_rfl) (by rfl) (by kernel_rfl) ?_ ?_ ?_; rotate_left 2; (focus (intro W hW; (try dsimp only at hW); go_simp; (try with_reducible rfl))); (focus (simp only [Act.put, List.setIfInBounds_toArray]; rfl)))
  (refine AnyGo.take 6 (some 25) ?_ (a' := ?_) rfl (by kernel_rfl) (fun _ _ d _ _ h => by cases d <;> exact h) (by kernel_rfl) (by rfl) (by kernel_rfl) ?_ ?_ ?_; rotate_left 2; (focus (intro W hW; (try dsimp only at hW); go_simp; (try with_reducible rfl))); (focus (simp only [Act.put, List.setIfInBounds_toArray]; rfl)))
  (refine AnyGo.take 7 (some 26) ?_ (a' := ?_) rfl (by kernel_rfl) (fun _ _ d _ _ h => by cases d <;> exact h) (by kernel_rfl) (by rfl) (by kernel_rfl) ?_ ?_ ?_; rotate_left 2; (focus (intro W hW; (try dsimp only at hW); go_simp; (try with_reducible rfl))); (focus (simp only [Act.put, List.setIfInBounds_toArray]; rfl)))
  (refine AnyGo.take 8 (some 27) ?_ (a' := ?_) rfl (by kernel_rfl) (fun _ _ d _ _ h => by cases d <;> exact h) (by kernel_rfl) (by rfl) (by kernel_rfl) ?_ ?_ ?_; rotate_left 2; (focus (intro W hW; (try dsimp only at hW); go_simp; (try with_reducible rfl))); (focus (simp only [Act.put, List.setIfInBounds_toArray]; rfl)))
  (refine AnyGo.take 9 (some 28) ?_ (a' := ?_) rfl (by kernel_rfl) (fun _ _ d _ _ h => by cases d <;> exact h) (by kernel_rfl) (by rfl) (by kernel_rfl) ?_ ?_ ?_; rotate_left 2; (focus (intro W hW; (try dsimp only at hW); go_simp; (try with_reducible rfl))); (focus (simp only [Act.put, List.setIfInBounds_toArray]; rfl)))
  refine AnyGo.one (i := 10) (by kernel_rfl) rfl (by kernel_rfl) (fun K' hK' => ?_)
  go_simp
  have e2 : (w2.setCell ⟨g, j, none⟩ (.int .i64 x)).cell? ⟨d, 2, none⟩ = some (.int .i64 (k : Int)) := (World.cell?_setCell_other w2 _ _ _ (by intro c; injection c with c _; exact hgd c)).trans c2'
  have e0 : (w2.setCell ⟨g, j, none⟩ (.int .i64 x)).cell? ⟨d, 0, none⟩ = some (.slice (some ⟨g, 0, none⟩) n n) := (World.cell?_setCell_other w2 _ _ _ (by intro c; injection c with c _; exact hgd c)).trans c0'
  have e1 : (w2.setCell ⟨g, j, none⟩ (.int .i64 x)).cell? ⟨d, 1, none⟩ = some (.int .i64 (j : Int)) := (World.cell?_setCell_other w2 _ _ _ (by intro c; injection c with c _; exact hgd c)).trans c1'
  refine hK'.out _ _ ⟨e0, e1⟩ ?_
  clear hK' K' c0' c1' c2' hcl' hfz' e0 e1
  refine AnyGo.fin (by kernel_rfl) ?_
  go_wp2_with fail
  go_end0
  exact ⟨rfl, some g, HT.out.drew.dq, dkept_drew' HKT.out⟩
end Go.Proofs.Ytphjemnmbbeieaa.I
