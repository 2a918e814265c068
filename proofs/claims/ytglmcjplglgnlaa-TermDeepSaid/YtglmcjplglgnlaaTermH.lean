/-
  Rows of nodes turned in place: a node stored, a piece copied, a slice cut; slices.Reverse.
-/
import Derived.Test.YtglmcjplglgnlaaTermN
import Derived.Lib.AppendZerosOnto
import Derived.Lib.Overlaps
import Derived.Laws.NewBlocks
namespace Go.Proofs.Ytglmcjplglgnlaa
open Go.RowKit Go.Joins

/-! ### Pieces of lists laid over others -/
theorem splice_get {α : Type} (L : List α) (off : Nat) (cs : List α) (h : off ≤ L.length) (j : Nat) : (splice L off cs)[j]? = if j < off then L[j]? else if j < off + cs.length then cs[j - off]? else L[j]? := by
  unfold splice
  by_cases h1 : j < off
  · rw [if_pos h1, List.getElem?_append_left (by rw [List.length_take]; omega), List.getElem?_take, if_pos h1]
  · rw [if_neg h1, List.getElem?_append_right (by rw [List.length_take]; omega), List.length_take, Nat.min_eq_left h]
    by_cases h2 : j < off + cs.length
    · rw [if_pos h2, List.getElem?_append_left (by omega)]
    · rw [if_neg h2, List.getElem?_append_right (by omega), List.getElem?_drop]
      congr 1
      omega
theorem splice_take {α : Type} (L : List α) (off N : Nat) (cs : List α) (hL : off ≤ L.length) (h : off + cs.length ≤ N) : (splice L off cs).take N = splice (L.take N) off cs := by
  apply List.ext_getElem?
  intro j
  rw [List.getElem?_take, splice_get _ _ _ hL, splice_get _ _ _ (by rw [List.length_take]; omega), List.getElem?_take]
  by_cases h0 : j < N
  · simp only [h0, if_true]
  · simp only [h0, if_false]
    rw [if_neg (by omega), if_neg (by omega)]
theorem ncs_drop (l : List Nd) (i : Nat) : (ncs l).drop (i * 5) = ncs (l.drop i) := by
  rcases Nat.lt_or_ge i l.length with h | h
  · have e : l = l.take i ++ l.drop i := (List.take_append_drop i l).symm
    have h2 : (ncs (l.take i)).length = i * 5 := by rw [ncs_len, List.length_take, Nat.min_eq_left (by omega)]
    calc (ncs l).drop (i * 5) = (ncs (l.take i ++ l.drop i)).drop (i * 5) := by rw [← e]
      _ = ncs (l.drop i) := by rw [ncs_append, ← h2, List.drop_left]
  · rw [List.drop_eq_nil_of_le h, List.drop_eq_nil_of_le (by rw [ncs_len]; omega)]; rfl
theorem ncs_take (l : List Nd) (i : Nat) : (ncs l).take (i * 5) = ncs (l.take i) := by
  rcases Nat.lt_or_ge i l.length with h | h
  · have e : l = l.take i ++ l.drop i := (List.take_append_drop i l).symm
    have h2 : (ncs (l.take i)).length = i * 5 := by rw [ncs_len, List.length_take, Nat.min_eq_left (by omega)]
    calc (ncs l).take (i * 5) = (ncs (l.take i ++ l.drop i)).take (i * 5) := by rw [← e]
      _ = ncs (l.take i) := by rw [ncs_append, ← h2, List.take_left]
  · rw [List.take_of_length_le h, List.take_of_length_le (by rw [ncs_len]; omega)]
/-- Nodes laid over others. -/
theorem ncs_splice (l m : List Nd) (i : Nat) : splice (ncs l) (i * 5) (ncs m) = ncs (l.take i ++ m ++ l.drop (i + m.length)) := by
  unfold splice
  rw [ncs_take, ncs_append, ncs_append, ncs_len, ← Nat.add_mul, ncs_drop, List.append_assoc]
theorem ncs_set (l : List Nd) (i : Nat) (x : Nd) (h : i < l.length) : splice (ncs l) (i * 5) x.cs = ncs (l.set i x) := by
  have e : x.cs = ncs [x] := rfl
  rw [e, ncs_splice, List.set_eq_take_append_cons_drop, if_pos h]
  simp
theorem nd_one (x : Nd) : ∀ u ∈ x.cs, u.oneCell' = true := fun u hu => ncs_one [x] u hu

/-! ### The row as it lies -/
/-- What owns a row of nodes: the slice and its block. -/
theorem own_open {W : World} {B : Nat} {v : Value} {l : List Nd} (h : W.ownsRow B 42 5 v l.length (ncs l)) (h0 : 0 < l.length) :
    ∃ g cap cur, v = .slice (some ⟨g, 0, none⟩) l.length cap ∧ B ≤ g ∧ W.heap[g]? = some (.cells (List.toArray cur) 42 (0, 0)) ∧ l.length ≤ cap ∧ cap ≤ maxLen ∧ cur.length = cap * 5 ∧ cur.take (l.length * 5) = ncs l := by
  rcases h.2 with ⟨_, hn⟩ | ⟨g, cap, cur, rfl, hb, hg, h1, h2, h3, h4⟩
  · omega
  · exact ⟨g, cap, cur.toList, rfl, hb, by simpa using hg, h1, h2, by simpa using h3, h4⟩
theorem own_shut {W : World} {B g n cap : Nat} {cur : List Value} {l : List Nd} (hb : B ≤ g) (hg : W.heap[g]? = some (.cells (List.toArray cur) 42 (0, 0))) (h1 : n ≤ cap) (h2 : cap ≤ maxLen) (h3 : cur.length = cap * 5) (hn : l.length = n) (h4 : cur.take (n * 5) = ncs l) :
    W.ownsRow B 42 5 (.slice (some ⟨g, 0, none⟩) n cap) l.length (ncs l) := by
  subst hn
  exact ⟨ncs_len l, .inr ⟨g, cap, cur.toArray, rfl, hb, hg, h1, h2, by simpa using h3, by simpa using h4⟩⟩
theorem cell_at {W : World} {g j : Nat} {cur : List Value} {t : TypeId} {u : Value} (hg : W.heap[g]? = some (.cells (List.toArray cur) t (0, 0))) (h : cur[j]? = some u) : W.cell? ⟨g, j, none⟩ = some u := by
  rw [cell_of_row W g j _ t (0, 0) hg]
  simpa using h
/-- A node of the row. -/
theorem own_nd {W : World} {B g n cap : Nat} {l : List Nd} (h : W.ownsRow B 42 5 (.slice (some ⟨g, 0, none⟩) n cap) l.length (ncs l)) {i : Nat} {x : Nd} (hi : l[i]? = some x) : NdAt W g (i * 5) x := by
  have key : ∀ j u, x.cs[j]? = some u → W.cell? ⟨g, i * 5 + j, none⟩ = some u := fun j u hj => by
    have := h.cells (g := g) rfl _ _ (ncs_at l i x hi j u hj)
    rwa [Addr.add_mid, Nat.zero_add] at this
  exact ⟨key 0 _ rfl, key 1 _ rfl, key 2 _ rfl, key 3 _ rfl, key 4 _ rfl⟩
theorem grown_row (w : World) (g : Nat) (cs : Array Value) : w.grownBy (w.setRow g cs) (some g) :=
  ⟨rfl, rfl, rfl, by simp [World.setRow], fun k _ hne => setRow_other w g k cs (fun e => hne (by rw [e]))⟩
theorem sizeN : (Try.prog.info? 42).map (·.size) = some 5 := by kernel_rfl
theorem isAggN (w : World) : (isAgg 42).run Try.prog w = .ok true w := by kernel_rfl
theorem sizeOfN (w : World) : (Go.sizeOf 42).run Try.prog w = .ok 5 w := by kernel_rfl

/-- A node stored at a place of the row, as one step. -/
theorem wp_store_nd {o : Oper} {a : Act} {W : World} {K : Act → World → Prop} {Q : Exit → Act → World → Prop} (p x : Operand) (ho : o.op = .store 42 p x)
    (B g n cap : Nat) (l : List Nd) (h : W.ownsRow B 42 5 (.slice (some ⟨g, 0, none⟩) n cap) l.length (ncs l)) (i : Nat) (hi : i < l.length) (y : Nd) (hp : a.eval p = .pointer (some ⟨g, i * 5, none⟩)) (hx : a.eval x = y.agg) (ds : Option Tmp) (hds : o.dst = ds)
    (hK : ∀ W', W'.ownsRow B 42 5 (.slice (some ⟨g, 0, none⟩) n cap) (l.set i y).length (ncs (l.set i y)) → W.grownBy W' (some g) → K (a.put ds undef) W') : Oper.wp Try.prog o a W K Q := by
  subst hds
  obtain ⟨g', cap', cur, e, hb, hg, h1, h2, h3, h4⟩ := own_open h (by omega)
  simp only [Value.slice.injEq, Option.some.injEq, Addr.mk.injEq, and_true] at e
  obtain ⟨rfl, rfl, rfl⟩ := e
  have hst := run_storeCells_at Try.prog g (i * 5) 42 y.cs 0 cur.toArray W hg (by simp [Nd.cs]; omega) (nd_one y)
  have hrun : (Instr.storeAt 42 (.pointer (some ⟨g, i * 5, none⟩)) y.agg).run Try.prog W = .ok () (W.setRow g (splice cur (i * 5) y.cs).toArray) := by
    have hc : y.agg.cells.toList = y.cs := rfl
    have hz : y.agg.cells.size = 5 := rfl
    simp [Instr.storeAt, Instr.sureAddr, storeVar, hz, hc, hst, splice, Result.andThen]
  have hlen : y.cs.length = 5 := rfl
  have := hK _ (own_shut (l := l.set i y) hb (setRow_heap W g _ _ _ _ hg) h1 h2 (by rw [length_splice cur (i * 5) y.cs (by rw [hlen]; omega)]; exact h3) (by simp) (by rw [splice_take _ _ _ _ (by omega) (by rw [hlen]; omega), h4, ncs_set _ _ _ hi])) (grown_row W g _)
  unfold Oper.wp
  simp [execOp, ho, hp, hx, hrun, Result.andThen]
  exact this
end Go.Proofs.Ytglmcjplglgnlaa
