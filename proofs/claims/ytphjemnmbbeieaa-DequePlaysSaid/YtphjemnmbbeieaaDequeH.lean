/-
  The document's row: a slice of texts somewhere in a block of its own; what its functions make of it.
-/
import Derived.Test.YtphjemnmbbeieaaDequeQ
import Derived.Laws.AppendOwn
namespace Go.Proofs.Ytphjemnmbbeieaa
open Go.RowKit

/-- The slice v holds the texts l; it lies in block gb, if in any. -/
structure Hv (W : World) (v : Value) (l : List ByteArray) (gb : Option Nat) : Prop where
  out : (v = .slice none 0 0 ∧ l = [] ∧ gb = none) ∨ ∃ g off cap cur, v = .slice (some ⟨g, off, none⟩) l.length cap ∧ gb = some g ∧ W.heap[g]? = some (.cells cur 9 (0, 0)) ∧ l.length ≤ cap ∧ off + cap ≤ cur.size ∧ ∀ i x, l[i]? = some x → cur[off + i]? = some (.string x)
theorem Hv.nil (W : World) : Hv W (.slice none 0 0) [] none := ⟨.inl ⟨rfl, rfl, rfl⟩⟩
theorem Hv.lt {W : World} {v : Value} {l : List ByteArray} {gb : Option Nat} (h : Hv W v l gb) : ∀ g, gb = some g → g < W.heap.size ∧ ∃ cur, W.heap[g]? = some (.cells cur 9 (0, 0)) := by
  intro g e
  rcases h.out with ⟨_, _, rfl⟩ | ⟨g', off, cap, cur, _, rfl, hg, _⟩
  · cases e
  · cases e
    exact ⟨(Array.getElem?_eq_some_iff.1 hg).1, cur, hg⟩
theorem Hv.heap {W W' : World} {v : Value} {l : List ByteArray} {gb : Option Nat} (h : Hv W v l gb) (hk : ∀ g, gb = some g → W'.heap[g]? = W.heap[g]?) : Hv W' v l gb := by
  rcases h.out with h | ⟨g, off, cap, cur, h1, h2, h3, h4⟩
  · exact ⟨.inl h⟩
  · exact ⟨.inr ⟨g, off, cap, cur, h1, h2, (hk g h2).trans h3, h4⟩⟩
theorem Hv.below {W W' : World} {v : Value} {l : List ByteArray} {gb : Option Nat} (h : Hv W v l gb) (hb : Below W.heap.size W W') : Hv W' v l gb := h.heap fun g e => hb.block g (h.lt g e).1
/-- Its form; its cells. -/
theorem Hv.form {W : World} {v : Value} {l : List ByteArray} {gb : Option Nat} (h : Hv W v l gb) : ∃ o cap, v = .slice o l.length cap ∧ ∀ i, i < l.length → ∃ b off, o = some ⟨b, off, none⟩ ∧ gb = some b ∧ W.cell? ⟨b, off + i, none⟩ = some (.string (tx l i)) := by
  rcases h.out with ⟨rfl, rfl, _⟩ | ⟨g, off, cap, cur, rfl, hg, hc, _, _, hx⟩
  · exact ⟨none, 0, rfl, fun i hi => by simp at hi⟩
  · exact ⟨_, cap, rfl, fun i hi => ⟨g, off, rfl, hg, by rw [cell_of_row W g _ _ _ _ hc]; exact hx i _ (tx_get hi)⟩⟩

/-- The row behind an append: as it was, or a new one. -/
def HvTo (W : World) (l : List ByteArray) (gb : Option Nat) (v' : Value) (W' : World) : Prop := ∃ gb', Hv W' v' l gb' ∧ W.grownBy W' gb ∧ ∀ g, gb' = some g → gb = some g ∨ W.heap.size ≤ g

theorem elInfos : ∃ i, Try.prog.info? 9 = some i ∧ i.zero = some (.string ⟨#[]⟩) ∧ i.size = 1 ∧ i.bytes = 16 := by
  have h := elZero
  cases hq : Try.prog.info? 9 with
  | none => rw [hq] at h; cases h
  | some i => rw [hq] at h; simp at h; exact ⟨i, rfl, h.1, h.2.1, h.2.2⟩

theorem hv_fresh {W : World} {l : List ByteArray} {cap : Nat} {cur : Array Value} (hc : l.length ≤ cap) (hz : cap ≤ cur.size) (hx : ∀ (i : Nat) (x : ByteArray), l[i]? = some x → cur[i]? = some (Value.string x)) (gb : Option Nat) :
    HvTo W l gb (.slice (some ⟨W.heap.size, 0, none⟩) l.length cap) (W.drew.alloc (.cells cur 9)) :=
  ⟨some W.heap.size, ⟨.inr ⟨W.heap.size, 0, cap, cur, rfl, rfl, heap_alloc_new W.drew _, hc, by rw [Nat.zero_add]; exact hz, fun i x hi => by rw [Nat.zero_add]; exact hx i x hi⟩⟩,
    ⟨rfl, rfl, rfl, by simp, fun k hk _ => Below.heap_alloc W.drew _ k hk⟩, fun g e => by injection e with e; exact .inr (Nat.le_of_eq e)⟩

theorem run_append_hv (W : World) (ty : TypeId) (v : Value) (l : List ByteArray) (gb : Option Nat) (h : Hv W v l gb) (hl : l.length ≤ 1000000) (a : Addr) (c : Nat) (x : ByteArray) (ha : W.cell? a = some (.string x)) :
    ∃ v' W', (Builtin.append_ #[25, 25] ty #[v, .slice (some a) 1 c]).run Try.prog W = .ok v' W' ∧ HvTo W (l ++ [x]) gb v' W' := by
  obtain ⟨i, hi, hz, h1, h2⟩ := elInfos
  have ht := Try.underlying25
  have hnews : ∀ (j : Nat) (u : Value), [Value.string x][j]? = some u → W.cell? (a.add j) = some u := fun j u hj => by
    match j, hj with
    | 0, hj =>
      obtain rfl : Value.string x = u := by simpa using hj
      have : a.add 0 = a := by unfold Addr.add; split <;> simp_all
      rw [this]; exact ha
  rcases h.out with ⟨rfl, rfl, rfl⟩ | ⟨g, off, cap, cur, rfl, rfl, hg, hlc, hoc, hx⟩
  · have hr := run_append_nil (P := Try.prog) W 25 ty 9 i (.string ⟨#[]⟩) ht hi hz a 1 c [Value.string x] (by rw [h1]; rfl) hnews (by omega) (by omega) (by omega)
    have hge := grownCap_ge W 1 0 9
    refine ⟨_, _, hr, ?_⟩
    exact hv_fresh (l := [x]) hge (by rw [Array.size_append, size_zeroCells]; simp [Value.cells]; omega) (fun j y hj => match j, hj with
      | 0, hj => by
                 obtain rfl : x = y := by simpa using hj
                 rw [Array.getElem?_append_left (by simp)]; rfl
      | j + 1, hj => by cases hj) none
  · by_cases hroom : l.length + 1 ≤ cap
    · have hst := run_storeCells_at Try.prog g (off + l.length) 9 [Value.string x] 0 cur W hg (by simp; omega) (by simp [Value.oneCell'])
      have hf := run_firstCells_some (P := Try.prog) W i.size 1 a 1 c [Value.string x] (by rw [h1]; rfl) hnews
      have hadd : (⟨g, off, none⟩ : Addr).add (l.length * 1) = ⟨g, off + l.length, none⟩ := by rw [add_none, Nat.mul_one]
      refine ⟨.slice (some ⟨g, off, none⟩) (l.length + 1) cap, W.setRow g (cur.toList.take (off + l.length) ++ [Value.string x] ++ cur.toList.drop (off + l.length + 1)).toArray, ?_, some g, ⟨.inr ⟨g, off, cap, _, by rw [List.length_append]; rfl, rfl, setRow_heap W g cur _ _ _ hg, by rw [List.length_append]; exact hroom, ?_, fun j y hj => ?_⟩⟩, grownBy_setRow W g _, fun k e => .inl e⟩
      · rw [h1] at hf
        rw [Nat.add_zero] at hst
        rw [Nat.mul_one] at hadd
        simp [Builtin.append_, run_underlying ht, sizeOf, typeInfo, hi, h1, Builtin.lenOf, hroom, hf, hadd, hst]
      · simp; omega
      · have hjl := lt_of_get hj
        rw [List.length_append, List.length_singleton] at hjl
        rw [List.getElem?_toArray]
        by_cases e : j = l.length
        · subst e
          rw [List.getElem?_append_right (Nat.le_refl _), Nat.sub_self] at hj
          obtain rfl : x = y := by simpa using hj
          rw [List.getElem?_append_left (by simp; omega), List.getElem?_append_right (by simp; omega)]
          have e0 : off + l.length - (List.take (off + l.length) cur.toList).length = 0 := by simp; omega
          rw [e0]; rfl
        · rw [List.getElem?_append_left (by omega)] at hj
          rw [List.append_assoc, List.getElem?_append_left (by simp; omega), List.getElem?_take, if_pos (by omega)]
          have := hx j y hj
          simpa using this
    · have holds : ∀ (j : Nat) (u : Value), (l.map (Value.string))[j]? = some u → W.cell? ((⟨g, off, none⟩ : Addr).add j) = some u := fun j u hj => by
        rw [List.getElem?_map] at hj
        cases hq : l[j]? with
        | none => rw [hq] at hj; cases hj
        | some y =>
          rw [hq] at hj
          obtain rfl : Value.string y = u := by simpa using hj
          rw [add_none, cell_of_row W g _ _ _ _ hg]
          exact hx j y hq
      have hr := run_append_grow (P := Try.prog) W 25 ty 9 i (.string ⟨#[]⟩) ht hi hz ⟨g, off, none⟩ l.length cap (l.map (Value.string)) (by rw [h1]; simp) holds a 1 c [Value.string x] (by rw [h1]; rfl) hnews (by omega) (by omega) (growslice_fits (by omega) (by rw [h2]; omega))
      have hge := grownCap_ge W (l.length + 1) cap 9
      refine ⟨_, _, hr, ?_⟩
      have := hv_fresh (W := W) (l := l ++ [x]) (cap := grownCap W (l.length + 1) cap 9) (cur := (l.map (Value.string)).toArray ++ [Value.string x].toArray ++ Builtin.zeroCells (Value.string ⟨#[]⟩).cells (grownCap W (l.length + 1) cap 9 - (l.length + 1))) (by rw [List.length_append]; exact hge) (by
        rw [Array.size_append, size_zeroCells]; simp [Value.cells]; omega) (fun j y hj => by
        rw [Array.getElem?_append_left (by have := lt_of_get hj; simp at this ⊢; omega)]
        rw [show (l.map (Value.string)).toArray ++ [Value.string x].toArray = ((l ++ [x]).map (Value.string)).toArray by simp]
        rw [List.getElem?_toArray, List.getElem?_map, hj]; rfl) (some g)
      rw [List.length_append] at this
      exact this

theorem wp_append_hv {o : Oper} {a : Act} {W : World} {K : Act → World → Prop} {Q : Exit → Act → World → Prop} (s x : Operand)
    (ho : o.op = .call { callee := .builtin .append, args := #[s, x], argTypes := #[25, 25] })
    (v : Value) (l : List ByteArray) (gb : Option Nat) (hs : a.eval s = v) (h : Hv W v l gb) (hl : l.length ≤ 1000000) (ad : Addr) (c : Nat) (y : ByteArray) (hx : a.eval x = .slice (some ad) 1 c) (ha : W.cell? ad = some (.string y))
    (hK : ∀ v' W', HvTo W (l ++ [y]) gb v' W' → K (a.put o.dst v') W') : o.wp Try.prog a W K Q := by
  obtain ⟨v', W', hr, h2⟩ := run_append_hv W o.type v l gb h hl ad c y ha
  unfold Oper.wp execOp
  simp only [ho, resolve, invoke, builtin, Sem.run_bind, Sem.run_pure, Result.andThen_ok, List.map_toArray, List.map_cons, List.map_nil, hs, hx, hr]
  exact hK v' W' h2
theorem wpList_append_hv {ops : Array Oper} {rest : List Oper} {o : Oper} {a : Act} {W : World} {Q : Exit → Act → World → Prop} (hgd : o.guard = none) (s x : Operand)
    (ho : o.op = .call { callee := .builtin .append, args := #[s, x], argTypes := #[25, 25] })
    (v : Value) (l : List ByteArray) (gb : Option Nat) (hs : a.eval s = v) (h : Hv W v l gb) (hl : l.length ≤ 1000000) (ad : Addr) (c : Nat) (y : ByteArray) (hx : a.eval x = .slice (some ad) 1 c) (ha : W.cell? ad = some (.string y))
    (hK : ∀ v' W', HvTo W (l ++ [y]) gb v' W' → wpList Try.prog ops Q rest (a.put o.dst v') W') : wpList Try.prog ops Q (o :: rest) a W :=
  wpList_plain hgd fun _ hk => wp_append_hv s x ho v l gb hs h hl ad c y hx ha fun v' W' h2 => hk _ _ (hK v' W' h2)
end Go.Proofs.Ytphjemnmbbeieaa
