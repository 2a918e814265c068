/-
  Rings, plainly: a row in a ring of cells, and what laying, taking and copying make of it.
-/
import Derived.Test.YtphjemnmbbeieaaKit
import Derived.Laws.CopyOwn
namespace Go.Proofs.Ytphjemnmbbeieaa
open Go.RowKit

/-- The place in a ring of n cells. -/
def wr (n k : Nat) : Nat := if k < n then k else k - n
theorem wr_lt {n f i : Nat} (hf : f < n) (hi : i ≤ n) : wr n (f + i) < n := by unfold wr; split <;> omega
theorem wr_ne {n f i j : Nat} (hi : i < n) (hj : j < n) (h : i ≠ j) : wr n (f + i) ≠ wr n (f + j) := by unfold wr; split <;> split <;> omega
theorem wr_self {n f : Nat} (hf : f < n) : wr n (f + 0) = f := by unfold wr; rw [if_pos (by omega)]; rfl

/-- The ring cs holds the row ls from the place f on. -/
structure Ring (cs : List Value) (f : Nat) (ls : List Value) : Prop where
  first : f < cs.length
  room : ls.length ≤ cs.length
  row : ∀ i v, ls[i]? = some v → cs[wr cs.length (f + i)]? = some v

theorem lt_of_get {α : Type} {l : List α} {i : Nat} {v : α} (h : l[i]? = some v) : i < l.length := (List.getElem?_eq_some_iff.1 h).1

theorem Ring.push {cs ls : List Value} {f : Nat} (h : Ring cs f ls) (hr : ls.length < cs.length) (x : Value) : Ring (cs.set (wr cs.length (f + ls.length)) x) f (ls ++ [x]) := by
  have hf := h.first
  refine ⟨by simpa using h.first, by simp; omega, fun i v hi => ?_⟩
  rw [List.length_set]
  have hil := lt_of_get hi
  rw [List.length_append, List.length_singleton] at hil
  by_cases e : i = ls.length
  · subst e
    rw [List.getElem?_append_right (Nat.le_refl _), Nat.sub_self] at hi
    rw [List.getElem?_set_self (wr_lt hf (by omega))]
    simpa using hi
  · rw [List.getElem?_append_left (by omega)] at hi
    rw [List.getElem?_set_ne (wr_ne hr (by omega) (fun c => e c.symm))]
    exact h.row i v hi

theorem Ring.shove {cs ls : List Value} {f : Nat} (h : Ring cs f ls) (hr : ls.length < cs.length) (x : Value) : Ring (cs.set (wr cs.length (f + (cs.length - 1))) x) (wr cs.length (f + (cs.length - 1))) (x :: ls) := by
  have hf := h.first
  have hw : wr cs.length (f + (cs.length - 1)) < cs.length := wr_lt hf (by omega)
  refine ⟨by simpa using hw, by simp; omega, fun i v hi => ?_⟩
  rw [List.length_set]
  have hil := lt_of_get hi
  rw [List.length_cons] at hil
  cases i with
  | zero =>
    rw [wr_self hw, List.getElem?_set_self hw]
    simpa using hi
  | succ i =>
    rw [List.getElem?_cons_succ] at hi
    have e : wr cs.length (wr cs.length (f + (cs.length - 1)) + (i + 1)) = wr cs.length (f + i) := by
      unfold wr; split <;> split <;> split <;> omega
    rw [e, List.getElem?_set_ne (wr_ne (by omega) (by omega) (by omega))]
    exact h.row i v hi

theorem Ring.pop {cs ls : List Value} {f : Nat} {x : Value} (h : Ring cs f (x :: ls)) (y : Value) : Ring (cs.set (wr cs.length (f + 0)) y) (wr cs.length (f + 1)) ls := by
  have hf := h.first
  have hr := h.room
  rw [List.length_cons] at hr
  refine ⟨by rw [List.length_set]; exact wr_lt hf (by omega), by rw [List.length_set]; omega, fun i v hi => ?_⟩
  have hil := lt_of_get hi
  rw [List.length_set]
  have e : wr cs.length (wr cs.length (f + 1) + i) = wr cs.length (f + (i + 1)) := by
    unfold wr; split <;> split <;> split <;> omega
  rw [e, List.getElem?_set_ne (wr_ne (by omega) (by omega) (by omega))]
  exact h.row (i + 1) v (by rw [List.getElem?_cons_succ]; exact hi)

theorem Ring.drop {cs ls : List Value} {f : Nat} {x : Value} (h : Ring cs f (ls ++ [x])) (y : Value) : Ring (cs.set (wr cs.length (f + ls.length)) y) f ls := by
  have hf := h.first
  have hr := h.room
  rw [List.length_append, List.length_singleton] at hr
  refine ⟨by simpa using hf, by rw [List.length_set]; omega, fun i v hi => ?_⟩
  have hil := lt_of_get hi
  rw [List.length_set, List.getElem?_set_ne (wr_ne (by omega) (by omega) (by omega))]
  exact h.row i v (by rw [List.getElem?_append_left hil]; exact hi)

/-- The row from its first place to the ring's end. -/
def part1 (cs : List Value) (f k : Nat) : List Value := (cs.drop f).take (min k (cs.length - f))
/-- The row from the ring's head on. -/
def part2 (cs : List Value) (f k : Nat) : List Value := cs.take (k - (cs.length - f))
theorem part1_len (cs : List Value) (f k : Nat) : (part1 cs f k).length = min k (cs.length - f) := by
  unfold part1; rw [List.length_take, List.length_drop]; omega
theorem part2_len {cs : List Value} {f k : Nat} (hk : k ≤ cs.length) : (part2 cs f k).length = k - (cs.length - f) := by
  unfold part2; rw [List.length_take]; omega
theorem part1_get {cs : List Value} {f k j : Nat} {v : Value} (h : (part1 cs f k)[j]? = some v) : cs[f + j]? = some v := by
  unfold part1 at h
  rw [List.getElem?_take] at h
  split at h
  · rw [List.getElem?_drop] at h; exact h
  · cases h
theorem part2_get {cs : List Value} {f k j : Nat} {v : Value} (h : (part2 cs f k)[j]? = some v) : cs[j]? = some v := by
  unfold part2 at h
  rw [List.getElem?_take] at h
  split at h
  · exact h
  · cases h
theorem Ring.parts {cs ls : List Value} {f : Nat} (h : Ring cs f ls) : part1 cs f ls.length ++ part2 cs f ls.length = ls := by
  have hf := h.first
  have hr := h.room
  have l1 := part1_len cs f ls.length
  have l2 := part2_len (cs := cs) (f := f) hr
  apply List.ext_getElem?
  intro i
  by_cases hi : i < ls.length
  · have hv := List.getElem?_eq_getElem hi
    rw [hv]
    have hc := h.row i _ hv
    by_cases hm : i < cs.length - f
    · rw [List.getElem?_append_left (by omega)]
      unfold part1
      rw [List.getElem?_take, if_pos (by omega), List.getElem?_drop]
      unfold wr at hc
      rw [if_pos (by omega)] at hc
      exact hc
    · rw [List.getElem?_append_right (by omega), l1]
      unfold part2
      rw [List.getElem?_take, if_pos (by omega)]
      unfold wr at hc
      rw [if_neg (by omega)] at hc
      rw [← hc]
      congr 1
      omega
  · rw [List.getElem?_eq_none (by rw [List.length_append]; omega), List.getElem?_eq_none (by omega)]

theorem splice_two (L X1 X2 : List Value) (m : Nat) (hm : X1.length = m) : splice (splice L 0 X1) m X2 = X1 ++ X2 ++ L.drop (X1 ++ X2).length := by
  subst hm
  unfold splice
  simp [List.drop_append, List.append_assoc]

/-- A row at the head of a ring. -/
theorem Ring.fresh {ls rest : List Value} (h : 0 < (ls ++ rest).length) : Ring (ls ++ rest) 0 ls :=
  ⟨h, by rw [List.length_append]; omega, fun i v hi => by
    have hil := lt_of_get hi
    unfold wr
    rw [Nat.zero_add, if_pos (by rw [List.length_append]; omega), List.getElem?_append_left hil]
    exact hi⟩

/-! ### What a call leaves alone -/
/-- All that was there is as it was, but for block d and the ring r; the new ring is the old one or a new block. -/
structure DKept (d : Nat) (r r' : Option Nat) (w w' : World) : Prop where
  os : w'.os = w.os
  tape : w'.tape = w.tape
  output : w'.output = w.output
  size : w.heap.size ≤ w'.heap.size
  block : ∀ k, k < w.heap.size → k ≠ d → r ≠ some k → w'.heap[k]? = w.heap[k]?
  ring : ∀ k, r' = some k → r = some k ∨ w.heap.size ≤ k
theorem DKept.refl (d : Nat) (r : Option Nat) (w : World) : DKept d r r w w := ⟨rfl, rfl, rfl, Nat.le_refl _, fun _ _ _ _ => rfl, fun _ h => .inl h⟩
theorem DKept.trans {d : Nat} {r r' r'' : Option Nat} {x y z : World} (h : DKept d r r' x y) (k : DKept d r' r'' y z) : DKept d r r'' x z :=
  ⟨k.os.trans h.os, k.tape.trans h.tape, k.output.trans h.output, Nat.le_trans h.size k.size, fun i hi hd hr => by
    rw [k.block i (Nat.lt_of_lt_of_le hi h.size) hd (fun e => by rcases h.ring i e with e | e; exact hr e; omega)]
    exact h.block i hi hd hr, fun i e => by
    rcases k.ring i e with e | e
    · exact h.ring i e
    · exact .inr (Nat.le_trans h.size e)⟩
theorem DKept.of {d : Nat} {r : Option Nat} {w w' : World} (h : Below w.heap.size w w') : DKept d r r w w' := ⟨h.os, h.tape, h.output, h.size, fun k hk _ _ => h.block k hk, fun _ e => .inl e⟩
theorem DKept.grown {d : Nat} {r : Option Nat} {w w' : World} {k : Nat} (h : w.grownBy w' (some k)) (hk : k = d ∨ r = some k) : DKept d r r w w' :=
  ⟨h.os, h.tape, h.output, h.size, fun i hi hd hr => h.block i hi (fun e => by
    injection e with e
    rcases hk with hk | hk
    · exact hd (e.trans hk)
    · exact hr (by rw [hk, e])), fun _ e => .inl e⟩
theorem DKept.below {d : Nat} {r r' : Option Nat} {w w' : World} {B : Nat} (h : DKept d r r' w w') (hd : B ≤ d) (hr : ∀ k, r = some k → B ≤ k) (hB : B ≤ w.heap.size) : Below B w w' :=
  ⟨h.os, h.tape, h.output, h.size, fun k hk => h.block k (by omega) (by omega) (fun e => by have := hr k e; omega)⟩
theorem DKept.heap {d : Nat} {r r' : Option Nat} {w w' : World} (h : DKept d r r' w w') {k : Nat} {o : Obj} (hk : w.heap[k]? = some o) (hd : k ≠ d) (hr : r ≠ some k) : w'.heap[k]? = some o := by
  rw [h.block k (Array.getElem?_eq_some_iff.1 hk).1 hd hr]; exact hk
theorem DKept.cell {d : Nat} {r r' : Option Nat} {w w' : World} (h : DKept d r r' w w') {p : Addr} {v : Value} (hp : w.cell? p = some v) (hd : p.block ≠ d) (hr : r ≠ some p.block) : w'.cell? p = some v := by
  rw [World.cell?_of_block (h.block p.block (World.block_lt_of_cell? w p hp) hd hr)]; exact hp

theorem grownBy_setRow (w : World) (g : Nat) (cs : Array Value) : w.grownBy (w.setRow g cs) (some g) :=
  ⟨rfl, rfl, rfl, by simp [World.setRow], fun k _ hne => setRow_other w g k cs (fun e => hne (by rw [e]))⟩
theorem grownBy_refl (w : World) (row : Option Nat) : w.grownBy w row := ⟨rfl, rfl, rfl, Nat.le_refl _, fun _ _ _ => rfl⟩
theorem grownBy_trans {x y z : World} {row : Option Nat} (h : x.grownBy y row) (k : y.grownBy z row) : x.grownBy z row :=
  ⟨k.os.trans h.os, k.tape.trans h.tape, k.output.trans h.output, Nat.le_trans h.size k.size, fun i hi hn => (k.block i (Nat.lt_of_lt_of_le hi h.size) hn).trans (h.block i hi hn)⟩
theorem grownBy_drew {x y : World} {row : Option Nat} (h : x.grownBy y row) : x.grownBy y.drew row := ⟨h.os, h.tape, h.output, h.size, h.block⟩
theorem grownBy_drew' {x y : World} {row : Option Nat} (h : x.drew.grownBy y row) : x.grownBy y row := ⟨h.os, h.tape, h.output, h.size, h.block⟩

/-- copy, as one step: the cells cs over the row in block g, from the place off on. -/
theorem wp_copy_at {P : Program} {o : Oper} {a : Act} {w : World} {K : Act → World → Prop} {Q : Exit → Act → World → Prop} (d s : Operand) (dT sT : TypeId)
    (ho : o.op = .call { callee := .builtin .copy, args := #[d, s], argTypes := #[dT, sT] }) (elem : TypeId) (hu : P.underlying dT = some (.slice elem)) (hsz : (P.info? elem).map (·.size) = some 1)
    (dp sp : Option Addr) (dLen dCap sLen sCap : Nat) (hd : a.eval d = .slice dp dLen dCap) (hs : a.eval s = .slice sp sLen sCap)
    (g off : Nat) (cur : List Value) (t : TypeId) (hg : w.heap[g]? = some (.cells cur.toArray t (0, 0))) (cs : List Value) (hn : cs.length = Nat.min sLen dLen)
    (hpos : 0 < cs.length → dp = some ⟨g, off, none⟩ ∧ ∃ ad, sp = some ad ∧ ∀ j v, cs[j]? = some v → w.cell? (ad.add j) = some v)
    (hfit : off + cs.length ≤ cur.length) (h1 : ∀ v ∈ cs, v.oneCell' = true) (m : Nat) (hm : cs.length = m) (ds : Option Tmp) (hds : o.dst = ds)
    (h : ∀ w', w'.heap[g]? = some (.cells (splice cur off cs).toArray t (0, 0)) → w.grownBy w' (some g) → K (a.put ds (.int .i64 (m : Int))) w') : Oper.wp P o a w K Q := by
  subst hds
  replace h : ∀ w', w'.heap[g]? = some (.cells (splice cur off cs).toArray t (0, 0)) → w.grownBy w' (some g) → K (a.put o.dst (goInt cs.length)) w' := by rw [hm]; exact h
  by_cases h0 : cs.length = 0
  · have hnil := List.eq_nil_of_length_eq_zero h0
    subst hnil
    have hrun := run_copy_none (P := P) w dT sT o.type elem dp sp dLen dCap sLen sCap hu hsz hn.symm
    have hK := h w (by rw [hg]; simp [splice]) (grownBy_refl _ _)
    unfold Oper.wp
    simp [execOp, ho, resolve, invoke, builtin, hd, hs, hrun, Result.andThen]
    exact hK
  · obtain ⟨rfl, ad, rfl, hsrc⟩ := hpos (Nat.pos_of_ne_zero h0)
    have hrun := run_copy_row (P := P) w dT sT o.type elem g off dLen dCap ad sLen sCap cur.toArray t cs hu hsz hg hn hsrc (by simpa using hfit) h1
    have hK := h (w.setRow g (cur.toArray.toList.take off ++ cs ++ cur.toArray.toList.drop (off + cs.length)).toArray) (by rw [setRow_heap w g _ _ t _ hg]; simp [splice]) (grownBy_setRow w g _)
    unfold Oper.wp
    simp [execOp, ho, resolve, invoke, builtin, hd, hs, hrun, Result.andThen]
    simp only [List.append_assoc] at hK
    exact hK

/-! ### A slice cut -/
section
variable {P : Program} {t e : TypeId} (ht : P.underlying t = some (.slice e)) (hz : ∀ w, (Go.sizeOf e).run P w = .ok 1 w)
include ht hz
/-- What is cut off ahead: not all of it. -/
theorem run_from (b o n c lo : Nat) (hlo : lo ≤ n) (hc : lo < c) (W : World) :
    (Instr.slice t (.slice (some ⟨b, o, none⟩) n c) (some (.int .i64 (lo : Int))) none none).run P W = .ok (.slice (some ⟨b, o + lo, none⟩) (n - lo) (c - lo)) W := by
  have ht' : P.underlying t = some (.slice (P.elem t)) := by simp [Program.elem, ht]
  have he : P.elem t = e := by simp [Program.elem, ht]
  rw [run_slice_l W t _ _ _ ht' .i64 _ (by omega) (by omega), he, hz]
  have h0 : ¬ c = lo := by omega
  by_cases h1 : lo = 0
  · subst h1; simp [Result.andThen, sliced, Addr.add, h0]
  · simp [Result.andThen, sliced, Addr.add, h0, h1]
/-- .. all of it. -/
theorem run_from_end (b o n : Nat) (W : World) :
    (Instr.slice t (.slice (some ⟨b, o, none⟩) n n) (some (.int .i64 (n : Int))) none none).run P W = .ok (.slice (some ⟨b, o, none⟩) 0 0) W := by
  have ht' : P.underlying t = some (.slice (P.elem t)) := by simp [Program.elem, ht]
  have he : P.elem t = e := by simp [Program.elem, ht]
  rw [run_slice_l W t _ _ _ ht' .i64 _ (by omega) (by omega), he, hz]
  simp [Result.andThen, sliced]
/-- What is cut off behind. -/
theorem run_upto (a : Option Addr) (n c hi : Nat) (hh : hi ≤ c) (ha : ∀ x, a = some x → x.spot = none) (W : World) :
    (Instr.slice t (.slice a n c) none (some (.int .i64 (hi : Int))) none).run P W = .ok (.slice a hi c) W := by
  have ht' : P.underlying t = some (.slice (P.elem t)) := by simp [Program.elem, ht]
  have he : P.elem t = e := by simp [Program.elem, ht]
  rw [run_slice_h W t _ _ _ ht' .i64 _ (by omega) (by omega), he, hz]
  cases a with
  | none => simp [Result.andThen, sliced]
  | some x =>
    obtain ⟨b, o, s⟩ := x
    have := ha _ rfl
    simp only at this
    subst this
    simp [Result.andThen, sliced, Addr.add]
end

theorem add_none (g i j : Nat) : (⟨g, i, none⟩ : Addr).add j = ⟨g, i + j, none⟩ := Addr.add_mid g i j
end Go.Proofs.Ytphjemnmbbeieaa
