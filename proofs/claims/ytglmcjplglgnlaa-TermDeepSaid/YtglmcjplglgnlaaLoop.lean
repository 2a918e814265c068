/-
  Small things for loops over a function: the end of a law that ranges over one; what rounds keep; how they leave; a region that draws its order in such a function.
-/
import Derived.Test.YtglmcjplglgnlaaChecked
import Derived.Test.YtglmcjplglgnlaaAny
import Derived.RangeFuncNested
import Derived.RangeFuncBound
import Derived.RangeFuncCalls
import Derived.RangeFuncLeaves
import Derived.Shelf.Abstract
import Derived.Shelf.RegionOpen
import Derived.OwnWalkIn
import Derived.TacticsInMore
import Derived.LoopNIn
import Derived.LoopIn
import Derived.RegionIn
namespace Go.Proofs.Ytglmcjplglgnlaa
open Go.RowKit Go.Shelf

/-- Where no depth is asked, any number of frames serves. -/
theorem any_room {F : Fence} (hd : F.depth = none) (k : Nat) : F.room k := fun d h => by rw [hd] at h; cases h
theorem yield_any {F : Fence} (hd : F.depth = none) {m : Nat} (m' : Nat) {P : Program} {l : Nat} {args : Array Value} {W : World} {R : Ending → World → Prop} (h : YieldAt F m P l args W R) : YieldAt F m' P l args W R := by
  obtain ⟨fn, tmps, assign, body, hy, hR⟩ := h
  exact ⟨fn, tmps, assign, body, hy, hR.1, fun c cs _ => hR.2 c cs (any_room hd _)⟩
theorem below_grown {W W' : World} (hb : Below W.heap.size W W') : W.grownBy W' none := ⟨hb.os, hb.tape, hb.output, hb.size, fun k hk _ => hb.block k hk⟩
theorem grown_set (W : World) (d : Nat) (v : Value) : W.grownBy (W.setCell ⟨d, 0, none⟩ v) (some d) := ⟨rfl, rfl, rfl, by simp, fun k _ hne => heap_setCell_other _ _ _ _ (fun e => hne (by rw [e]))⟩
theorem grown_below {X Y : World} {d B : Nat} (h : X.grownBy Y (some d)) (hd : B ≤ d) (hB : B ≤ X.heap.size) : Below B X Y :=
  ⟨h.os, h.tape, h.output, h.size, fun k hk => h.block k (by omega) (fun e => by injection e with e; omega)⟩

/-- Things with their places, from a on. -/
def prs {α : Type} (a : Nat) : List α → List (Nat × α)
  | [] => []
  | x :: l => (a, x) :: prs (a + 1) l
theorem prs_append {α : Type} (a : Nat) (l m : List α) : prs a (l ++ m) = prs a l ++ prs (a + l.length) m := by
  induction l generalizing a with
  | nil => simp [prs]
  | cons x l ih => simp only [List.cons_append, prs, ih, List.length_cons]; rw [show a + 1 + l.length = a + (l.length + 1) by omega]
theorem prs_length {α : Type} (a : Nat) (l : List α) : (prs a l).length = l.length := by
  induction l generalizing a with
  | nil => rfl
  | cons x l ih => simp [prs, ih]
theorem prs_get {α : Type} (a : Nat) (l : List α) (i : Nat) : (prs a l)[i]? = l[i]?.map (fun x => (a + i, x)) := by
  induction l generalizing a i with
  | nil => simp [prs]
  | cons x l ih =>
    cases i with
    | zero => simp [prs]
    | succ i => simp only [prs, List.getElem?_cons_succ, ih]; rw [show a + 1 + i = a + (i + 1) by omega]
theorem prs_snoc {α : Type} (a : Nat) (l : List α) (x : α) : prs a (l ++ [x]) = prs a l ++ [(a + l.length, x)] := by rw [prs_append]; rfl

/-- The activation of a round: two things in p and q, and in the variables i and j. -/
def asg2 (a : Act) (p q i j : Nat) (u v : Value) : Act := { tmps := (((a.tmps.setIfInBounds p u).setIfInBounds q v).setIfInBounds i u).setIfInBounds j v, defers := [] }
/-- How a round leaves: at what may not be there, or by a break. -/
def LeftBy {α : Type} (b : Nat) (Bad T : List α → Prop) (I : List α → World → Prop) (c : Code) (pre : List α) (W : World) : Prop := (c = .ret ∧ Bad pre) ∨ (c = .exit b ∧ T pre ∧ I pre W)
theorem LeftBy.own {α : Type} {B b : Nat} {Bad T : List α → Prop} {I : List α → World → Prop} (h : OwnFrom B I) (c : Code) : OwnFrom B (LeftBy b Bad T I c) := fun s X Y row hs hg hr => by
  rcases hs with hs | ⟨h1, h2, h3⟩
  · exact .inl hs
  · exact .inr ⟨h1, h2, h s X Y row h3 hg hr⟩

/-- All that was there is as it was, but for two blocks. -/
structure Kept2 (A B : Nat) (w W : World) : Prop where
  os : W.os = w.os
  tape : W.tape = w.tape
  output : W.output = w.output
  size : w.heap.size ≤ W.heap.size
  block : ∀ k, k < w.heap.size → k ≠ A → k ≠ B → W.heap[k]? = w.heap[k]?
theorem Kept2.refl (A B : Nat) (w : World) : Kept2 A B w w := ⟨rfl, rfl, rfl, Nat.le_refl _, fun _ _ _ _ => rfl⟩
theorem Kept2.grown {A B : Nat} {w W W' : World} {row : Option Nat} (h : Kept2 A B w W) (hg : W.grownBy W' row) (hr : ∀ k, row = some k → w.heap.size ≤ k ∨ k = A ∨ k = B) : Kept2 A B w W' :=
  ⟨hg.os.trans h.os, hg.tape.trans h.tape, hg.output.trans h.output, Nat.le_trans h.size hg.size, fun k hk ha hb => by
    rw [hg.block k (Nat.lt_of_lt_of_le hk h.size) (fun e => by have := hr k e.symm; omega)]
    exact h.block k hk ha hb⟩
theorem Kept2.own (A B : Nat) (w : World) {β : Type} : OwnFrom w.heap.size (fun (_ : β) W => Kept2 A B w W) := fun _ _ _ _ hs hg hr => hs.grown hg (fun k e => .inl (hr k e).1)
theorem Kept2.heap {A B : Nat} {w W : World} (h : Kept2 A B w W) {k : Nat} {o : Obj} (hk : w.heap[k]? = some o) (ha : k ≠ A) (hb : k ≠ B) : W.heap[k]? = some o := (h.block k (Array.getElem?_eq_some_iff.1 hk).1 ha hb).trans hk
theorem Kept2.cell {A B : Nat} {w W : World} (h : Kept2 A B w W) {p : Addr} {v : Value} (hp : w.cell? p = some v) (h2 : p.block ≠ A) (h3 : p.block ≠ B) : W.cell? p = some v := (World.cell?_of_block (h.block _ (World.block_lt_of_cell? w p hp) h2 h3)).trans hp
theorem Kept2.below {A B n : Nat} {w0 w W : World} (h : Kept2 A B w W) (h0 : Below n w0 w) (ha : n ≤ A) (hb : n ≤ B) (hn : n ≤ w.heap.size) : Below n w0 W :=
  h0.trans ⟨h.os, h.tape, h.output, h.size, fun k hk => h.block k (by omega) (by omega) (by omega)⟩

/-! ### A region that draws its order in a function that ranges over a function: where nothing panics, what a panic would owe is of no matter -/
def calmQ (Q : Exit → Act → World → Prop) : Exit → Act → World → Prop := fun e a w => match e with
  | .panic _ => False
  | e => Q e a w
theorem calm_normal {Q : Exit → Act → World → Prop} {a : Act} {w : World} (h : Q .normal a w) : calmQ Q .normal a w := h
theorem AnyGo.regionM {P : Program} {ops : Array Oper} {Q : Exit → Act → World → Prop} {a : Act} {w : World} {id n m : Nat} (S : World → Prop) (hm : P.follows .mixedOrders = true) (hn : ops.size = n) (hS : S w.drew)
    (h : ∀ w2, w2 = w.drew → AnyGo P ops (calmQ Q) S n [] a w2) : (Code.region id ops true).wpIn Fence.wide m P Q a w :=
  wpIn_wide.2 (wp_mono (AnyGo.region S hm hn hS h) (fun e a w h => by cases e <;> first | exact h | exact h.elim))

/-- The law's end: its answer is stored, what was collected is taken. -/
theorem lawEnd {w W : World} {D B : Nat} {v : Value} (hB : Below w.heap.size w W) (hr : Boxed W B 4 v) (hK : W.heap[D]? = some (.deferred (some []))) (hwB : w.heap.size ≤ B) (hD : B < D) (b : Bool) :
    (W.setCell ⟨B, 0, none⟩ (.bool b)).heap[D]? = some (.deferred (some [])) ∧ ((W.setCell ⟨B, 0, none⟩ (.bool b)).putObj D (.deferred none)).cell? ⟨B, 0, none⟩ = some (.bool b) ∧ Below w.heap.size w ((W.setCell ⟨B, 0, none⟩ (.bool b)).putObj D (.deferred none)) := by
  have h2 := ((grownBy_setCell' W B (.bool b)).block D (Array.getElem?_eq_some_iff.1 hK).1 (fun e => by injection e; omega)).trans hK
  refine ⟨h2, cell_kept (hr.set (.bool b)).cell (grownBy_putObj' _ D (.deferred none)) (fun r e => by cases e; exact ⟨_, h2, rfl⟩), ?_⟩
  exact (hB.setCell (p := ⟨B, 0, none⟩) (by simpa using hwB) _).trans (belowK_b (w := w) (Nat.le_refl _) _ D _ _ (by omega) h2 rfl rfl)
end Go.Proofs.Ytglmcjplglgnlaa
