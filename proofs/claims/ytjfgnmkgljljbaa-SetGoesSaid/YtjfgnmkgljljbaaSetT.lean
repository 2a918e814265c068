/-
  A law's own loop over the set's function, whether it is gone through or left; what its rounds keep.
-/
import Derived.Test.YtjfgnmkgljljbaaSetW
import Derived.Test.YtjfgnmkgljljbaaAny
import Derived.RegionIn
namespace Go.Proofs.Ytjfgnmkgljljbaa
open Go.RowKit Go.Shelf

/-- The activation of a round: place and thing in p and q, and in the variables i and j. -/
def asg2 (a : Act) (p q i j : Nat) (u v : Value) : Act := { tmps := (((a.tmps.setIfInBounds p u).setIfInBounds q v).setIfInBounds i u).setIfInBounds j v, defers := [] }
/-- How a round leaves: at what may not be there, or by a break. -/
def LeftBy (b : Nat) (Bad T : List (Nat × Int) → Prop) (I : List (Nat × Int) → World → Prop) (c : Code) (pre : List (Nat × Int)) (W : World) : Prop := (c = .ret ∧ Bad pre) ∨ (c = .exit b ∧ T pre ∧ I pre W)
theorem LeftBy.own {B b : Nat} {Bad T : List (Nat × Int) → Prop} {I : List (Nat × Int) → World → Prop} (h : OwnFrom B I) (c : Code) : OwnFrom B (LeftBy b Bad T I c) := fun s X Y row hs hg hr => by
  rcases hs with hs | ⟨h1, h2, h3⟩
  · exact .inl hs
  · exact .inr ⟨h1, h2, h s X Y row h3 hg hr⟩

theorem range_prs {g : Operand} {assign body : Code} {Q : Exit → Act → World → Prop} {a : Act} {w : World} (b p q i j Bs : Nat) (o : Option Addr) (l : List Int) (hl : l.length ≤ 1000000)
    (hg : a.eval g = .func (.func 33) #[] #[.pointer (some ⟨Bs, 0, none⟩)]) (hof : SV o l w) (hB : w.heap[Bs]? = some (.cells #[.pointer o] 25 (0, 0)))
    (I : List (Nat × Int) → World → Prop) (hI : OwnFrom w.heap.size I) (h0 : I [] w) (Bad T : List (Nat × Int) → Prop) (hbad : ∀ pre, pre <+: prs 0 l → ¬ Bad pre)
    (hassign : ∀ (L : Nat) (x : Nat × Int) (W : World) (K : Act → World → Prop), K (asg2 a p q i j (.int .i64 (x.1 : Int)) (EV x.2)) W →
      assign.wpIn (Fence.wide.inRound L) 2 Try.prog (Exit.then K (fun _ _ _ => False)) { tmps := (a.tmps.setIfInBounds p (.int .i64 (x.1 : Int))).setIfInBounds q (EV x.2), defers := [] } W)
    (hbody : ∀ (L : Nat) (pre : List (Nat × Int)) (x : Nat × Int) (W : World), I pre W → pre.length < l.length → body.wpIn (Fence.wide.inRound L) 2 Try.prog (ownPostG w.heap.size NK I (LeftBy b Bad T I) (pre ++ [x]) W) (asg2 a p q i j (.int .i64 (x.1 : Int)) (EV x.2)) W)
    (hrest : ∀ (D : Nat) (pre : List (Nat × Int)) (W : World), w.heap.size ≤ D → pre.length ≤ l.length → (pre.length = l.length ∨ T pre) → I pre W → W.heap[D]? = some (.deferred (some [])) → Q .normal { a with defers := { target := .collected D, args := #[] } :: a.defers } W) :
    (Code.rangeFunc g #[p, q] assign body).wpIn Fence.wide 4 Try.prog (Exit.inBlock b Q) a w := by
  refine wpIn_rangeFunc_ownH (n := 4) rfl (by omega) (gf := 33) (lb := #[.pointer (some ⟨Bs, 0, none⟩)]) hg trivial (enters_of Try.func33 (by kernel_rfl) rfl)
    (all_stops 3 Bs o l hl w hof hB) (fun h1 h2 => NKept.trans h1 h2) (fun W k o o' _ h2 h3 _ => NK.loop W k o o' h2 h3) (Below.refl _ _) (fun _ => rfl)
    I (LeftBy b Bad T I) hI (fun c => LeftBy.own hI c) h0 (fun x a' _ => a' = asg2 a p q i j (.int .i64 (x.1 : Int)) (EV x.2)) (fun _ _ _ _ _ _ hs _ _ => hs) ?assign ?body ?done ?stop
  case assign =>
    intro L pre x W K hi hK
    have h := hassign L x W K (hK _ W (KeepsFrom.refl _ _) (NKept.refl _ _) hi rfl)
    simpa [encP] using h
  case body =>
    rintro L pre x a' W hL _ hi rfl hlt
    exact hbody L pre x W hi hlt
  case done =>
    rintro D zs W hD rfl hi hK
    exact hrest D (prs 0 l) W hD (Nat.le_of_eq (prs_length 0 l)) (.inl (prs_length 0 l)) hi hK
  case stop =>
    rintro D c pre W hD hp hx hK
    rcases hx with ⟨_, hb⟩ | ⟨rfl, hT, hi⟩
    · exact absurd hb (hbad pre hp)
    · have h := hrest D pre W hD (by have := hp.length_le; rwa [prs_length] at this) (.inr hT) hi hK
      refine wpIn_exit ?_
      show (if b = b then _ else _)
      rw [if_pos rfl]
      exact h

/-- All that was there is as it was, but for two blocks. -/
structure Kept2 (A B : Nat) (w W : World) : Prop where
  os : W.os = w.os
  tape : W.tape = w.tape
  output : W.output = w.output
  size : w.heap.size ≤ W.heap.size
  block : ∀ k, k < w.heap.size → k ≠ A → k ≠ B → W.heap[k]? = w.heap[k]?
theorem Kept2.refl (A B : Nat) (w : World) : Kept2 A B w w := ⟨rfl, rfl, rfl, Nat.le_refl _, fun _ _ _ _ => rfl⟩
theorem Kept2.grown {A B : Nat} {w W W' : World} {row : Option Nat} (h : Kept2 A B w W) (hg : W.grownBy W' row) (hr : ∀ k, row = some k → w.heap.size ≤ k ∨ k = A ∨ k = B) : Kept2 A B w W' :=
  ⟨hg.os.trans h.os, hg.tape.trans h.tape, hg.output.trans h.output, Nat.le_trans h.size hg.size, fun k hk ha hb => by
    rw [hg.block k (Nat.lt_of_lt_of_le hk h.size) (fun e => by have := hr k e.symm; omega)]
    exact h.block k hk ha hb⟩
theorem Kept2.own (A B : Nat) (w : World) {β : Type} : OwnFrom w.heap.size (fun (_ : β) W => Kept2 A B w W) := fun _ _ _ _ hs hg hr => hs.grown hg (fun k e => .inl (hr k e).1)
theorem Kept2.heap {A B : Nat} {w W : World} (h : Kept2 A B w W) {k : Nat} {o : Obj} (hk : w.heap[k]? = some o) (ha : k ≠ A) (hb : k ≠ B) : W.heap[k]? = some o := (h.block k (Array.getElem?_eq_some_iff.1 hk).1 ha hb).trans hk
theorem Kept2.cell {A B : Nat} {w W : World} (h : Kept2 A B w W) {p : Addr} {v : Value} (hp : w.cell? p = some v) (h2 : p.block ≠ A) (h3 : p.block ≠ B) : W.cell? p = some v := (World.cell?_of_block (h.block _ (World.block_lt_of_cell? w p hp) h2 h3)).trans hp
theorem Kept2.below {A B n : Nat} {w0 w W : World} (h : Kept2 A B w W) (h0 : Below n w0 w) (ha : n ≤ A) (hb : n ≤ B) (hn : n ≤ w.heap.size) : Below n w0 W :=
  h0.trans ⟨h.os, h.tape, h.output, h.size, fun k hk => h.block k (by omega) (by omega) (by omega)⟩

/-- A set stays where no block of cells is turned. -/
theorem SAt.grown {d : Nat} {l : List Int} {W W' : World} {row : Option Nat} (h : SAt d l W) (hg : W.grownBy W' row) (hr : ∀ k, row = some k → ∃ o : Obj, W.heap[k]? = some o ∧ o.isCells = false) : SAt d l W' := by
  obtain ⟨p, T, hb, ht, hrow⟩ := h.out
  exact ⟨⟨p, T, (grownBy_keeps_cells hg hr hb rfl).trans hb, ht.kept (fun k cs e => (grownBy_keeps_cells hg hr e rfl).trans e), hrow⟩, h.up⟩
/-- .. where one box of ints is turned. -/
theorem SAt.set {d B : Nat} {l : List Int} {W : World} (h : SAt d l W) {x : Int} (hb : Boxed W B 3 (.int .i64 x)) (v : Value) : SAt d l (W.setCell ⟨B, 0, none⟩ v) := by
  obtain ⟨p, T, hs, ht, hrow⟩ := h.out
  refine ⟨⟨p, T, (heap_setCell_other _ _ _ _ (by show d ≠ B; rintro rfl; have he := hs.symm.trans hb; injection he with he; injection he with _ he _; exact absurd he (by decide))).trans hs, ht.kept (NKept.grown (grown_set W B v) hb (by decide)), hrow⟩, h.up⟩

/-! ### A region that draws its order in a function that ranges over a function: where nothing panics, what a panic would owe is of no matter -/
def calmQ (Q : Exit → Act → World → Prop) : Exit → Act → World → Prop := fun e a w => match e with
  | .panic _ => False
  | e => Q e a w
theorem calm_normal {Q : Exit → Act → World → Prop} {a : Act} {w : World} (h : Q .normal a w) : calmQ Q .normal a w := h
theorem AnyGo.regionM {P : Program} {ops : Array Oper} {Q : Exit → Act → World → Prop} {a : Act} {w : World} {id n m : Nat} (S : World → Prop) (hm : P.follows .mixedOrders = true) (hn : ops.size = n) (hS : S w.drew)
    (h : ∀ w2, w2 = w.drew → AnyGo P ops (calmQ Q) S n [] a w2) : (Code.region id ops true).wpIn Fence.wide m P Q a w :=
  wpIn_wide.2 (wp_mono (AnyGo.region S hm hn hS h) (fun e a w h => by cases e <;> first | exact h | exact h.elim))
end Go.Proofs.Ytjfgnmkgljljbaa
