/-
  A range over a function with two variables, the second of which lies in a box: the activation of a round is said by the loop's own.
-/
import Derived.Test.YtghgahcgbnpidaaKit
import Derived.RangeFuncNested
import Derived.RangeFuncCalls
import Derived.RangeFuncLeaves
namespace Go.Proofs.Ytghgahcgbnpidaa
open Go.RowKit

/-- The activation of a round: the two that yield hands over in p and q, the first variable in i, the box of the second one in j. -/
def asg (a : Act) (p q i j : Nat) (u v : Value) (B : Nat) : Act :=
  { tmps := (((a.tmps.setIfInBounds p u).setIfInBounds q v).setIfInBounds i u).setIfInBounds j (.pointer (some ⟨B, 0, none⟩)), defers := [] }

theorem range_boxed {α : Type} {F : Fence} {n : Nat} {P : Program} {g : Operand} {ps : Array Tmp} {assign body : Code} {Q : Exit → Act → World → Prop} {a : Act} {w : World} (p q i j : Nat) (fu fv : α → Value)
    (hro : F.round = none) (h1 : 1 ≤ n) {gf : Nat} {lb : Array Value} (hg : a.eval g = .func (.func gf) #[] lb) (hFg : F.fn gf) (eg : ∀ args w, (callFunc gf args).run P w = .ok (.enter gf args) w)
    {encs : α → Array Value} {Kp : World → World → Prop} {S Sp : List α → Prop} {N : Nat} (hseq : SeqStopsK F (n - 1) P gf lb encs Kp S Sp N w)
    (hKt : ∀ {A B C : World}, Kp A B → Kp B C → Kp A C) (hKb : ∀ (W : World) (l : Nat) (o o' : Obj), w.heap.size ≤ l → W.heap[l]? = some o → o.isCells = false → o.isWalk = false → Kp W (W.putObj l o')) (hps : ∀ x, (encs x).size = ps.size)
    (I : List α → World → Prop) (Ix : Code → List α → World → Prop) (hI : OwnFrom w.heap.size I) (hIx : ∀ c, OwnFrom w.heap.size (Ix c)) (h0 : I [] w) (R : α → Nat → World → Prop) (hR : ∀ x B, OwnFrom w.heap.size (fun (_ : Unit) W => R x B W))
    (hassign : ∀ (l : Nat) (pre : List α) (x : α) (W : World) (K : Act → World → Prop), I pre W → (∀ B W', KeepsFrom w.heap.size W W' → Kp W W' → I pre W' → R x B W' → K (asg a p q i j (fu x) (fv x) B) W') →
      assign.wpIn (F.inRound l) (n - 1 - 1) P (Exit.then K (fun _ _ _ => False)) { tmps := (ps.zip (encs x)).foldl (fun t (p, v) => t.setIfInBounds p v) a.tmps, defers := [] } W)
    (hbody : ∀ (l : Nat) (pre : List α) (x : α) (B : Nat) (W : World), w.heap.size ≤ l → I pre W → R x B W → pre.length < N → body.wpIn (F.inRound l) (n - 1 - 1) P (ownPostG w.heap.size Kp I Ix (pre ++ [x]) W) (asg a p q i j (fu x) (fv x) B) W)
    (hdone : ∀ (D : Nat) (xs : List α) (W : World), w.heap.size ≤ D → S xs → I xs W → W.heap[D]? = some (.deferred (some [])) → Q .normal { a with defers := { target := .collected D, args := #[] } :: a.defers } W)
    (hstop : ∀ (D : Nat) (c : Code) (pre : List α) (W : World), w.heap.size ≤ D → Sp pre → Ix c pre W → W.heap[D]? = some (.deferred (some [])) → c.wpIn F n P Q { a with defers := { target := .collected D, args := #[] } :: a.defers } W) :
    (Code.rangeFunc g ps assign body).wpIn F n P Q a w :=
  wpIn_rangeFunc_ownH hro h1 hg hFg eg hseq hKt hKb (Below.refl _ _) hps I Ix hI hIx h0 (fun x a' W => ∃ B, R x B W ∧ a' = asg a p q i j (fu x) (fv x) B)
    (fun x a' s X Y row hs hg hr => by obtain ⟨B, h1, h2⟩ := hs; exact ⟨B, hR x B s X Y row h1 hg hr, h2⟩)
    (fun l pre x W K hi hK => hassign l pre x W K hi (fun B W' h1 h2 h3 h4 => hK _ W' h1 h2 h3 ⟨B, h4, rfl⟩))
    (fun l pre x a' W hl _ hi hA hlt => by obtain ⟨B, h1, rfl⟩ := hA; exact hbody l pre x B W hl hi h1 hlt)
    hdone hstop
end Go.Proofs.Ytghgahcgbnpidaa
