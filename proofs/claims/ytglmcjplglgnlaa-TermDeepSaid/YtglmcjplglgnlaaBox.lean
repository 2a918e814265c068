/-
  Boxes of several cells.
-/
import Derived.Test.YtglmcjplglgnlaaKit
namespace Go.Proofs.Ytglmcjplglgnlaa
open Go.RowKit

structure BoxL (W : World) (B : Nat) (vs : List Value) : Prop where
  row : ∀ (i : Nat) (v : Value), vs[i]? = some v → W.cell? ⟨B, i, none⟩ = some v
  free : ∀ i, W.frozen? ⟨B, i, none⟩ = false
  lt : B < W.heap.size
theorem BoxL.new (w : World) (vs : List Value) (t : TypeId) : BoxL (w.alloc (.cells vs.toArray t)) w.heap.size vs :=
  ⟨fun i v h => by
    rw [World.cell?_alloc_new]
    simpa using h, fun i => by rw [frozen?_alloc_cells]; simp [World.frozen?], by simp⟩
theorem BoxL.below {n : Nat} {W W' : World} {B : Nat} {vs : List Value} (h : BoxL W B vs) (hb : Below n W W') (hB : B < n) : BoxL W' B vs :=
  ⟨fun i v hi => (hb.cell (p := ⟨B, i, none⟩) hB).trans (h.row i v hi), fun i => (hb.frozen (p := ⟨B, i, none⟩) hB).trans (h.free i), Nat.lt_of_lt_of_le h.lt hb.size⟩
theorem BoxL.to {W W' : World} {B : Nat} {vs : List Value} (h : BoxL W B vs) (hb : Below W.heap.size W W') : BoxL W' B vs := h.below hb h.lt
theorem BoxL.alloc {W : World} {B : Nat} {vs : List Value} (h : BoxL W B vs) (o : Obj) : BoxL (W.alloc o) B vs := h.to ((Below.refl _ _).alloc (Nat.le_refl _) _)
theorem BoxL.drew {W : World} {B : Nat} {vs : List Value} (h : BoxL W B vs) : BoxL W.drew B vs := ⟨h.row, h.free, h.lt⟩
theorem BoxL.set {W : World} {B : Nat} {vs : List Value} (h : BoxL W B vs) (i : Nat) (x : Value) (hi : i < vs.length) : BoxL (W.setCell ⟨B, i, none⟩ x) B (vs.set i x) := by
  refine ⟨fun j v hj => ?_, fun j => by rw [World.frozen?_setCell]; exact h.free j, by rw [World.size_setCell]; exact h.lt⟩
  by_cases e : i = j
  · subst e
    rw [List.getElem?_set_self hi] at hj
    obtain rfl : x = v := Option.some.inj hj
    exact World.cell?_setCell_same _ _ _ (h.row i _ (List.getElem?_eq_getElem hi))
  · rw [List.getElem?_set_ne e] at hj
    rw [World.cell?_setCell_other _ _ _ _ (by intro c; injection c with c1 c2; exact e c2)]
    exact h.row j v hj
theorem BoxL.other {W : World} {B : Nat} {vs : List Value} (h : BoxL W B vs) {p : Addr} (x : Value) (hp : p.block ≠ B) : BoxL (W.setCell p x) B vs :=
  ⟨fun j v hj => by rw [World.cell?_setCell_other _ _ _ _ (by intro c; rw [c] at hp; exact hp rfl)]; exact h.row j v hj, fun j => by rw [World.frozen?_setCell]; exact h.free j, by rw [World.size_setCell]; exact h.lt⟩
end Go.Proofs.Ytglmcjplglgnlaa
