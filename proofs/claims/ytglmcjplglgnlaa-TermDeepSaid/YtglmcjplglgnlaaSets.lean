/-
  Boxes of four and of six cells that are stored whole.
-/
import Derived.Test.YtglmcjplglgnlaaBox
namespace Go.Proofs.Ytglmcjplglgnlaa
open Go.RowKit

/-- What a store of four cells leaves. -/
structure Put4 (W : World) (B : Nat) : Prop where
  s0 : ∀ x, (W.setCell ⟨B, 0, none⟩ x).cell? ⟨B, 0, none⟩ = some x
  s1 : ∀ x y, ((W.setCell ⟨B, 0, none⟩ x).setCell ⟨B, 1, none⟩ y).cell? ⟨B, 1, none⟩ = some y
  s2 : ∀ x y z, (((W.setCell ⟨B, 0, none⟩ x).setCell ⟨B, 1, none⟩ y).setCell ⟨B, 2, none⟩ z).cell? ⟨B, 2, none⟩ = some z
  s3 : ∀ x y z u, ((((W.setCell ⟨B, 0, none⟩ x).setCell ⟨B, 1, none⟩ y).setCell ⟨B, 2, none⟩ z).setCell ⟨B, 3, none⟩ u).cell? ⟨B, 3, none⟩ = some u
theorem BoxL.put4 {W : World} {B : Nat} {v0 v1 v2 v3 : Value} (h : BoxL W B [v0, v1, v2, v3]) : Put4 W B :=
  ⟨fun x => (h.set 0 x (by simp)).row 0 _ rfl, fun x y => ((h.set 0 x (by simp)).set 1 y (by simp)).row 1 _ rfl,
   fun x y z => (((h.set 0 x (by simp)).set 1 y (by simp)).set 2 z (by simp)).row 2 _ rfl,
   fun x y z u => ((((h.set 0 x (by simp)).set 1 y (by simp)).set 2 z (by simp)).set 3 u (by simp)).row 3 _ rfl⟩
theorem below_put4 {n : Nat} {w W : World} {B : Nat} (h : Below n w W) (hB : n ≤ B) (x y z u : Value) : Below n w ((((W.setCell ⟨B, 0, none⟩ x).setCell ⟨B, 1, none⟩ y).setCell ⟨B, 2, none⟩ z).setCell ⟨B, 3, none⟩ u) :=
  (((h.setCell hB _).setCell hB _).setCell hB _).setCell hB _
theorem size_put4 (W : World) (B : Nat) : ∀ x y z u : Value, ((((W.setCell ⟨B, 0, none⟩ x).setCell ⟨B, 1, none⟩ y).setCell ⟨B, 2, none⟩ z).setCell ⟨B, 3, none⟩ u).heap.size = W.heap.size := fun x y z u => by simp only [World.size_setCell]

/-- What a store of six cells leaves. -/
structure Put6 (W : World) (B : Nat) : Prop where
  s0 : ∀ x, (W.setCell ⟨B, 0, none⟩ x).cell? ⟨B, 0, none⟩ = some x
  s1 : ∀ x y, ((W.setCell ⟨B, 0, none⟩ x).setCell ⟨B, 1, none⟩ y).cell? ⟨B, 1, none⟩ = some y
  s2 : ∀ x y z, (((W.setCell ⟨B, 0, none⟩ x).setCell ⟨B, 1, none⟩ y).setCell ⟨B, 2, none⟩ z).cell? ⟨B, 2, none⟩ = some z
  s3 : ∀ x y z u, ((((W.setCell ⟨B, 0, none⟩ x).setCell ⟨B, 1, none⟩ y).setCell ⟨B, 2, none⟩ z).setCell ⟨B, 3, none⟩ u).cell? ⟨B, 3, none⟩ = some u
  s4 : ∀ x y z u s, (((((W.setCell ⟨B, 0, none⟩ x).setCell ⟨B, 1, none⟩ y).setCell ⟨B, 2, none⟩ z).setCell ⟨B, 3, none⟩ u).setCell ⟨B, 4, none⟩ s).cell? ⟨B, 4, none⟩ = some s
  s5 : ∀ x y z u s t, ((((((W.setCell ⟨B, 0, none⟩ x).setCell ⟨B, 1, none⟩ y).setCell ⟨B, 2, none⟩ z).setCell ⟨B, 3, none⟩ u).setCell ⟨B, 4, none⟩ s).setCell ⟨B, 5, none⟩ t).cell? ⟨B, 5, none⟩ = some t
theorem BoxL.put6 {W : World} {B : Nat} {v0 v1 v2 v3 v4 v5 : Value} (h : BoxL W B [v0, v1, v2, v3, v4, v5]) : Put6 W B :=
  ⟨fun x => (h.set 0 x (by simp)).row 0 _ rfl, fun x y => ((h.set 0 x (by simp)).set 1 y (by simp)).row 1 _ rfl,
   fun x y z => (((h.set 0 x (by simp)).set 1 y (by simp)).set 2 z (by simp)).row 2 _ rfl,
   fun x y z u => ((((h.set 0 x (by simp)).set 1 y (by simp)).set 2 z (by simp)).set 3 u (by simp)).row 3 _ rfl,
   fun x y z u s => (((((h.set 0 x (by simp)).set 1 y (by simp)).set 2 z (by simp)).set 3 u (by simp)).set 4 s (by simp)).row 4 _ rfl,
   fun x y z u s t => ((((((h.set 0 x (by simp)).set 1 y (by simp)).set 2 z (by simp)).set 3 u (by simp)).set 4 s (by simp)).set 5 t (by simp)).row 5 _ rfl⟩
theorem below_put6 {n : Nat} {w W : World} {B : Nat} (h : Below n w W) (hB : n ≤ B) (x y z u s t : Value) : Below n w ((((((W.setCell ⟨B, 0, none⟩ x).setCell ⟨B, 1, none⟩ y).setCell ⟨B, 2, none⟩ z).setCell ⟨B, 3, none⟩ u).setCell ⟨B, 4, none⟩ s).setCell ⟨B, 5, none⟩ t) :=
  (((((h.setCell hB _).setCell hB _).setCell hB _).setCell hB _).setCell hB _).setCell hB _
theorem size_put6 (W : World) (B : Nat) : ∀ x y z u s t : Value, ((((((W.setCell ⟨B, 0, none⟩ x).setCell ⟨B, 1, none⟩ y).setCell ⟨B, 2, none⟩ z).setCell ⟨B, 3, none⟩ u).setCell ⟨B, 4, none⟩ s).setCell ⟨B, 5, none⟩ t).heap.size = W.heap.size := fun x y z u s t => by simp only [World.size_setCell]
end Go.Proofs.Ytglmcjplglgnlaa
