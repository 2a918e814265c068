/-
  The document's Piece: class by class. (Laid by tools/gen/treeX.py.)
-/
import Derived.Test.YtgodjgbdjgiapaaTreeXB
import Derived.Test.YtgodjgbdjgiapaaTreeXC
import Derived.Test.YtgodjgbdjgiapaaTreeXD
namespace Go.Proofs.Ytgodjgbdjgiapaa
open Go.RowKit Go.Joins

theorem goR_append (l : List Nd) (s t : List UInt8) (g : Nat × Bool) : goR l (s ++ t) g = goR l t (goR l s g) := by
  induction s generalizing g with
  | nil => rw [goR_nil]; rfl
  | cons c s ih => rw [List.cons_append, goR_cons, goR_cons l c s, ih]
theorem Ask.to {v : Value} {l : List Nd} {x : Nd} {a1 : Nat} {w w' : World} (h : Ask v l x a1 w) (hb : Below w.heap.size w w') : Ask v l x a1 w' :=
  ⟨h.nm, h.br, fun cs h1 h2 W hW => h.row cs h1 h2 W (hb.trans (hW.mono hb.size)), fun c h1 N h2 W hW => h.all c h1 N h2 W (hb.trans (hW.mono hb.size))⟩
/-- The boxes of Piece: the answer, the node, two places. -/
structure PB (w : World) (x : Nd) (a a1 : Nat) (W : World) : Prop where
  res : BoxL W w.heap.size [.int .i64 0, .bool false]
  nd : BoxL W (w.heap.size + 1) [.int .i64 x.O, .string x.S, .int .i64 x.N, .int .i64 x.K, .int .i64 x.A]
  no : BoxL W (w.heap.size + 1 + 1) [.int .i64 (a : Int), .bool false]
  inn : BoxL W (w.heap.size + 1 + 1 + 1) [.int .i64 (a1 : Int), .bool true]
  below : Below w.heap.size w W
theorem PB.to {w : World} {x : Nd} {a a1 : Nat} {W W' : World} (h : PB w x a a1 W) (hb : Below W.heap.size W W') : PB w x a a1 W' := ⟨h.res.to hb, h.nd.to hb, h.no.to hb, h.inn.to hb, h.below.trans (hb.mono h.below.size)⟩
theorem PB.facts {w : World} {x : Nd} {a a1 : Nat} {W : World} (h : PB w x a a1 W) :
    W.cell? ⟨w.heap.size + 1, 0, none⟩ = some (.int .i64 x.O) ∧ W.cell? ⟨w.heap.size + 1, 1, none⟩ = some (.string x.S) ∧ W.cell? ⟨w.heap.size + 1, 2, none⟩ = some (.int .i64 x.N) ∧ W.cell? ⟨w.heap.size + 1, 3, none⟩ = some (.int .i64 x.K) ∧ W.cell? ⟨w.heap.size + 1, 4, none⟩ = some (.int .i64 x.A) ∧
    W.cell? ⟨w.heap.size + 1 + 1, 0, none⟩ = some (.int .i64 (a : Int)) ∧ W.cell? ⟨w.heap.size + 1 + 1, 1, none⟩ = some (.bool false) ∧
    W.cell? ⟨w.heap.size + 1 + 1 + 1, 0, none⟩ = some (.int .i64 (a1 : Int)) ∧ W.cell? ⟨w.heap.size + 1 + 1 + 1, 1, none⟩ = some (.bool true) ∧
    W.cell? ⟨w.heap.size, 0, none⟩ = some (.int .i64 0) ∧ W.cell? ⟨w.heap.size, 1, none⟩ = some (.bool false) ∧
    w.heap.size < W.heap.size ∧ (∀ i, W.frozen? ⟨w.heap.size, i, none⟩ = false) ∧
    (∀ x, (W.setCell ⟨w.heap.size, 0, none⟩ x).cell? ⟨w.heap.size, 0, none⟩ = some x) ∧ (∀ x y, ((W.setCell ⟨w.heap.size, 0, none⟩ x).setCell ⟨w.heap.size, 1, none⟩ y).cell? ⟨w.heap.size, 1, none⟩ = some y) :=
  ⟨h.nd.row 0 _ rfl, h.nd.row 1 _ rfl, h.nd.row 2 _ rfl, h.nd.row 3 _ rfl, h.nd.row 4 _ rfl, h.no.row 0 _ rfl, h.no.row 1 _ rfl, h.inn.row 0 _ rfl, h.inn.row 1 _ rfl, h.res.row 0 _ rfl, h.res.row 1 _ rfl, h.res.lt, h.res.free, h.res.put2.s0, h.res.put2.s1⟩
/-- The world behind the four boxes. -/
def p4 (w : World) (x : Nd) (a a1 : Nat) : World := (((w.alloc (.cells #[.int .i64 0, .bool false] 53)).alloc (.cells #[.int .i64 x.O, .string x.S, .int .i64 x.N, .int .i64 x.K, .int .i64 x.A] 39)).alloc (.cells #[.int .i64 (a : Int), .bool false] 53)).alloc (.cells #[.int .i64 (a1 : Int), .bool true] 53)
theorem PB.start (w : World) (x : Nd) (a a1 : Nat) : PB w x a a1 (p4 w x a a1) := by
  have h0 := BoxL.new w [.int .i64 0, .bool false] 53
  have h1 := BoxL.new (w.alloc (.cells #[.int .i64 0, .bool false] 53)) [.int .i64 x.O, .string x.S, .int .i64 x.N, .int .i64 x.K, .int .i64 x.A] 39
  have h2 := BoxL.new ((w.alloc (.cells #[.int .i64 0, .bool false] 53)).alloc (.cells #[.int .i64 x.O, .string x.S, .int .i64 x.N, .int .i64 x.K, .int .i64 x.A] 39)) [.int .i64 (a : Int), .bool false] 53
  have h3 := BoxL.new (((w.alloc (.cells #[.int .i64 0, .bool false] 53)).alloc (.cells #[.int .i64 x.O, .string x.S, .int .i64 x.N, .int .i64 x.K, .int .i64 x.A] 39)).alloc (.cells #[.int .i64 (a : Int), .bool false] 53)) [.int .i64 (a1 : Int), .bool true] 53
  simp only [World.size_alloc] at h1 h2 h3
  exact ⟨((h0.alloc _).alloc _).alloc _, (h1.alloc _).alloc _, h2.alloc _, h3, ((((Below.refl _ w).alloc (Nat.le_refl _) _).alloc (by simp) _).alloc (by simp; omega) _).alloc (by simp; omega) _⟩
end Go.Proofs.Ytgodjgbdjgiapaa
