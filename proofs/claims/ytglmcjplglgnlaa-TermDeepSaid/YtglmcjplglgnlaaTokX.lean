/-
  The program's All.
-/
import Derived.Test.YtglmcjplglgnlaaTokW
namespace Go.Proofs.Ytglmcjplglgnlaa
open Go.RowKit Go.Joins

theorem toks_inv {s : List UInt8} {a : Nat} {ts : List Tok} {r : Int × Int} (h : Toks s a ts r) :
    (ts = [] ∧ r.2 ≠ 0 ∧ ∃ t, nxt s a = (t, r.1, r.2)) ∨ (∃ t p, ts = [t] ∧ r = (t.A, 0) ∧ nxt s a = (t, p, 0) ∧ t.K = 0) ∨ (∃ t b ts', ts = t :: ts' ∧ nxt s a = (t, ((b : Nat) : Int), 0) ∧ t.K ≠ 0 ∧ a < b ∧ b ≤ s.length ∧ Toks s b ts' r) := by
  cases h with
  | bad _ t p e h1 h2 => exact .inl ⟨rfl, h2, t, h1⟩
  | fin _ t p h1 h2 => exact .inr (.inl ⟨t, p, rfl, rfl, h1, h2⟩)
  | step _ b t ts _ h1 h2 h3 h4 h5 => exact .inr (.inr ⟨t, b, _, rfl, h1, h2, h3, h4, h5⟩)
theorem own_to {W W' : World} {B : Nat} {e : TypeId} {n len : Nat} {v : Value} {cs : List Value} (h : W.ownsRow B e n v len cs) (hb : Below W.heap.size W W') : W'.ownsRow B e n v len cs :=
  h.kept (row := none) ⟨hb.os, hb.tape, hb.output, hb.size, fun j hj _ => hb.block j hj⟩ (by cases v.ownBlock <;> simp)
theorem grown_cell {X Y : World} {row : Option Nat} (h : X.grownBy Y row) {p : Addr} (hp : p.block < X.heap.size) (hne : some p.block ≠ row) : Y.cell? p = X.cell? p := by
  simp only [World.cell?, h.block p.block hp hne]
theorem tk4 {W : World} {b : Nat} {t : Tok} (h : BoxL W b [.int .i64 t.K, .string t.S, .int .i64 t.V, .int .i64 t.A]) : ∀ j u, ([.int .i64 t.K, .string t.S, .int .i64 t.V, .int .i64 t.A] : List Value)[j]? = some u → W.cell? ⟨b, j, none⟩ = some u := h.row
theorem BoxL.grown {X Y : World} {row : Option Nat} {b : Nat} {vs : List Value} (h : BoxL X b vs) (hg : X.grownBy Y row) (hne : some b ≠ row) : BoxL Y b vs :=
  ⟨fun i v hi => (grown_cell hg (p := ⟨b, i, none⟩) h.lt hne).trans (h.row i v hi), fun i => by
    have := h.free i
    simp only [World.frozen?, hg.block b h.lt hne] at this ⊢
    exact this, Nat.lt_of_lt_of_le h.lt hg.size⟩

def AllIs (ts : List Tok) (r : Int × Int) (w : World) (e : Ending) (w' : World) : Prop := ∃ v, e = .returned (.tuple #[v, .int .i64 r.1, .int .i64 r.2]) ∧ TkRow w'.heap.size w' v (told ts r) ∧ Below w.heap.size w w'

/-- Between two rounds of All. -/
structure AllAt (l : List UInt8) (ts : List Tok) (r : Int × Int) (w : World) (k : Nat) (v : Value) (wr : World) : Prop where
  out : ∃ pre rest, ts = pre ++ rest ∧ Toks l k rest r ∧ k ≤ l.length ∧ pre.length ≤ k ∧ wr.ownsRow w.heap.size 51 4 v pre.length (tcs pre) ∧ Below w.heap.size w wr

end Go.Proofs.Ytglmcjplglgnlaa
