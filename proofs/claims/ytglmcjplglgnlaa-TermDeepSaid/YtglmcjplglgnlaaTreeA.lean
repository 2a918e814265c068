/-
  Rows of nodes in memory; the program's there and End; the document's End.
-/
import Derived.Test.YtglmcjplglgnlaaTreeM
import Derived.Test.YtglmcjplglgnlaaTokS
import Derived.Test.YtglmcjplglgnlaaChecked
import Derived.Test.YtglmcjplglgnlaaBox
import Derived.BigQuiet
import Derived.Deep.QuietTactic
namespace Go.Proofs.Ytglmcjplglgnlaa
open Go.RowKit Go.Joins

/-! ### Rows of nodes -/
def ncs : List Nd → List Value
  | [] => []
  | x :: r => .int .i64 x.O :: .string x.S :: .int .i64 x.N :: .int .i64 x.K :: .int .i64 x.A :: ncs r
theorem ncs_append (a b : List Nd) : ncs (a ++ b) = ncs a ++ ncs b := by
  induction a with
  | nil => rfl
  | cons x a ih => rw [List.cons_append, ncs, ncs, ih]; rfl
theorem ncs_len : ∀ l, (ncs l).length = l.length * 5
  | [] => rfl
  | t :: r => by rw [ncs]; simp only [List.length_cons]; rw [ncs_len r]; omega
theorem ncs_at : ∀ (l : List Nd) (i : Nat) (x : Nd), l[i]? = some x → ∀ j u, x.cs[j]? = some u → (ncs l)[i * 5 + j]? = some u
  | [], i, x, h => by simp at h
  | y :: r, 0, x, h => by
    obtain rfl : y = x := by simpa using h
    intro j u hj
    have hjl : j < 5 := (List.getElem?_eq_some_iff.1 hj).1
    rw [Nat.zero_mul, Nat.zero_add]
    match j, hjl, hj with
    | 0, _, hj => exact hj
    | 1, _, hj => exact hj
    | 2, _, hj => exact hj
    | 3, _, hj => exact hj
    | 4, _, hj => exact hj
  | y :: r, i + 1, x, h => by
    intro j u hj
    have ih := ncs_at r i x (by simpa using h) j u hj
    rw [show (i + 1) * 5 + j = i * 5 + j + 1 + 1 + 1 + 1 + 1 by omega, ncs]
    simpa using ih
/-- The cells of the node at place p of block b. -/
def NdAt (w : World) (b p : Nat) (x : Nd) : Prop :=
  w.cell? ⟨b, p, none⟩ = some (.int .i64 x.O) ∧ w.cell? ⟨b, p + 1, none⟩ = some (.string x.S) ∧ w.cell? ⟨b, p + 2, none⟩ = some (.int .i64 x.N) ∧ w.cell? ⟨b, p + 3, none⟩ = some (.int .i64 x.K) ∧ w.cell? ⟨b, p + 4, none⟩ = some (.int .i64 x.A)
theorem NdAt.below {B b p : Nat} {w w' : World} {x : Nd} (h : NdAt w b p x) (hb : Below B w w') (hlt : b < B) : NdAt w' b p x :=
  ⟨(hb.cell (p := ⟨b, p, none⟩) hlt).trans h.1, (hb.cell (p := ⟨b, p + 1, none⟩) hlt).trans h.2.1, (hb.cell (p := ⟨b, p + 2, none⟩) hlt).trans h.2.2.1, (hb.cell (p := ⟨b, p + 3, none⟩) hlt).trans h.2.2.2.1, (hb.cell (p := ⟨b, p + 4, none⟩) hlt).trans h.2.2.2.2⟩
/-- The slice v reads as the nodes, in a block below B. -/
structure NdRow (B : Nat) (w : World) (v : Value) (l : List Nd) : Prop where
  room : l.length ≤ 9223372036854775807
  ok : ∀ x ∈ l, x.ok
  out : (l = [] ∧ ∃ o cap, v = .slice o 0 cap) ∨ ∃ b off cap, v = .slice (some ⟨b, off, none⟩) l.length cap ∧ b < B ∧ l.length ≤ cap ∧ ∀ i x, l[i]? = some x → NdAt w b (off + i * 5) x
theorem NdRow.below {B : Nat} {w w' : World} {v : Value} {l : List Nd} (h : NdRow B w v l) (hb : Below B w w') : NdRow B w' v l := by
  refine ⟨h.room, h.ok, ?_⟩
  rcases h.out with h | ⟨b, off, cap, h1, h2, h4, h3⟩
  · exact .inl h
  · exact .inr ⟨b, off, cap, h1, h2, h4, fun i x hi => (h3 i x hi).below hb h2⟩
theorem NdRow.mono {B B' : Nat} {w : World} {v : Value} {l : List Nd} (h : NdRow B w v l) (hb : B ≤ B') : NdRow B' w v l := by
  refine ⟨h.room, h.ok, ?_⟩
  rcases h.out with h | ⟨b, off, cap, h1, h2, h4, h3⟩
  · exact .inl h
  · exact .inr ⟨b, off, cap, h1, by omega, h4, h3⟩
theorem NdRow.to {w w' : World} {v : Value} {l : List Nd} (h : NdRow w.heap.size w v l) (hb : Below w.heap.size w w') : NdRow w'.heap.size w' v l := (h.below hb).mono hb.size
theorem NdRow.nil (B : Nat) (w : World) : NdRow B w (.slice none 0 0) [] := ⟨by simp, fun x h => by simp at h, .inl ⟨rfl, _, _, rfl⟩⟩
theorem NdRow.form {B : Nat} {w : World} {v : Value} {l : List Nd} (h : NdRow B w v l) : ∃ o cap, v = .slice o l.length cap ∧ ∀ i x, l[i]? = some x → x.ok ∧ ∃ b off, o = some ⟨b, off, none⟩ ∧ b < B ∧ ∀ W, Below B w W → NdAt W b (off + i * 5) x := by
  rcases h.out with ⟨rfl, o, cap, rfl⟩ | ⟨b, off, cap, rfl, hb, _, hc⟩
  · exact ⟨o, cap, rfl, fun i x hi => by simp at hi⟩
  · exact ⟨_, cap, rfl, fun i x hi => ⟨h.ok x (List.mem_of_getElem? hi), b, off, rfl, hb, fun W hW => (hc i x hi).below hW hb⟩⟩
theorem NdRow.of_own {B : Nat} {w : World} {v : Value} {l : List Nd} (h : w.ownsRow B 42 5 v l.length (ncs l)) (hl : l.length ≤ 9223372036854775807) (hok : ∀ x ∈ l, x.ok) : NdRow w.heap.size w v l := by
  refine ⟨hl, hok, ?_⟩
  rcases h.2 with ⟨rfl, h0⟩ | ⟨g, cap, cur, rfl, hb, hg, hcap, _⟩
  · exact .inl ⟨List.length_eq_zero_iff.1 h0, _, _, rfl⟩
  · refine .inr ⟨g, 0, cap, rfl, (Array.getElem?_eq_some_iff.1 hg).1, hcap, fun i x hi => ?_⟩
    have ea : ∀ j, (⟨g, 0, none⟩ : Addr).add j = ⟨g, 0 + j, none⟩ := fun j => by unfold Addr.add; split <;> simp_all
    have key : ∀ j u, x.cs[j]? = some u → w.cell? ⟨g, 0 + i * 5 + j, none⟩ = some u := fun j u hj => by
      have h0 := h.cells (g := g) rfl (i * 5 + j) _ (ncs_at l i x hi j u hj)
      rw [ea] at h0
      rw [Nat.add_assoc]; exact h0
    exact ⟨key 0 _ rfl, key 1 _ rfl, key 2 _ rfl, key 3 _ rfl, key 4 _ rfl⟩
/-- The first n of them. -/
theorem NdRow.take {B : Nat} {w : World} {o : Option Addr} {len cap : Nat} {l : List Nd} {n : Nat} (h : NdRow B w (.slice o len cap) l) (hn : n ≤ l.length) : NdRow B w (.slice o n cap) (l.take n) := by
  have e : (l.take n).length = n := by rw [List.length_take]; omega
  have hr := h.room
  refine ⟨by omega, fun x hx => h.ok x (List.mem_of_mem_take hx), ?_⟩
  rcases h.out with ⟨rfl, _⟩ | ⟨b', off', cap', h1, h2, h4, h3⟩
  · have : n = 0 := by simpa using hn
    subst this
    exact .inl ⟨rfl, _, _, rfl⟩
  · injection h1 with h1 h1' h1''
    subst h1 h1''
    refine .inr ⟨b', off', cap, by rw [e], h2, by omega, fun i x hi => ?_⟩
    rw [List.getElem?_take] at hi
    split at hi
    · exact h3 i x hi
    · cases hi

/-! ### The program's there -/
/-- Between two rounds of End. -/
structure EndAt (l : List Nd) (i m a : Nat) : Prop where
  out : 1 ≤ m ∧ m ≤ 1 + a * 1000 ∧ a ≤ l.length ∧ a + tk m ((ks l).drop a) = endN (ks l) i
theorem EndAt.step {l : List Nd} {i m a : Nat} {x : Nd} (h : EndAt l i m a) (hx : l[a]? = some x) (hn : l.length ≤ 1000) : (m + min x.K.toNat l.length = 1 ∧ endN (ks l) i = a + 1) ∨ (1 < m + min x.K.toNat l.length ∧ EndAt l i (m + min x.K.toNat l.length - 1) (a + 1)) := by
  obtain ⟨h1, h2, h3, h4⟩ := h.out
  obtain ⟨hl, e⟩ := ks_get hx
  have hal := (List.getElem?_eq_some_iff.1 hx).1
  obtain ⟨m', rfl⟩ : ∃ m', m = m' + 1 := ⟨m - 1, by omega⟩
  rw [drop_at hl, e, tk_cons, ← tk_cap (c := l.length) (by rw [List.length_drop, ks_len]; omega)] at h4
  by_cases hz : m' + min x.K.toNat l.length = 0
  · rw [hz, tk_zero] at h4
    exact .inl ⟨by omega, by omega⟩
  · exact .inr ⟨by omega, ⟨by omega, by omega, by omega, by rw [show m' + 1 + min x.K.toNat l.length - 1 = m' + min x.K.toNat l.length by omega]; omega⟩⟩
theorem EndAt.fin {l : List Nd} {i m a : Nat} (h : EndAt l i m a) (ha : l.length ≤ a) : (endN (ks l) i : Int) = l.length := by
  obtain ⟨h1, h2, h3, h4⟩ := h.out
  rw [List.drop_eq_nil_of_le (by rw [ks_len]; omega), tk_nil] at h4
  omega

/-! ### The document's End -/
end Go.Proofs.Ytglmcjplglgnlaa
