/-
  What the document's reading answers.
-/
import Derived.Test.YtglmcjplglgnlaaTermB
namespace Go.Proofs.Ytglmcjplglgnlaa
open Go.RowKit Go.Joins

/-- The slice v reads as the nodes, in a block from lo on. -/
structure NIn (lo : Nat) (w : World) (v : Value) (l : List Nd) : Prop where
  room : l.length ≤ 100000
  out : (l = [] ∧ v = .slice none 0 0) ∨ ∃ b off cap, v = .slice (some ⟨b, off, none⟩) l.length cap ∧ lo ≤ b ∧ b < w.heap.size ∧ ∀ j u, (ncs l)[j]? = some u → w.cell? ⟨b, off + j, none⟩ = some u
theorem NIn.row {lo : Nat} {w : World} {v : Value} {l : List Nd} (h : NIn lo w v l) : NRow w.heap.size w v l := by
  refine ⟨by have := h.room; omega, ?_⟩
  rcases h.out with ⟨h1, h2⟩ | ⟨b, off, cap, h1, h2, h3, h4⟩
  · exact .inl ⟨h1, _, _, h2⟩
  · exact .inr ⟨b, off, cap, h1, h3, h4⟩
theorem NIn.to {lo : Nat} {w w' : World} {v : Value} {l : List Nd} (h : NIn lo w v l) (hb : Below w.heap.size w w') : NIn lo w' v l := by
  refine ⟨h.room, ?_⟩
  rcases h.out with h | ⟨b, off, cap, h1, h2, h3, h4⟩
  · exact .inl h
  · exact .inr ⟨b, off, cap, h1, h2, Nat.lt_of_lt_of_le h3 hb.size, fun j u hj => (hb.cell (p := ⟨b, off + j, none⟩) h3).trans (h4 j u hj)⟩
theorem NIn.mono {lo lo' : Nat} {w : World} {v : Value} {l : List Nd} (h : NIn lo w v l) (hl : lo' ≤ lo) : NIn lo' w v l := by
  refine ⟨h.room, ?_⟩
  rcases h.out with h | ⟨b, off, cap, h1, h2, h3, h4⟩
  · exact .inl h
  · exact .inr ⟨b, off, cap, h1, by omega, h3, h4⟩
theorem NIn.set {lo : Nat} {w : World} {v : Value} {l : List Nd} (h : NIn lo w v l) (p : Addr) (x : Value) (hp : v.ownBlock ≠ some p.block) : NIn lo (w.setCell p x) v l := by
  refine ⟨h.room, ?_⟩
  rcases h.out with h | ⟨b, off, cap, h1, h2, h3, h4⟩
  · exact .inl h
  · refine .inr ⟨b, off, cap, h1, h2, by rw [World.size_setCell]; exact h3, fun j u hj => ?_⟩
    rw [World.cell?_setCell_other _ _ _ _ (by intro c; rw [c, h1] at hp; exact hp rfl)]
    exact h4 j u hj
theorem NIn.lt {lo : Nat} {w : World} {v : Value} {l : List Nd} (h : NIn lo w v l) : ∀ k, v.ownBlock = some k → lo ≤ k ∧ k < w.heap.size := fun k hk => by
  rcases h.out with ⟨_, rfl⟩ | ⟨b, off, cap, rfl, h2, h3, h4⟩
  · simp [Value.ownBlock] at hk
  · simp only [Value.ownBlock, Option.some.injEq] at hk
    omega
theorem NIn.nil (lo : Nat) (w : World) : NIn lo w (.slice none 0 0) [] := ⟨by simp, .inl ⟨rfl, rfl⟩⟩
theorem NIn.of_own {lo : Nat} {w : World} {v : Value} {l : List Nd} (h : w.ownsRow lo 42 5 v l.length (ncs l)) (hl : l.length ≤ 100000) : NIn lo w v l := by
  refine ⟨hl, ?_⟩
  rcases h.2 with ⟨rfl, h0⟩ | ⟨g, cap, cur, rfl, hb, hg, hcap, _⟩
  · exact .inl ⟨List.length_eq_zero_iff.1 h0, rfl⟩
  · refine .inr ⟨g, 0, cap, rfl, hb, (Array.getElem?_eq_some_iff.1 hg).1, fun j u hj => ?_⟩
    have := h.cells (g := g) rfl j _ hj
    rwa [Addr.add_mid] at this
theorem NIn.one {lo g : Nat} {w : World} {x : Nd} (h : BoxL w g [.int .i64 x.O, .string x.S, .int .i64 x.N, .int .i64 x.K, .int .i64 x.A]) (hl : lo ≤ g) : NIn lo w (.slice (some ⟨g, 0, none⟩) 1 1) [x] :=
  ⟨by simp, .inr ⟨g, 0, 1, rfl, hl, h.lt, nd_cells h⟩⟩
theorem NIn.form {lo : Nat} {w : World} {v : Value} {l : List Nd} (h : NIn lo w v l) : ∃ o c, v = .slice o l.length c := by
  rcases h.out with ⟨rfl, rfl⟩ | ⟨b, off, cap, rfl, _⟩
  · exact ⟨_, _, rfl⟩
  · exact ⟨_, _, rfl⟩
theorem NIn.open {lo : Nat} {w : World} {v : Value} {l : List Nd} (h : NIn lo w v l) (h0 : 1 ≤ l.length) : ∃ b off cap, v = .slice (some ⟨b, off, none⟩) l.length cap ∧ lo ≤ b ∧ b < w.heap.size ∧ ∀ j u, (ncs l)[j]? = some u → w.cell? ⟨b, off + j, none⟩ = some u := by
  rcases h.out with ⟨rfl, _⟩ | h
  · simp at h0
  · exact h

theorem NIn.put3 {lo : Nat} {w : World} {v : Value} {l : List Nd} (h : NIn lo w v l) (B : Nat) (hB : v.ownBlock ≠ some B) (x y z : Value) : NIn lo (((w.setCell ⟨B, 0, none⟩ x).setCell ⟨B, 1, none⟩ y).setCell ⟨B, 2, none⟩ z) v l :=
  ((h.set ⟨B, 0, none⟩ x hB).set ⟨B, 1, none⟩ y hB).set ⟨B, 2, none⟩ z hB
theorem NIn.alloc {lo : Nat} {w : World} {v : Value} {l : List Nd} (h : NIn lo w v l) (o : Obj) : NIn lo (w.alloc o) v l := h.to ((Below.refl _ _).alloc (Nat.le_refl _) _)
theorem nin_two {X : World} {n lo : Nat} (hz : X.heap.size = n) (hl : lo ≤ n + 1) (A : Obj) (x : Nd) : NIn lo ((X.alloc A).alloc (.cells #[.int .i64 x.O, .string x.S, .int .i64 x.N, .int .i64 x.K, .int .i64 x.A] 42)) (.slice (some ⟨n + 1, 0, none⟩) 1 1) [x] := by
  have h := BoxL.new (X.alloc A) [.int .i64 x.O, .string x.S, .int .i64 x.N, .int .i64 x.K, .int .i64 x.A] 42
  rw [World.size_alloc, hz] at h
  exact NIn.one h hl

/-- What the document's reading answers. -/
def GotTo (R : List Nd × Nat × Int) (w : World) (e : Ending) (w' : World) : Prop := ∃ v, e = .returned (.agg #[v, .int .i64 R.2.1, .int .i64 R.2.2]) ∧ NIn w.heap.size w' v R.1 ∧ Below w.heap.size w w'
def RLevOk (ts : List Tok) (tv : Value) (f : Nat) : Prop := ∀ (i n d : Nat) (w : World), 1 ≤ n → n ≤ 6 → d ≤ 24 → 8 * (ts.length - i) + 8 - n ≤ f → TkRow w.heap.size w tv ts →
  Calls Try.prog 19 #[tv, .int .i64 (i : Int), .int .i64 (n : Int), .int .i64 (d : Int)] w fun e w' => GotTo (lev ts f i n d) w e w'
def ROneOk (ts : List Tok) (tv : Value) (f : Nat) : Prop := ∀ (i d : Nat) (w : World), d ≤ 24 → 8 * (ts.length - i) + 1 ≤ f → TkRow w.heap.size w tv ts →
  Calls Try.prog 29 #[tv, .int .i64 (i : Int), .int .i64 (d : Int)] w fun e w' => GotTo (one ts f i d) w e w'

end Go.Proofs.Ytglmcjplglgnlaa
