/-
  Places by lines and columns, there and back.
-/
import Derived.Test.YtikkblakncflfaaSpotE
import Derived.ChangeKeysEq
namespace Go.Proofs.Ytikkblakncflfaa
open Go.RowKit

theorem att_hit {s : List UInt8} {i l c : Nat} (hi : i ≤ s.length) (h : ofP (s.take i) = (l, c)) : att s ((l : Int) + 1) ((c : Int) + 1) = ((i : Int), true) ∧ l < (lines s).length := by
  obtain ⟨x, h1, h2, h3⟩ := place_fwd s i hi
  rw [h] at h1 h2 h3
  simp only at h1 h2 h3
  refine ⟨?_, (List.getElem?_eq_some_iff.1 h1).1⟩
  unfold att
  rw [fnd_hit h1]
  simp only
  rw [if_pos ⟨trivial, by omega, by omega⟩]
  congr 1
  omega
theorem att_none {s : List UInt8} {l c : Int} (h : ∀ i, i ≤ s.length → ¬ (((ofP (s.take i)).1 : Int) + 1 = l ∧ ((ofP (s.take i)).2 : Int) + 1 = c)) : att s l c = (0, false) := by
  unfold att
  rcases fnd_cases s l with ⟨k, x, rfl, h2, h3⟩ | ⟨_, h3⟩
  · rw [h3]
    simp only
    by_cases hc : 1 ≤ c ∧ c ≤ (x.length : Int) + 1
    · exfalso
      obtain ⟨h4, h5⟩ := place_bwd s k (c - 1).toNat x h2 (by omega)
      exact h _ h4 (by rw [h5]; exact ⟨rfl, by simp only; omega⟩)
    · rw [if_neg (by intro h; exact hc ⟨h.2.1, h.2.2⟩)]
  · rw [h3, if_neg (by simp)]

/-- Two pairs held against one another. -/
theorem eq2_any (a b c d : Int) (W : World) : (Op.equalIn 10000 34 (.agg #[.int .i64 a, .int .i64 b]) (.agg #[.int .i64 c, .int .i64 d])).run Try.prog W = .ok ((a == c) && (b == d)) W := by
  obtain ⟨i, hi, -, -, -⟩ := info_parts (show (Try.prog.info? 3).map (fun i => (i.zero, i.size, i.bytes)) = some (some (.int .i64 0), 1, 8) by kernel_rfl)
  refine (Go.run_equalIn_array W 9999 _ _ Try.underlying34 hi).trans ?_
  rw [show Try.prog.cellsOf 3 = 1 by kernel_rfl]
  rw [show List.range 2 = [0, 1] from rfl]
  simp [Op.eqItems, go_sem]
  by_cases h1 : a = c <;> by_cases h2 : b = d <;> simp [h1, h2]
theorem eq2_is {a b c d : Int} {r : Bool} (h : ((a == c) && (b == d)) = r) : ∀ W, (Op.equalIn 10000 34 (.agg #[.int .i64 a, .int .i64 b]) (.agg #[.int .i64 c, .int .i64 d])).run Try.prog W = .ok r W := fun W => by rw [eq2_any, h]
end Go.Proofs.Ytikkblakncflfaa
