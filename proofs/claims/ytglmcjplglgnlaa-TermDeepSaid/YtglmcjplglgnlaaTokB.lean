/-
  The program's remark, pass, Word.
-/
import Derived.Test.YtglmcjplglgnlaaTokA
namespace Go.Proofs.Ytglmcjplglgnlaa
open Go.RowKit

theorem rem_ok {l a r : List UInt8} {m : Bool} {b : UInt8} {t : List UInt8} (h : CutIs l a r m) (hl : l = b :: t) (hb : ob b = 35) : skp false l = a.length + skp false (l.drop a.length) ∧ 1 ≤ a.length ∧ a.length ≤ l.length := by
  rcases h with ⟨_, h1, h2⟩ | ⟨_, rfl, _, h2⟩
  · cases a with
    | nil =>
      rw [hl] at h1
      obtain ⟨rfl, _⟩ := List.cons.inj h1
      exact absurd hb (by decide)
    | cons c a =>
      rw [hl, List.cons_append] at h1
      obtain ⟨rfl, rfl⟩ := List.cons.inj h1
      subst hl
      refine ⟨?_, by simp, by simp⟩
      rw [skp_hash hb, skp_remark a r (fun x hx => h2 x (List.mem_cons_of_mem _ hx)), List.length_cons, List.drop_succ_cons, List.drop_left]
      omega
  · subst hl
    refine ⟨?_, by simp, by simp⟩
    rw [skp_hash hb, skp_remark_end t (fun x hx => h2 x (List.mem_cons_of_mem _ hx)), List.drop_length, List.length_cons]; rfl

theorem blk_ways (c : Int) : (c = 9 ∨ c = 10 ∨ c = 13 ∨ c = 32) ∨ (blk c = false ∧ c ≠ 9 ∧ c ≠ 10 ∧ c ≠ 13 ∧ c ≠ 32) := by
  by_cases h : c = 9 ∨ c = 10 ∨ c = 13 ∨ c = 32
  · exact .inl h
  · refine .inr ⟨?_, by omega, by omega, by omega, by omega⟩
    unfold blk
    simp only [Bool.or_eq_false_iff, decide_eq_false_iff_not]
    omega
theorem blk_is {c : Int} (h : c = 9 ∨ c = 10 ∨ c = 13 ∨ c = 32) : blk c = true := by
  rcases h with rfl | rfl | rfl | rfl <;> decide
theorem skp_go {l : List UInt8} {b : UInt8} {t : List UInt8} {k : Nat} (h : l.drop k = b :: t) (hb : blk (ob b) = true) : k + 1 + skp false (l.drop (k + 1)) = k + skp false (l.drop k) := by
  have : l.drop (k + 1) = t := by rw [← List.drop_drop, h]; rfl
  rw [this, h, skp_blank hb]; omega

end Go.Proofs.Ytglmcjplglgnlaa
