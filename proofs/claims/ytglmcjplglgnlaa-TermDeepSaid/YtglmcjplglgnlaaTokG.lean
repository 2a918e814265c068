/-
  The program's Next.
-/
import Derived.Test.YtglmcjplglgnlaaTokF
import Derived.Test.YtglmcjplglgnlaaSets
namespace Go.Proofs.Ytglmcjplglgnlaa
open Go.RowKit Go.Joins

theorem pcName_bd (l : List UInt8) : (pcName l).1 ≠ 2 ∧ (pcName l).2.1 ≤ l.length := by
  have := spn_le isN l
  unfold pcName
  split
  · simp
  · split <;> simp <;> omega
theorem pcNum_bd (l : List UInt8) (h0 : isD (byteAt l 0) = true) : (pcNum l).2.1 ≤ l.length ∧ ((pcNum l).1 = 2 → 1 ≤ (pcNum l).2.1 ∧ (pcNum l).2.1 ≤ 18 ∧ ∀ b ∈ l.take (pcNum l).2.1, isD (ob b) = true) := by
  have h1 := spn_le isD l
  have h2 : 1 ≤ spn isD l := by
    cases l with
    | nil => simp [byteAt, isD] at h0
    | cons b t => rw [spn, if_pos (by simpa [byteAt] using h0)]; omega
  have h3 := spn_take (p := isD) l
  unfold pcNum
  split
  · simp
  · split
    · simp
    · split
      · simp
      · refine ⟨h1, fun _ => ⟨h2, ?_, h3⟩⟩
        simp only; omega
theorem sgn_bd (b c : Int) : sgn b c ≤ 2 := by unfold sgn; split <;> (try split) <;> (try split) <;> omega
theorem sgn_two {b c : Int} (h : sgn b c = 2) : 0 ≤ c := by
  unfold sgn at h
  split at h
  · split at h <;> omega
  · split at h
    · split at h <;> omega
    · split at h <;> omega
theorem pcSign_bd {l : List UInt8} (h0 : l ≠ []) : (pcSign l).1 ≠ 2 ∧ (pcSign l).2.1 ≤ l.length := by
  unfold pcSign
  have hlen : 0 < l.length := List.length_pos_iff.2 h0
  split
  · simp
  · refine ⟨by simp, ?_⟩
    simp only
    have h1 := sgn_bd (byteAt l 0) (byteAt l 1)
    by_cases h2 : sgn (byteAt l 0) (byteAt l 1) = 2
    · have h3 := sgn_two h2
      rcases Nat.lt_or_ge 1 l.length with h | h
      · omega
      · rw [at_end l h] at h3; omega
    · omega
theorem pc_bd (l : List UInt8) : (pc l).2.1 ≤ l.length ∧ ((pc l).1 = 2 → 1 ≤ (pc l).2.1 ∧ (pc l).2.1 ≤ 18 ∧ ∀ b ∈ l.take (pc l).2.1, isD (ob b) = true) := by
  unfold pc
  by_cases h0 : l = []
  · rw [if_pos h0]; simp
  · rw [if_neg h0]
    split
    · exact ⟨(pcName_bd l).2, fun h => absurd h (pcName_bd l).1⟩
    · split
      · exact pcNum_bd l (by assumption)
      · exact ⟨(pcSign_bd h0).2, fun h => absurd h (pcSign_bd h0).1⟩

/-- A token, the place behind it and an error are told. -/
def NxIs (x : Tok × Int × Int) (e : Ending) : Prop := e = .returned (.tuple #[x.1.agg, .int .i64 x.2.1, .int .i64 x.2.2])
theorem nxt_bad {s : List UInt8} {a b n : Nat} {K E : Int} (hb : b = a + skp false (s.drop a)) (hp : pc (s.drop b) = (K, n, E)) (hE : E ≠ 0) : nxt s a = (zt, (b : Int), E) := by
  subst hb
  unfold nxt
  simp only [hp]
  rw [if_pos hE]
theorem nxt_good {s : List UInt8} {a b n : Nat} {K : Int} (hb : b = a + skp false (s.drop a)) (hp : pc (s.drop b) = (K, n, 0)) : nxt s a = (⟨K, str ((s.drop b).take n), if K = 2 then worth ((s.drop b).take n) else 0, b⟩, (b : Int) + n, 0) := by
  subst hb
  unfold nxt
  simp only [hp]
  rw [if_neg (by simp)]

end Go.Proofs.Ytglmcjplglgnlaa
