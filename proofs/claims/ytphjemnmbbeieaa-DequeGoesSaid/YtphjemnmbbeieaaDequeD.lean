/-
  The deque's room made and given back; a place cleared.
-/
import Derived.Test.YtphjemnmbbeieaaDequeC
namespace Go.Proofs.Ytphjemnmbbeieaa
open Go.RowKit

theorem below_drewN (w : World) (n : Nat) : Below w.heap.size w (w.drewN n) := ⟨rfl, rfl, rfl, Nat.le_refl _, fun _ _ => rfl⟩
theorem dkept_drew (d : Nat) (r : Option Nat) (w : World) : DKept d r r w w.drew := DKept.of ((Below.refl _ w).drew)
theorem DQ.drew {d : Nat} {r : Option Nat} {l : List ByteArray} {w : World} (h : DQ d r l w) : DQ d r l w.drew := h.below ((Below.refl _ w).drew)
theorem DAt.drew {d g : Nat} {cs : List Value} {f : Nat} {l : List ByteArray} {w : World} (h : DAt d g cs f l w) : DAt d g cs f l w.drew := h.below ((Below.refl _ w).drew)

/-- The deque has a ring with room for one more. -/
def DRoom (d : Nat) (r : Option Nat) (l : List ByteArray) (w w' : World) : Prop := ∃ g cs f, DAt d g cs f l w' ∧ l.length < cs.length ∧ DKept d r (some g) w w'

set_option maxHeartbeats 1000000 in
theorem widen_any (d : Nat) (r : Option Nat) (l : List ByteArray) (w : World) (h : DQ d r l w) (hl : l.length ≤ 1000) :
    Calls Try.prog 26 #[.pointer (some ⟨d, 0, none⟩)] w fun e w' => e = .returned (.tuple #[]) ∧ DRoom d r l w w' := by
  have H := keep h
  obtain ⟨o, n, f, hb, _, _, hln⟩ := h.box
  obtain ⟨c0, _, c2, _⟩ := hb.cells
  have HF : Keep (l.length < n → ∀ nq, DRoom d r l w (w.drewN nq)) := ⟨fun hlt nq => by
    rcases h.out with ⟨_, rfl, hb'⟩ | ⟨g, cs, f', rfl, ha⟩
    · have := hb.symm.trans hb'
      simp at this
      omega
    · have := hb.symm.trans ha.box
      simp at this
      exact ⟨g, cs, f', ha.below (below_drewN w nq), by omega, DKept.of (below_drewN w nq)⟩⟩
  have HR : Keep (∀ (W : World) (T : Int), T = ((max 4 (2 * l.length) : Nat) : Int) → Below w.heap.size w W → Calls Try.prog 37 #[.pointer (some ⟨d, 0, none⟩), .int .i64 T] W fun e w' => e = .returned (.tuple #[]) ∧ DRoom d r l w w') :=
    ⟨fun W T hT hW => by
      subst hT
      refine (resize_any d r l (max 4 (2 * l.length)) W (H.out.below hW) (by omega) (by omega) (by omega)).mono ?_
      rintro e w' ⟨rfl, g, cs, h1, h2, h3⟩
      exact ⟨rfl, g, cs, 0, h1, by omega, (DKept.of hW).trans h3⟩⟩
  obtain ⟨k, hk⟩ : ∃ k, k = l.length := ⟨_, rfl⟩
  rw [← hk] at c2 hl hln HR HF
  have hkI : (k : Int) ≤ 1000 := by omega
  have hk0 : (0 : Int) ≤ (k : Int) := by omega
  clear h hb hl
  by_cases hfull : k = n
  · subst hfull
    clear hln HF
    go_enter Try.func26, Try.ntmps26
    go_wp2_with fail
    go_quiet (fail)
    go_wp2_with fail
    all_goals
      refine (HR.out _ _ (by omega) (below_drewN _ _)).mono ?_
      rintro e w' ⟨rfl, hD⟩
      have HD := keep hD
      clear hD
      go_wp2_with fail
      go_end0
      exact ⟨rfl, HD.out⟩
  · have hlt : (k : Int) < (n : Int) := by omega
    have hne : ((k : Int) == (n : Int)) = false := by simp; omega
    have HD := HF.out (by omega)
    clear hln HF hfull
    go_enter Try.func26, Try.ntmps26
    go_wp2_with fail
    go_quiet (fail)
    go_wp2_with fail
    go_end0
    exact ⟨rfl, HD _⟩

set_option maxHeartbeats 1000000 in
theorem narrow_any (d : Nat) (r : Option Nat) (l : List ByteArray) (w : World) (h : DQ d r l w) :
    Calls Try.prog 29 #[.pointer (some ⟨d, 0, none⟩)] w fun e w' => e = .returned (.tuple #[]) ∧ DTo d r l w w' := by
  have H := keep h
  obtain ⟨o, n, f, hb, hn, _, hln⟩ := h.box
  obtain ⟨c0, _, c2, _⟩ := hb.cells
  have HD : Keep (∀ nq, DTo d r l w (w.drewN nq)) := ⟨fun nq => ⟨r, H.out.below (below_drewN w nq), DKept.of (below_drewN w nq)⟩⟩
  have HR : Keep (∀ (W : World) (T : Int), T = (n : Int) / 2 → 4 < n → l.length ≤ n / 4 → Below w.heap.size w W → Calls Try.prog 37 #[.pointer (some ⟨d, 0, none⟩), .int .i64 T] W fun e w' => e = .returned (.tuple #[]) ∧ DTo d r l w w') :=
    ⟨fun W T hT h4 hl4 hW => by
      obtain rfl : T = ((n / 2 : Nat) : Int) := by rw [hT]; omega
      refine (resize_any d r l (n / 2) W (H.out.below hW) (by omega) (by omega) (by omega)).mono ?_
      rintro e w' ⟨rfl, g, cs, h1, h2, h3⟩
      exact ⟨rfl, some g, h1.dq, (DKept.of hW).trans h3⟩⟩
  obtain ⟨k, hk⟩ : ∃ k, k = l.length := ⟨_, rfl⟩
  rw [← hk] at c2 hln HR
  have hnI : (n : Int) ≤ 1000000 := by omega
  have hn0 : (0 : Int) ≤ (n : Int) := by omega
  clear h hb hk hn
  by_cases h4 : (4 : Int) < (n : Int)
  · have hq4 : Int.tdiv (n : Int) 4 = (n : Int) / 4 := Int.tdiv_eq_ediv_of_nonneg (by omega)
    have hq2 : Int.tdiv (n : Int) 2 = (n : Int) / 2 := Int.tdiv_eq_ediv_of_nonneg (by omega)
    by_cases hk4 : (k : Int) ≤ (n : Int) / 4
    · have HR2 : Keep (∀ (W : World), Below w.heap.size w W → Calls Try.prog 37 #[.pointer (some ⟨d, 0, none⟩), .int .i64 ((n : Int) / 2)] W fun e w' => e = .returned (.tuple #[]) ∧ DTo d r l w w') := ⟨fun W hW => HR.out W _ rfl (by omega) (by omega) hW⟩
      clear HR hln
      go_enter Try.func29, Try.ntmps29
      go_wp2_with fail
      go_quiet (fail)
      go_wp2_with fail
      refine (HR2.out _ (below_drewN _ _)).mono ?_
      rintro e w' ⟨rfl, hD⟩
      have HD := keep hD
      clear hD
      go_wp2_with fail
      go_end0
      exact ⟨rfl, HD.out⟩
    · have hk4' : (n : Int) / 4 < (k : Int) := by omega
      clear HR hln hk4
      go_enter Try.func29, Try.ntmps29
      go_wp2_with fail
      go_quiet (fail)
      go_wp2_with fail
      go_end0
      exact ⟨rfl, HD.out _⟩
  · have h4' : decide ((4 : Int) < (n : Int)) = false := by simpa using h4
    clear HR hln h4
    go_enter Try.func29, Try.ntmps29
    go_wp2_with fail
    go_quiet (fail)
    go_wp2_with fail
    go_end0
    exact ⟨rfl, HD.out _⟩
end Go.Proofs.Ytphjemnmbbeieaa
