/-
  What came in, opened: slices of ints, of texts, of acts.
-/
import Derived.Test.YtjfgnmkgljljbaaSetL
import Derived.Test.YtjfgnmkgljljbaaSetR
import Derived.ProofKit
import Derived.OpenShut
import Derived.ShutString
import Derived.Carry
import Derived.Deep.Slices
import Derived.Deep.Fields
namespace Go.Proofs.Ytjfgnmkgljljbaa
open Go.ChangeShapes Go.WideShapes Go.ChangeAt Go.RowKit Go.Deep

theorem addr_none (g i j : Nat) : (⟨g, i, none⟩ : Addr).add j = ⟨g, i + j, none⟩ := Addr.add_mid g i j
/-- The slice v holds the acts l; its block lies below B. -/
structure AcRow (B : Nat) (w : World) (v : Value) (l : List (Int × Int)) : Prop where
  room : l.length ≤ 9223372036854775807
  out : (l = [] ∧ ∃ o cap, v = .slice o 0 cap) ∨ ∃ b off cap, v = .slice (some ⟨b, off, none⟩) l.length cap ∧ b < B ∧ ∀ i a, l[i]? = some a → w.cell? ⟨b, off + i * 2, none⟩ = some (.int .i64 a.1) ∧ w.cell? ⟨b, off + i * 2 + 1, none⟩ = some (.int .i64 a.2)
theorem AcRow.form {B : Nat} {w : World} {v : Value} {l : List (Int × Int)} (h : AcRow B w v l) : ∃ o cap, v = .slice o l.length cap ∧ ∀ i a, l[i]? = some a → ∃ b off, o = some ⟨b, off, none⟩ ∧ b < B ∧ ∀ W, Below B w W → W.cell? ⟨b, off + i * 2, none⟩ = some (.int .i64 a.1) ∧ W.cell? ⟨b, off + i * 2 + 1, none⟩ = some (.int .i64 a.2) := by
  rcases h.out with ⟨rfl, o, cap, rfl⟩ | ⟨b, off, cap, rfl, hb, hc⟩
  · exact ⟨o, cap, rfl, fun i a hi => by simp at hi⟩
  · exact ⟨_, cap, rfl, fun i a hi => ⟨b, off, rfl, hb, fun W hW => ⟨(hW.cell (p := ⟨b, off + i * 2, none⟩) hb).trans (hc i a hi).1, (hW.cell (p := ⟨b, off + i * 2 + 1, none⟩) hb).trans (hc i a hi).2⟩⟩⟩

theorem cellsInt : Try.prog.cellsOf 3 = 1 := by kernel_rfl
theorem cellsStr : Try.prog.cellsOf 9 = 1 := by kernel_rfl
theorem cellsAc : Try.prog.cellsOf 29 = 2 := by kernel_rfl
/-- A list of what is chosen for each place. -/
theorem chosen {α : Type} {P : Nat → α → Prop} {n : Nat} (h : ∀ i, ∃ x, i < n → P i x) {i : Nat} {x : α} (hi : ((List.range n).map (fun i => Classical.choose (h i)))[i]? = some x) : P i x := by
  have hl := (List.getElem?_eq_some_iff.1 hi).1
  rw [List.length_map, List.length_range] at hl
  rw [List.getElem?_map, List.getElem?_range hl] at hi
  obtain rfl := Option.some.inj hi
  exact Classical.choose_spec (h i) hl

section
variable {H : Type} {enc : TypeId × Value → H} {w : World}

theorem ints_of {v : Value} {d : DataW H} {p : List MemPlace} {r : Reach} {b0 : Nat} (h : DataW.Trod enc Try.prog w 0 (fun _ => true) true 22 v d p) (hv : Value.okWide Try.prog w r b0 22 v) :
    ∃ l : List Int, RowAt EV w.heap.size w v l := by
  obtain ⟨a0, len0, cap0, rfl⟩ := okWide_slice Try.underlying22 hv
  obtain ⟨fuel, hf⟩ := h
  rcases open_slice Try.underlying22 hf with ⟨hcs, _⟩ | ⟨a, len, cap, m, n, D, Pl, hcs, _, hl, hm, hmm, _, hi⟩
  · simp [Value.cells] at hcs
    obtain ⟨rfl, rfl, rfl⟩ := hcs
    exact ⟨[], by simp, .inl ⟨rfl, _, _, rfl⟩⟩
  · simp [Value.cells] at hcs
    obtain ⟨rfl, rfl, rfl⟩ := hcs
    simp only [if_true] at hmm
    subst hmm
    by_cases h0 : len0 = 0
    · subst h0
      exact ⟨[], by simp, .inl ⟨rfl, _, _, rfl⟩⟩
    · obtain ⟨b, off, spot⟩ := a
      have each : ∀ i, i < len0 → ∃ s : Int, w.cell? ((⟨b, off, spot⟩ : Addr).add i) = some (EV s) := fun i hlt => by
        obtain ⟨cs', hc, ht⟩ := hi i (by omega)
        rw [cellsInt, Nat.mul_one] at hc
        obtain ⟨S, e1, _, _⟩ := DataW.trod_int Try.underlying3 ht
        subst e1
        obtain ⟨_, _, hat⟩ := World.cells?_some hc
        have := hat 0 (by omega)
        exact ⟨S, by simpa [Addr.add] using this⟩
      have hs : spot = none := by
        obtain ⟨a, ha⟩ := each 0 (by omega)
        have := World.cell?_spot ha
        simpa [Addr.add] using this
      subst hs
      have hb : b < w.heap.size := by
        obtain ⟨a, ha⟩ := each 0 (by omega)
        have := World.block_lt_of_cell? w _ ha
        simpa [Addr.add] using this
      have each' : ∀ i, ∃ s : Int, i < len0 → w.cell? ⟨b, off + i, none⟩ = some (EV s) := fun i => by
        by_cases hlt : i < len0
        · obtain ⟨f, ha⟩ := each i hlt
          exact ⟨f, fun _ => by rw [addr_none] at ha; exact ha⟩
        · exact ⟨0, fun h => absurd h hlt⟩
      exact ⟨(List.range len0).map (fun i => Classical.choose (each' i)), by simp; unfold maxLen at hm; omega, .inr ⟨b, off, _, by rw [List.length_map, List.length_range], hb, fun i x hi => chosen each' hi⟩⟩

theorem txs_of {v : Value} {d : DataW H} {p : List MemPlace} {r : Reach} {b0 : Nat} (h : DataW.Trod enc Try.prog w 0 (fun _ => true) true 43 v d p) (hv : Value.okWide Try.prog w r b0 43 v) :
    ∃ l : List ByteArray, RowAt Value.string w.heap.size w v l := by
  obtain ⟨a0, len0, cap0, rfl⟩ := okWide_slice Try.underlying43 hv
  obtain ⟨fuel, hf⟩ := h
  rcases open_slice Try.underlying43 hf with ⟨hcs, _⟩ | ⟨a, len, cap, m, n, D, Pl, hcs, _, hl, hm, hmm, _, hi⟩
  · simp [Value.cells] at hcs
    obtain ⟨rfl, rfl, rfl⟩ := hcs
    exact ⟨[], by simp, .inl ⟨rfl, _, _, rfl⟩⟩
  · simp [Value.cells] at hcs
    obtain ⟨rfl, rfl, rfl⟩ := hcs
    simp only [if_true] at hmm
    subst hmm
    by_cases h0 : len0 = 0
    · subst h0
      exact ⟨[], by simp, .inl ⟨rfl, _, _, rfl⟩⟩
    · obtain ⟨b, off, spot⟩ := a
      have each : ∀ i, i < len0 → ∃ s : ByteArray, w.cell? ((⟨b, off, spot⟩ : Addr).add i) = some (.string s) := fun i hlt => by
        obtain ⟨cs', hc, ht⟩ := hi i (by omega)
        rw [cellsStr, Nat.mul_one] at hc
        obtain ⟨S, e1, _, _⟩ := DataW.trod_string Try.underlying9 ht
        subst e1
        obtain ⟨_, _, hat⟩ := World.cells?_some hc
        have := hat 0 (by omega)
        exact ⟨S, by simpa [Addr.add] using this⟩
      have hs : spot = none := by
        obtain ⟨a, ha⟩ := each 0 (by omega)
        have := World.cell?_spot ha
        simpa [Addr.add] using this
      subst hs
      have hb : b < w.heap.size := by
        obtain ⟨a, ha⟩ := each 0 (by omega)
        have := World.block_lt_of_cell? w _ ha
        simpa [Addr.add] using this
      have each' : ∀ i, ∃ s : ByteArray, i < len0 → w.cell? ⟨b, off + i, none⟩ = some (.string s) := fun i => by
        by_cases hlt : i < len0
        · obtain ⟨f, ha⟩ := each i hlt
          exact ⟨f, fun _ => by rw [addr_none] at ha; exact ha⟩
        · exact ⟨⟨#[]⟩, fun h => absurd h hlt⟩
      exact ⟨(List.range len0).map (fun i => Classical.choose (each' i)), by simp; unfold maxLen at hm; omega, .inr ⟨b, off, _, by rw [List.length_map, List.length_range], hb, fun i x hi => chosen each' hi⟩⟩

theorem ac_of_cells {fuel : Nat} {cs : List Value} {x : DataW H × List MemPlace} (h : DataW.trod enc Try.prog w 0 (fun _ => true) true fuel 29 cs = some x) :
    ∃ f : Int × Int, cs = [.int .i64 f.1, .int .i64 f.2] := by
  obtain ⟨ys, n, _, _, hlen, hyl, hf⟩ := DataW.trod_struct Try.underlying29 h
  rw [cellsAc] at hlen
  match cs, hlen with
  | [c0, c1], _ =>
    match ys, hyl with
    | [y0, y1], _ =>
      have g0 : DataW.trod enc Try.prog w 0 (fun _ => true) true n 3 (([c0, c1].drop 0).take (Try.prog.cellsOf 3)) = some y0 := hf 0 _ rfl
      rw [cellsInt] at g0
      have g1 : DataW.trod enc Try.prog w 0 (fun _ => true) true n 3 (([c0, c1].drop 1).take (Try.prog.cellsOf 3)) = some y1 := hf 1 _ rfl
      rw [cellsInt] at g1
      obtain ⟨K, e0, _, w0⟩ := DataW.trod_int Try.underlying3 g0
      obtain ⟨N, e1, _, w1⟩ := DataW.trod_int Try.underlying3 g1
      obtain rfl : c0 = .int .i64 K := by simpa using e0
      obtain rfl : c1 = .int .i64 N := by simpa using e1
      exact ⟨⟨K, N⟩, rfl⟩

theorem acs_of {v : Value} {d : DataW H} {p : List MemPlace} {r : Reach} {b0 : Nat} (h : DataW.Trod enc Try.prog w 0 (fun _ => true) true 23 v d p) (hv : Value.okWide Try.prog w r b0 23 v) :
    ∃ l : List (Int × Int), AcRow w.heap.size w v l := by
  obtain ⟨a0, len0, cap0, rfl⟩ := okWide_slice Try.underlying23 hv
  obtain ⟨fuel, hf⟩ := h
  rcases open_slice Try.underlying23 hf with ⟨hcs, _⟩ | ⟨a, len, cap, m, n, D, Pl, hcs, _, hl, hm, hmm, _, hi⟩
  · simp [Value.cells] at hcs
    obtain ⟨rfl, rfl, rfl⟩ := hcs
    exact ⟨[], by simp, .inl ⟨rfl, _, _, rfl⟩⟩
  · simp [Value.cells] at hcs
    obtain ⟨rfl, rfl, rfl⟩ := hcs
    simp only [if_true] at hmm
    subst hmm
    by_cases h0 : len0 = 0
    · subst h0
      exact ⟨[], by simp, .inl ⟨rfl, _, _, rfl⟩⟩
    · obtain ⟨b, off, spot⟩ := a
      have each : ∀ i, i < len0 → ∃ f : Int × Int, ∀ j v, ([.int .i64 f.1, .int .i64 f.2] : List Value)[j]? = some v → w.cell? (((⟨b, off, spot⟩ : Addr).add (i * 2)).add j) = some v := fun i hlt => by
        obtain ⟨cs', hc, ht⟩ := hi i (by omega)
        rw [cellsAc] at hc
        obtain ⟨a, rfl⟩ := ac_of_cells ht
        obtain ⟨_, _, hat⟩ := World.cells?_some hc
        refine ⟨a, fun j v hj => ?_⟩
        have hjl : j < 2 := by
          have := (List.getElem?_eq_some_iff.1 hj).1
          simpa using this
        rw [hat j hjl, hj]
      have hs : spot = none := by
        obtain ⟨a, ha⟩ := each 0 (by omega)
        have := World.cell?_spot (ha 0 _ rfl)
        simpa [Addr.add] using this
      subst hs
      have hb : b < w.heap.size := by
        obtain ⟨a, ha⟩ := each 0 (by omega)
        have := World.block_lt_of_cell? w _ (ha 0 _ rfl)
        simpa [Addr.add] using this
      have each' : ∀ i, ∃ f : Int × Int, i < len0 → w.cell? ⟨b, off + i * 2, none⟩ = some (.int .i64 f.1) ∧ w.cell? ⟨b, off + i * 2 + 1, none⟩ = some (.int .i64 f.2) := fun i => by
        by_cases hlt : i < len0
        · obtain ⟨f, ha⟩ := each i hlt
          refine ⟨f, fun _ => ?_⟩
          simp only [addr_none] at ha
          exact ⟨ha 0 _ rfl, ha 1 _ rfl⟩
        · exact ⟨(0, 0), fun h => absurd h hlt⟩
      exact ⟨(List.range len0).map (fun i => Classical.choose (each' i)), by simp; unfold maxLen at hm; omega, .inr ⟨b, off, _, by rw [List.length_map, List.length_range], hb, fun i x hi => chosen each' hi⟩⟩
end
end Go.Proofs.Ytjfgnmkgljljbaa
