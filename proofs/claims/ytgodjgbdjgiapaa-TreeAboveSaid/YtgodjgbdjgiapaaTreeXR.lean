/-
  What came in, opened: a slice of nodes.
-/
import Derived.Test.YtgodjgbdjgiapaaTreeA
import Derived.ProofKit
import Derived.OpenShut
import Derived.ShutString
import Derived.Carry
import Derived.Deep.Slices
import Derived.Deep.Fields
namespace Go.Proofs.Ytgodjgbdjgiapaa
open Go.ChangeShapes Go.WideShapes Go.ChangeAt Go.RowKit Go.Joins Go.Deep

theorem ncellsInt : Try.prog.cellsOf 3 = 1 := by kernel_rfl
theorem ncellsStr : Try.prog.cellsOf 9 = 1 := by kernel_rfl
theorem cellsNd : Try.prog.cellsOf 39 = 5 := by kernel_rfl

section
variable {H : Type} {enc : TypeId × Value → H} {w : World}

theorem nd_of_cells {fuel : Nat} {cs : List Value} {x : DataW H × List MemPlace} (h : DataW.trod enc Try.prog w 0 (fun _ => true) true fuel 39 cs = some x) :
    ∃ f : Nd, cs = f.cs ∧ f.ok := by
  obtain ⟨ys, n, _, _, hlen, hyl, hf⟩ := DataW.trod_struct Try.underlying39 h
  rw [cellsNd] at hlen
  match cs, hlen with
  | [c0, c1, c2, c3, c4], _ =>
    match ys, hyl with
    | [y0, y1, y2, y3, y4], _ =>
      have g0 : DataW.trod enc Try.prog w 0 (fun _ => true) true n 3 (([c0, c1, c2, c3, c4].drop 0).take (Try.prog.cellsOf 3)) = some y0 := hf 0 _ rfl
      rw [ncellsInt] at g0
      have g1 : DataW.trod enc Try.prog w 0 (fun _ => true) true n 9 (([c0, c1, c2, c3, c4].drop 1).take (Try.prog.cellsOf 9)) = some y1 := hf 1 _ rfl
      rw [ncellsStr] at g1
      have g2 : DataW.trod enc Try.prog w 0 (fun _ => true) true n 3 (([c0, c1, c2, c3, c4].drop 2).take (Try.prog.cellsOf 3)) = some y2 := hf 2 _ rfl
      rw [ncellsInt] at g2
      have g3 : DataW.trod enc Try.prog w 0 (fun _ => true) true n 3 (([c0, c1, c2, c3, c4].drop 3).take (Try.prog.cellsOf 3)) = some y3 := hf 3 _ rfl
      rw [ncellsInt] at g3
      have g4 : DataW.trod enc Try.prog w 0 (fun _ => true) true n 3 (([c0, c1, c2, c3, c4].drop 4).take (Try.prog.cellsOf 3)) = some y4 := hf 4 _ rfl
      rw [ncellsInt] at g4
      obtain ⟨K0, e0, _, w0⟩ := DataW.trod_int Try.underlying3 g0
      obtain ⟨S, e1, _, w1⟩ := DataW.trod_string Try.underlying9 g1
      obtain ⟨K2, e2, _, w2⟩ := DataW.trod_int Try.underlying3 g2
      obtain ⟨K3, e3, _, w3⟩ := DataW.trod_int Try.underlying3 g3
      obtain ⟨K4, e4, _, w4⟩ := DataW.trod_int Try.underlying3 g4
      obtain rfl : c0 = .int .i64 K0 := by simpa using e0
      obtain rfl : c1 = .string S := by simpa using e1
      obtain rfl : c2 = .int .i64 K2 := by simpa using e2
      obtain rfl : c3 = .int .i64 K3 := by simpa using e3
      obtain rfl : c4 = .int .i64 K4 := by simpa using e4
      have b0 := wf_bounds_i64 w0
      have b2 := wf_bounds_i64 w2
      have b3 := wf_bounds_i64 w3
      exact ⟨⟨K0, S, K2, K3, K4⟩, rfl, ⟨by unfold maxLen at w1; show S.size ≤ _; omega, b0.1, b0.2, b2.1, b2.2, b3.1, b3.2⟩⟩

theorem nds_of {v : Value} {d : DataW H} {p : List MemPlace} {r : Reach} {b0 : Nat} (h : DataW.Trod enc Try.prog w 0 (fun _ => true) true 22 v d p) (hv : Value.okWide Try.prog w r b0 22 v) :
    ∃ l : List Nd, NdRow w.heap.size w v l := by
  obtain ⟨a0, len0, cap0, rfl⟩ := okWide_slice Try.underlying22 hv
  obtain ⟨fuel, hf⟩ := h
  rcases open_slice Try.underlying22 hf with ⟨hcs, _⟩ | ⟨a, len, cap, m, n, D, Pl, hcs, _, hl, hm, hmm, _, hi⟩
  · simp [Value.cells] at hcs
    obtain ⟨rfl, rfl, rfl⟩ := hcs
    exact ⟨[], by simp, by simp, .inl ⟨rfl, _, _, rfl⟩⟩
  · simp [Value.cells] at hcs
    obtain ⟨rfl, rfl, rfl⟩ := hcs
    simp only [if_true] at hmm
    subst hmm
    by_cases h0 : len0 = 0
    · subst h0
      exact ⟨[], by simp, by simp, .inl ⟨rfl, _, _, rfl⟩⟩
    · obtain ⟨b, off, spot⟩ := a
      have each : ∀ i, i < len0 → ∃ f : Nd, (∀ j v, f.cs[j]? = some v → w.cell? (((⟨b, off, spot⟩ : Addr).add (i * 5)).add j) = some v) ∧ f.ok := fun i hlt => by
        obtain ⟨cs', hc, ht⟩ := hi i (by omega)
        rw [cellsNd] at hc
        obtain ⟨a, rfl, hok⟩ := nd_of_cells ht
        obtain ⟨_, _, hat⟩ := World.cells?_some hc
        refine ⟨a, fun j v hj => ?_, hok⟩
        have hjl : j < 5 := (List.getElem?_eq_some_iff.1 hj).1
        rw [hat j hjl, hj]
      have hs : spot = none := by
        obtain ⟨a, ha, _⟩ := each 0 (by omega)
        have := World.cell?_spot (ha 0 _ rfl)
        simpa [Addr.add] using this
      subst hs
      have hb : b < w.heap.size := by
        obtain ⟨a, ha, _⟩ := each 0 (by omega)
        have := World.block_lt_of_cell? w _ (ha 0 _ rfl)
        simpa [Addr.add] using this
      have each' : ∀ i, ∃ f : Nd, i < len0 → NdAt w b (off + i * 5) f ∧ f.ok := fun i => by
        by_cases hlt : i < len0
        · obtain ⟨f, ha, hok⟩ := each i hlt
          refine ⟨f, fun _ => ⟨?_, hok⟩⟩
          simp only [add_plain] at ha
          exact ⟨ha 0 _ rfl, ha 1 _ rfl, ha 2 _ rfl, ha 3 _ rfl, ha 4 _ rfl⟩
        · exact ⟨zn, fun h => absurd h hlt⟩
      refine ⟨(List.range len0).map (fun i => Classical.choose (each' i)), by simp; unfold maxLen at hm; omega, ?_, .inr ⟨b, off, _, by rw [List.length_map, List.length_range], hb, by simp; omega, fun i x hi => ?_⟩⟩
      · intro x hx
        obtain ⟨i, hi, rfl⟩ := List.mem_map.1 hx
        exact (Classical.choose_spec (each' i) (List.mem_range.1 hi)).2
      · have hlt := (List.getElem?_eq_some_iff.1 hi).1
        simp only [List.length_map, List.length_range] at hlt
        rw [List.getElem?_map, List.getElem?_range hlt] at hi
        obtain rfl := Option.some.inj hi
        exact (Classical.choose_spec (each' i) hlt).1
end
end Go.Proofs.Ytgodjgbdjgiapaa
