/-
  What came in, opened: a frame by value, a slice of frames.
-/
import Derived.Test.YtghgahcgbnpidaaFrameE
import Derived.Test.YtghgahcgbnpidaaFrameH
import Derived.Test.YtghgahcgbnpidaaFrameL
import Derived.ProofKit
import Derived.OpenShut
import Derived.ShutString
import Derived.Carry
import Derived.Deep.Slices
import Derived.Deep.Fields
namespace Go.Proofs.Ytghgahcgbnpidaa
open Go.ChangeShapes Go.WideShapes Go.ChangeAt Go.RowKit Go.Joins Go.Deep

theorem fcellsInt : Try.prog.cellsOf 3 = 1 := by kernel_rfl
theorem fcellsStr : Try.prog.cellsOf 9 = 1 := by kernel_rfl
theorem cellsFr : Try.prog.cellsOf 23 = 2 := by kernel_rfl

section
variable {H : Type} {enc : TypeId × Value → H} {w : World}

theorem fr_of_cells {fuel : Nat} {cs : List Value} {x : DataW H × List MemPlace} (h : DataW.trod enc Try.prog w 0 (fun _ => true) true fuel 23 cs = some x) :
    ∃ f : Fr, cs = [.int .i64 f.K, .string f.S] ∧ f.S.size ≤ 9223372036854775807 := by
  obtain ⟨ys, n, _, _, hlen, hyl, hf⟩ := DataW.trod_struct Try.underlying23 h
  rw [cellsFr] at hlen
  match cs, hlen with
  | [c0, c1], _ =>
    match ys, hyl with
    | [y0, y1], _ =>
      have g0 : DataW.trod enc Try.prog w 0 (fun _ => true) true n 3 (([c0, c1].drop 0).take (Try.prog.cellsOf 3)) = some y0 := hf 0 _ rfl
      rw [fcellsInt] at g0
      have g1 : DataW.trod enc Try.prog w 0 (fun _ => true) true n 9 (([c0, c1].drop 1).take (Try.prog.cellsOf 9)) = some y1 := hf 1 _ rfl
      rw [fcellsStr] at g1
      obtain ⟨K, e0, _, w0⟩ := DataW.trod_int Try.underlying3 g0
      obtain ⟨S, e1, _, w1⟩ := DataW.trod_string Try.underlying9 g1
      obtain rfl : c0 = .int .i64 K := by simpa using e0
      obtain rfl : c1 = .string S := by simpa using e1
      exact ⟨⟨K, S⟩, rfl, by unfold maxLen at w1; show S.size ≤ _; omega⟩

theorem frs_of {v : Value} {d : DataW H} {p : List MemPlace} {r : Reach} {b0 : Nat} (h : DataW.Trod enc Try.prog w 0 (fun _ => true) true 38 v d p) (hv : Value.okWide Try.prog w r b0 38 v) :
    ∃ fs : List Fr, FrRow w.heap.size w v fs := by
  obtain ⟨a0, len0, cap0, rfl⟩ := okWide_slice Try.underlying38 hv
  obtain ⟨fuel, hf⟩ := h
  rcases open_slice Try.underlying38 hf with ⟨hcs, _⟩ | ⟨a, len, cap, m, n, D, Pl, hcs, _, hl, hm, hmm, _, hi⟩
  · simp [Value.cells] at hcs
    obtain ⟨rfl, rfl, rfl⟩ := hcs
    exact ⟨[], by simp, by simp, .inl ⟨rfl, _, _, rfl⟩⟩
  · simp [Value.cells] at hcs
    obtain ⟨rfl, rfl, rfl⟩ := hcs
    simp only [if_true] at hmm
    subst hmm
    by_cases h0 : len0 = 0
    · subst h0
      exact ⟨[], by simp, by simp, .inl ⟨rfl, _, _, rfl⟩⟩
    · obtain ⟨b, off, spot⟩ := a
      have each : ∀ i, i < len0 → ∃ f : Fr, (∀ j v, ([.int .i64 f.K, .string f.S] : List Value)[j]? = some v → w.cell? (((⟨b, off, spot⟩ : Addr).add (i * 2)).add j) = some v) ∧ f.S.size ≤ 9223372036854775807 := fun i hlt => by
        obtain ⟨cs', hc, ht⟩ := hi i (by omega)
        rw [cellsFr] at hc
        obtain ⟨a, rfl, hok⟩ := fr_of_cells ht
        obtain ⟨_, _, hat⟩ := World.cells?_some hc
        refine ⟨a, fun j v hj => ?_, hok⟩
        have hjl : j < 2 := by
          have := (List.getElem?_eq_some_iff.1 hj).1
          simpa using this
        rw [hat j hjl, hj]
      have hs : spot = none := by
        obtain ⟨a, ha, _⟩ := each 0 (by omega)
        have := World.cell?_spot (ha 0 _ rfl)
        simpa [Addr.add] using this
      subst hs
      have hb : b < w.heap.size := by
        obtain ⟨a, ha, _⟩ := each 0 (by omega)
        have := World.block_lt_of_cell? w _ (ha 0 _ rfl)
        simpa [Addr.add] using this
      have each' : ∀ i, ∃ f : Fr, i < len0 → (w.cell? ⟨b, off + i * 2, none⟩ = some (.int .i64 f.K) ∧ w.cell? ⟨b, off + i * 2 + 1, none⟩ = some (.string f.S)) ∧ f.S.size ≤ 9223372036854775807 := fun i => by
        by_cases hlt : i < len0
        · obtain ⟨f, ha, hok⟩ := each i hlt
          refine ⟨f, fun _ => ⟨?_, hok⟩⟩
          simp only [add_plain] at ha
          exact ⟨ha 0 _ rfl, ha 1 _ rfl⟩
        · exact ⟨zf, fun h => absurd h hlt⟩
      obtain ⟨fs, hfl, hfs⟩ : ∃ fs : List Fr, fs.length = len0 ∧ ∀ i, i < len0 → fa fs i = Classical.choose (each' i) := by
        refine ⟨(List.range len0).map (fun i => Classical.choose (each' i)), by simp, fun i hi => ?_⟩
        rw [fa_get (by simpa using hi)]
        simp
      refine ⟨fs, by rw [hfl]; unfold maxLen at hm; omega, ?_, .inr ⟨b, off, _, by rw [hfl], hb, by omega, fun i hi => ?_⟩⟩
      · refine fa_all fun i hi => ?_
        rw [hfs i (by omega)]
        exact (Classical.choose_spec (each' i) (by omega)).2
      · rw [hfs i (by omega)]
        exact (Classical.choose_spec (each' i) (by omega)).1

theorem fr_of {v : Value} {d : DataW H} {p : List MemPlace} {r : Reach} {b0 : Nat} (h : DataW.Trod enc Try.prog w 0 (fun _ => true) true 23 v d p) (hv : Value.okWide Try.prog w r b0 23 v) :
    ∃ f : Fr, v = f.agg ∧ f.S.size ≤ 9223372036854775807 := by
  obtain ⟨cs, rfl, _⟩ := okWide_struct Try.underlying23 hv
  obtain ⟨fuel, hf⟩ := h
  obtain ⟨a, hcs, hok⟩ := fr_of_cells hf
  refine ⟨a, ?_, hok⟩
  unfold Fr.agg
  congr 1
  apply Array.toList_inj.1
  exact hcs
end
end Go.Proofs.Ytghgahcgbnpidaa
