/-
  What came in, opened: a slice of parts, a part by value.
-/
import Derived.Test.YtafeahjhdjcimaaWireL
import Derived.ProofKit
import Derived.OpenShut
import Derived.ShutString
import Derived.Carry
import Derived.Deep.Slices
import Derived.Deep.Fields
namespace Go.Proofs.Ytafeahjhdjcimaa
open Go.ChangeShapes Go.WideShapes Go.ChangeAt Go.RowKit Go.Joins Go.Deep

theorem cellsInt : Try.prog.cellsOf 3 = 1 := by kernel_rfl
theorem cellsU : Try.prog.cellsOf 30 = 1 := by kernel_rfl
theorem cellsBool : Try.prog.cellsOf 4 = 1 := by kernel_rfl
theorem cellsStr : Try.prog.cellsOf 9 = 1 := by kernel_rfl
theorem cellsInts : Try.prog.cellsOf 31 = 1 := by kernel_rfl
theorem cellsPart : Try.prog.cellsOf 33 = 6 := by kernel_rfl

section
variable {H : Type} {enc : TypeId × Value → H} {w : World}

theorem ints_of {fuel : Nat} {c : Value} {x : DataW H × List MemPlace} (h : DataW.trod enc Try.prog w 0 (fun _ => true) true fuel 31 [c] = some x) :
    ∃ xs : List Int, IntRow w.heap.size w c xs ∧ ∀ z ∈ xs, -9223372036854775808 ≤ z ∧ z ≤ 9223372036854775807 := by
  rcases open_ints Try.underlying31 Try.underlying3 cellsInt h with ⟨hcs, _⟩ | ⟨a, len, cap, zs, hcs, _, hl, hm, hz, _, hcell, hwz⟩
  · obtain rfl : c = .slice none 0 0 := by simpa using hcs
    exact ⟨[], ⟨by simp, .inl ⟨rfl, _, _, rfl⟩⟩, fun z hz => by cases hz⟩
  · obtain rfl : c = .slice (some a) len cap := by simpa using hcs
    simp only [if_true] at hz
    have hlen : (zs.take len).length = len := by rw [List.length_take]; omega
    refine ⟨zs.take len, ⟨by unfold maxLen at hm; omega, ?_⟩, fun z hz => wf_bounds_i64 (hwz z (List.mem_of_mem_take hz))⟩
    by_cases h0 : len = 0
    · subst h0
      exact .inl ⟨rfl, _, _, rfl⟩
    · have c0 := hcell 0 (by omega)
      have hs := World.cell?_spot c0
      obtain ⟨b, off, spot⟩ := a
      obtain rfl : spot = none := by simpa [Addr.add] using hs
      refine .inr ⟨b, off, cap, by rw [hlen], ?_, fun i hi => ?_⟩
      · have := World.block_lt_of_cell? w _ c0
        simpa [Addr.add] using this
      · rw [hlen] at hi
        have := hcell i (by omega)
        rw [add_plain] at this
        rw [this]
        simp [List.getD, hi]

theorem pt_of_cells {fuel : Nat} {cs : List Value} {x : DataW H × List MemPlace} (h : DataW.trod enc Try.prog w 0 (fun _ => true) true fuel 33 cs = some x) :
    ∃ a : Pt, cs = [.int .i64 a.K, .int .u64 a.U, .int .i64 a.N, .bool a.B, .string a.S, a.v] ∧ PtOk w.heap.size w a := by
  obtain ⟨ys, n, _, _, hlen, hyl, hf⟩ := DataW.trod_struct Try.underlying33 h
  rw [cellsPart] at hlen
  match cs, hlen with
  | [c0, c1, c2, c3, c4, c5], _ =>
    match ys, hyl with
    | [y0, y1, y2, y3, y4, y5], _ =>
      have g0 : DataW.trod enc Try.prog w 0 (fun _ => true) true n 3 (([c0, c1, c2, c3, c4, c5].drop 0).take (Try.prog.cellsOf 3)) = some y0 := hf 0 _ rfl
      rw [cellsInt] at g0
      have g1 : DataW.trod enc Try.prog w 0 (fun _ => true) true n 30 (([c0, c1, c2, c3, c4, c5].drop 1).take (Try.prog.cellsOf 30)) = some y1 := hf 1 _ rfl
      rw [cellsU] at g1
      have g2 : DataW.trod enc Try.prog w 0 (fun _ => true) true n 3 (([c0, c1, c2, c3, c4, c5].drop 2).take (Try.prog.cellsOf 3)) = some y2 := hf 2 _ rfl
      rw [cellsInt] at g2
      have g3 : DataW.trod enc Try.prog w 0 (fun _ => true) true n 4 (([c0, c1, c2, c3, c4, c5].drop 3).take (Try.prog.cellsOf 4)) = some y3 := hf 3 _ rfl
      rw [cellsBool] at g3
      have g4 : DataW.trod enc Try.prog w 0 (fun _ => true) true n 9 (([c0, c1, c2, c3, c4, c5].drop 4).take (Try.prog.cellsOf 9)) = some y4 := hf 4 _ rfl
      rw [cellsStr] at g4
      have g5 : DataW.trod enc Try.prog w 0 (fun _ => true) true n 31 (([c0, c1, c2, c3, c4, c5].drop 5).take (Try.prog.cellsOf 31)) = some y5 := hf 5 _ rfl
      rw [cellsInts] at g5
      obtain ⟨K, e0, _, w0⟩ := DataW.trod_int Try.underlying3 g0
      obtain ⟨U, e1, _, w1⟩ := DataW.trod_int Try.underlying30 g1
      obtain ⟨N, e2, _, w2⟩ := DataW.trod_int Try.underlying3 g2
      obtain ⟨B, e3, _⟩ := DataW.trod_bool Try.underlying4 g3
      obtain ⟨S, e4, _, w4⟩ := DataW.trod_string Try.underlying9 g4
      obtain ⟨xs, hx, hxs⟩ := ints_of (c := c5) g5
      obtain rfl : c0 = .int .i64 K := by simpa using e0
      obtain rfl : c1 = .int .u64 U := by simpa using e1
      obtain rfl : c2 = .int .i64 N := by simpa using e2
      obtain rfl : c3 = .bool B := by simpa using e3
      obtain rfl : c4 = .string S := by simpa using e4
      exact ⟨⟨K, U, N, B, S, c5, xs⟩, rfl, wf_bounds_i64 w0, wf_bounds_u64 w1, wf_bounds_i64 w2, by unfold maxLen at w4; exact w4, hx, hxs⟩

theorem parts_of {v : Value} {d : DataW H} {p : List MemPlace} {r : Reach} {b0 : Nat} (h : DataW.Trod enc Try.prog w 0 (fun _ => true) true 22 v d p) (hv : Value.okWide Try.prog w r b0 22 v) :
    ∃ (n : Nat) (ps : Nat → Pt), Parts w.heap.size w v n ps := by
  obtain ⟨a0, len0, cap0, rfl⟩ := okWide_slice Try.underlying22 hv
  obtain ⟨fuel, hf⟩ := h
  rcases open_slice Try.underlying22 hf with ⟨hcs, _⟩ | ⟨a, len, cap, m, n, D, Pl, hcs, _, hl, hm, hmm, _, hi⟩
  · simp [Value.cells] at hcs
    obtain ⟨rfl, rfl, rfl⟩ := hcs
    exact ⟨0, fun _ => ⟨0, 0, 0, false, ⟨#[]⟩, .slice none 0 0, []⟩, by omega, .inl ⟨rfl, _, _, rfl⟩⟩
  · simp [Value.cells] at hcs
    obtain ⟨rfl, rfl, rfl⟩ := hcs
    simp only [if_true] at hmm
    subst hmm
    by_cases h0 : len0 = 0
    · subst h0
      exact ⟨0, fun _ => ⟨0, 0, 0, false, ⟨#[]⟩, .slice none 0 0, []⟩, by omega, .inl ⟨rfl, _, _, rfl⟩⟩
    · obtain ⟨b, off, spot⟩ := a
      have each : ∀ i, i < len0 → ∃ a : Pt, (∀ j v, ([.int .i64 a.K, .int .u64 a.U, .int .i64 a.N, .bool a.B, .string a.S, a.v] : List Value)[j]? = some v → w.cell? (((⟨b, off, spot⟩ : Addr).add (i * 6)).add j) = some v) ∧ PtOk w.heap.size w a := fun i hlt => by
        obtain ⟨cs', hc, ht⟩ := hi i (by omega)
        rw [cellsPart] at hc
        obtain ⟨a, rfl, hok⟩ := pt_of_cells ht
        obtain ⟨_, _, hat⟩ := World.cells?_some hc
        refine ⟨a, fun j v hj => ?_, hok⟩
        have hjl : j < 6 := by
          have := (List.getElem?_eq_some_iff.1 hj).1
          simpa using this
        rw [hat j hjl, hj]
      have hs : spot = none := by
        obtain ⟨a, ha, _⟩ := each 0 (by omega)
        have := World.cell?_spot (ha 0 _ rfl)
        simpa [Addr.add] using this
      subst hs
      have hb : b < w.heap.size := by
        obtain ⟨a, ha, _⟩ := each 0 (by omega)
        have := World.block_lt_of_cell? w _ (ha 0 _ rfl)
        simpa [Addr.add] using this
      have each' : ∀ i, ∃ a : Pt, i < len0 → PtCells w b off i a ∧ PtOk w.heap.size w a := fun i => by
        by_cases hlt : i < len0
        · obtain ⟨a, ha, hok⟩ := each i hlt
          refine ⟨a, fun _ => ⟨?_, hok⟩⟩
          simp only [add_plain] at ha
          exact ⟨ha 0 _ rfl, ha 1 _ rfl, ha 2 _ rfl, ha 3 _ rfl, ha 4 _ rfl, ha 5 _ rfl⟩
        · exact ⟨⟨0, 0, 0, false, ⟨#[]⟩, .slice none 0 0, []⟩, fun h => absurd h hlt⟩
      exact ⟨len0, fun i => Classical.choose (each' i), by unfold maxLen at hm; omega, .inr ⟨b, off, _, rfl, hb, fun i hlt => Classical.choose_spec (each' i) hlt⟩⟩

theorem part_of {v : Value} {d : DataW H} {p : List MemPlace} {r : Reach} {b0 : Nat} (h : DataW.Trod enc Try.prog w 0 (fun _ => true) true 33 v d p) (hv : Value.okWide Try.prog w r b0 33 v) :
    ∃ a : Pt, v = a.agg ∧ PtOk w.heap.size w a := by
  obtain ⟨cs, rfl, _⟩ := okWide_struct Try.underlying33 hv
  obtain ⟨fuel, hf⟩ := h
  obtain ⟨a, hcs, hok⟩ := pt_of_cells hf
  refine ⟨a, ?_, hok⟩
  unfold Pt.agg
  congr 1
  apply Array.toList_inj.1
  exact hcs
end
end Go.Proofs.Ytafeahjhdjcimaa
