/-
  Arguments opened: a slice of texts.
-/
import Derived.Test.YtekonndjanaoaaaDoorSetM
import Derived.Test.YtekonndjanaoaaaDoorStr
import Derived.Test.YtekonndjanaoaaaDoorChecked
import Derived.ProofKit
import Derived.OpenShut
import Derived.ShutString
import Derived.Carry
import Derived.Deep.Slices
import Derived.Deep.Fields
namespace Go.Proofs.YtekonndjanaoaaaDoor
open Go.ChangeShapes Go.WideShapes Go.ChangeAt Go.RowKit Go.Deep

theorem addr_mid0 (g i j : Nat) : (⟨g, i, none⟩ : Addr).add j = ⟨g, i + j, none⟩ := Addr.add_mid g i j
theorem cellsText : Tryd.prog.cellsOf 9 = 1 := by kernel_rfl
/-- A list of what is chosen for each place. -/
theorem chosenA {α : Type} {P : Nat → α → Prop} {n : Nat} (h : ∀ i, ∃ x, i < n → P i x) {i : Nat} {x : α} (hi : ((List.range n).map (fun i => Classical.choose (h i)))[i]? = some x) : P i x := by
  have hl := (List.getElem?_eq_some_iff.1 hi).1
  rw [List.length_map, List.length_range] at hl
  rw [List.getElem?_map, List.getElem?_range hl] at hi
  obtain rfl := Option.some.inj hi
  exact Classical.choose_spec (h i) hl

section
variable {H : Type} {enc : TypeId × Value → H} {w : World}

theorem texts_of {v : Value} {d : DataW H} {p : List MemPlace} {r : Reach} {b0 : Nat} (h : DataW.Trod enc Tryd.prog w 0 (fun _ => true) true 43 v d p) (hv : Value.okWide Tryd.prog w r b0 43 v) :
    ∃ l : List ByteArray, RowAt Value.string w.heap.size w v l := by
  obtain ⟨a0, len0, cap0, rfl⟩ := okWide_slice Tryd.underlying43 hv
  obtain ⟨fuel, hf⟩ := h
  rcases open_slice Tryd.underlying43 hf with ⟨hcs, _⟩ | ⟨a, len, cap, m, n, D, Pl, hcs, _, hl, hm, hmm, _, hi⟩
  · simp [Value.cells] at hcs
    obtain ⟨rfl, rfl, rfl⟩ := hcs
    exact ⟨[], by simp, .inl ⟨rfl, _, _, rfl⟩⟩
  · simp [Value.cells] at hcs
    obtain ⟨rfl, rfl, rfl⟩ := hcs
    simp only [if_true] at hmm
    subst hmm
    by_cases h0 : len0 = 0
    · subst h0
      exact ⟨[], by simp, .inl ⟨rfl, _, _, rfl⟩⟩
    · obtain ⟨b, off, spot⟩ := a
      have each : ∀ i, i < len0 → ∃ s : ByteArray, w.cell? ((⟨b, off, spot⟩ : Addr).add i) = some (.string s) := fun i hlt => by
        obtain ⟨cs', hc, ht⟩ := hi i (by omega)
        rw [cellsText, Nat.mul_one] at hc
        obtain ⟨S, e1, _, _⟩ := DataW.trod_string Tryd.underlying9 ht
        subst e1
        obtain ⟨_, _, hat⟩ := World.cells?_some hc
        have := hat 0 (by omega)
        exact ⟨S, by simpa [Addr.add] using this⟩
      have hs : spot = none := by
        obtain ⟨a, ha⟩ := each 0 (by omega)
        have := World.cell?_spot ha
        simpa [Addr.add] using this
      subst hs
      have hb : b < w.heap.size := by
        obtain ⟨a, ha⟩ := each 0 (by omega)
        have := World.block_lt_of_cell? w _ ha
        simpa [Addr.add] using this
      have each' : ∀ i, ∃ s : ByteArray, i < len0 → w.cell? ⟨b, off + i, none⟩ = some (.string s) := fun i => by
        by_cases hlt : i < len0
        · obtain ⟨f, ha⟩ := each i hlt
          exact ⟨f, fun _ => by rw [addr_mid0] at ha; exact ha⟩
        · exact ⟨⟨#[]⟩, fun h => absurd h hlt⟩
      exact ⟨(List.range len0).map (fun i => Classical.choose (each' i)), by simp; unfold maxLen at hm; omega, .inr ⟨b, off, _, by rw [List.length_map, List.length_range], hb, fun i x hi => chosenA each' hi⟩⟩

/-- .. as lists of bytes. -/
theorem lists_of {v : Value} {d : DataW H} {p : List MemPlace} {r : Reach} {b0 : Nat} (h : DataW.Trod enc Tryd.prog w 0 (fun _ => true) true 43 v d p) (hv : Value.okWide Tryd.prog w r b0 43 v) :
    ∃ l : List (List UInt8), RowAt (fun x => Value.string (str x)) w.heap.size w v l := by
  obtain ⟨l, hl⟩ := texts_of h hv
  refine ⟨l.map (fun s => s.data.toList), by rw [List.length_map]; exact hl.room, ?_⟩
  rcases hl.out with ⟨rfl, o, cap, rfl⟩ | ⟨b, off, cap, rfl, hb, hc⟩
  · exact .inl ⟨rfl, _, _, rfl⟩
  · refine .inr ⟨b, off, cap, by rw [List.length_map], hb, fun i x hi => ?_⟩
    rw [List.getElem?_map] at hi
    obtain ⟨s, h1, h2⟩ := Option.map_eq_some_iff.1 hi
    rw [hc i s h1, ← h2, str_eta]
end
end Go.Proofs.YtekonndjanaoaaaDoor
