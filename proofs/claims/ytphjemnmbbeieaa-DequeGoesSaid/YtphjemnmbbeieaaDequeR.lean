/-
  A law's own loop over the deque's function: its end; what its rounds keep.
-/
import Derived.Test.YtphjemnmbbeieaaDequeS
import Derived.Test.YtphjemnmbbeieaaDequeQ
import Derived.RegionIn
namespace Go.Proofs.Ytphjemnmbbeieaa
open Go.RowKit Go.Shelf

/-- The law's end: its answer is stored, what was collected is taken. -/
theorem lawEnd {w W w7 : World} {D B : Nat} (hB : Below w.heap.size w W) (hb : Below W.heap.size W w7) (hr : Boxed w7 B 4 (.bool false)) (hK : W.heap[D]? = some (.deferred (some []))) (hwB : w.heap.size ≤ B) (hD : B < D) (b : Bool) :
    (w7.setCell ⟨B, 0, none⟩ (.bool b)).heap[D]? = some (.deferred (some [])) ∧ ((w7.setCell ⟨B, 0, none⟩ (.bool b)).putObj D (.deferred none)).cell? ⟨B, 0, none⟩ = some (.bool b) ∧ Below w.heap.size w ((w7.setCell ⟨B, 0, none⟩ (.bool b)).putObj D (.deferred none)) := by
  have h1 := (hb.block D (Array.getElem?_eq_some_iff.1 hK).1).trans hK
  have h2 := ((grownBy_setCell' w7 B (.bool b)).block D (Array.getElem?_eq_some_iff.1 h1).1 (fun e => by injection e; omega)).trans h1
  refine ⟨h2, cell_kept (hr.set (.bool b)).cell (grownBy_putObj' _ D (.deferred none)) (fun r e => by cases e; exact ⟨_, h2, rfl⟩), ?_⟩
  exact ((hB.trans (hb.mono hB.size)).setCell (p := ⟨B, 0, none⟩) (by simpa using hwB) _).trans (belowK_b (w := w) (Nat.le_refl _) _ D _ _ (by omega) h2 rfl rfl)

/-- The law's end where two were collected. -/
theorem lawEnd2 {w W w7 : World} {D D2 B : Nat} (hB : Below w.heap.size w W) (hb : Below W.heap.size W w7) (hr : Boxed w7 B 4 (.bool false)) (hK : W.heap[D]? = some (.deferred (some []))) (hK2 : W.heap[D2]? = some (.deferred (some []))) (hwB : w.heap.size ≤ B) (hD : B < D) (hDD : D < D2) (b : Bool) :
    (w7.setCell ⟨B, 0, none⟩ (.bool b)).heap[D2]? = some (.deferred (some [])) ∧ ((w7.setCell ⟨B, 0, none⟩ (.bool b)).putObj D2 (.deferred none)).heap[D]? = some (.deferred (some [])) ∧ (((w7.setCell ⟨B, 0, none⟩ (.bool b)).putObj D2 (.deferred none)).putObj D (.deferred none)).cell? ⟨B, 0, none⟩ = some (.bool b) ∧ Below w.heap.size w (((w7.setCell ⟨B, 0, none⟩ (.bool b)).putObj D2 (.deferred none)).putObj D (.deferred none)) := by
  have hh : ∀ k, W.heap[k]? = some (.deferred (some [])) → B < k → (w7.setCell ⟨B, 0, none⟩ (.bool b)).heap[k]? = some (.deferred (some [])) := fun k h hk => by
    have h1 := (hb.block k (Array.getElem?_eq_some_iff.1 h).1).trans h
    exact ((grownBy_setCell' w7 B (.bool b)).block k (Array.getElem?_eq_some_iff.1 h1).1 (fun e => by injection e; omega)).trans h1
  have h2 := hh D2 hK2 (by omega)
  have h1 : ((w7.setCell ⟨B, 0, none⟩ (.bool b)).putObj D2 (.deferred none)).heap[D]? = some (.deferred (some [])) := (World.putObj_heap_other (by omega)).trans (hh D hK hD)
  refine ⟨h2, h1, cell_kept (cell_kept (hr.set (.bool b)).cell (grownBy_putObj' _ D2 (.deferred none)) (fun r e => by cases e; exact ⟨_, h2, rfl⟩)) (grownBy_putObj' _ D (.deferred none)) (fun r e => by cases e; exact ⟨_, h1, rfl⟩), ?_⟩
  exact (((hB.trans (hb.mono hB.size)).setCell (p := ⟨B, 0, none⟩) (by simpa using hwB) _).trans (belowK_b (w := w) (Nat.le_refl _) _ D2 _ _ (by omega) h2 rfl rfl)).trans (belowK_b (w := w) (Nat.le_refl _) _ D _ _ (by omega) h1 rfl rfl)

theorem func_nil (B : Nat) (W : World) : (binOp .eql 43 (.func (.func 30) #[] #[.pointer (some ⟨B, 0, none⟩)]) .nilFunc).run Try.prog W = .ok (.bool false) W := by kernel_rfl
theorem KpD.refl (d B : Nat) (W : World) : KpD d B W W := fun _ _ _ _ hi hr => ⟨hi, hr⟩
end Go.Proofs.Ytphjemnmbbeieaa
