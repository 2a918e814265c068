/-
  string(make([]byte, n)): so many bytes 0.
-/
import Derived.Test.YtekonndjanaoaaaDoorKit
import Derived.Test.YtekonndjanaoaaaDoorChecked
import Derived.Laws.MakeOwn
import Derived.Laws.BytesArg
namespace Go.Proofs.YtekonndjanaoaaaDoor
open Go.RowKit

theorem infoByte : (Tryd.prog.info? 5).map (fun i => (i.zero, i.size, i.bytes)) = some (some (.int .u8 0), 1, 1) := by kernel_rfl

/-- So many bytes 0: the row, the text. -/
theorem zeros_of (n : Nat) (hn : n ≤ 2000000) : ∃ (R : Array Value) (Z : ByteArray), Z.size = n ∧
    (∀ W : World, (Instr.makeSlice 38 (.int .i64 (n : Int)) (.int .i64 (n : Int))).run Tryd.prog W = .ok (.slice (some ⟨W.heap.size, 0, none⟩) n n) (W.alloc (.cells R 5))) ∧
    (∀ W : World, (convert 38 9 (.slice (some ⟨W.heap.size, 0, none⟩) n n)).run Tryd.prog (W.alloc (.cells R 5)) = .ok (.string Z) (W.alloc (.cells R 5))) := by
  obtain ⟨i0, hi, hz0, hz1, hz2⟩ := info_parts infoByte
  refine ⟨madeCells (Value.int .u8 0).cells (n * i0.size), strOfNums (List.replicate n 0), by rw [strOfNums_size]; simp, fun W => ?_, fun W => ?_⟩
  · have := run_make (P := Tryd.prog) W 38 5 i0 (.int .u8 0) Tryd.underlying38 hi hz0 .i64 .i64 (n : Int) (n : Int) (by omega) (Int.le_refl _) (by rw [hz2]; omega) (by omega)
    simp only [Int.toNat_natCast] at this
    exact this
  · refine run_convert_bytes_arg (P := Tryd.prog) _ 38 5 Tryd.underlying38 Tryd.underlying5 W.heap.size 0 n n (List.replicate n 0) (by simp) (fun i hi => ?_) 9 Tryd.underlying9
    rw [Nat.zero_add, World.cell?_alloc_new]
    have h1 : (madeCells (Value.int .u8 0).cells (n * i0.size))[i]? = some (.int .u8 0) := by
      rw [hz1, Nat.mul_one]
      unfold madeCells Value.cells
      simp [hi, Nat.mod_one]
    rw [h1]
    simp [List.getD, hi]
end Go.Proofs.YtekonndjanaoaaaDoor
