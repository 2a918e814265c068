/-
  A sum as four bytes; Seal and Open.
-/
import Derived.Test.YtghgahcgbnpidaaCrcC
namespace Go.Proofs.Ytghgahcgbnpidaa
open Go.RowKit

def seal4 (c : Int) : ByteArray := ⟨(bytes4 c.toNat).toArray⟩

theorem cells4 (w : World) (x0 x1 x2 x3 : Value) (t : TypeId) (i : Nat) (hi : i < 4) : (w.alloc (.cells #[x0, x1, x2, x3] t)).cell? ⟨w.heap.size, i, none⟩ = some (([x0, x1, x2, x3] : List Value).getD i undef) := by
  rw [World.cell?_alloc_new]
  match i, hi with
  | 0, _ => rfl
  | 1, _ => rfl
  | 2, _ => rfl
  | 3, _ => rfl

theorem str4 (w : World) (x0 x1 x2 x3 : Int) (t : TypeId) : (convert 30 9 (.slice (some ⟨w.heap.size, 0, none⟩) 4 4)).run Try.prog (w.alloc (.cells #[.int .u8 x0, .int .u8 x1, .int .u8 x2, .int .u8 x3] t)) = .ok (.string (strOfNums [x0, x1, x2, x3])) (w.alloc (.cells #[.int .u8 x0, .int .u8 x1, .int .u8 x2, .int .u8 x3] t)) :=
  run_convert_bytes_arg (P := Try.prog) _ 30 5 Try.underlying30 Try.underlying5 w.heap.size 0 4 4 [x0, x1, x2, x3] rfl (fun i hi => by
    rw [Nat.zero_add, cells4 w _ _ _ _ t i hi]
    match i, hi with
    | 0, _ => rfl
    | 1, _ => rfl
    | 2, _ => rfl
    | 3, _ => rfl) 9 Try.underlying9

theorem str4_is {c x0 x1 x2 x3 : Int} (h0 : 0 ≤ c) (e0 : x0 = c % 256) (e1 : x1 = c / 256 % 256) (e2 : x2 = c / 65536 % 256) (e3 : x3 = c / 16777216 % 256) : strOfNums [x0, x1, x2, x3] = seal4 c := by
  have h : ∀ {x : Int} {n : Nat}, x = ((n % 256 : Nat) : Int) → UInt8.ofNat x.toNat = UInt8.ofNat n := by
    intro x n h
    apply UInt8.toNat_inj.1
    rw [h, UInt8.toNat_ofNat', UInt8.toNat_ofNat', Int.toNat_natCast]
    omega
  apply ByteArray.ext
  apply Array.toList_inj.1
  rw [strOfNums_data]
  unfold seal4 bytes4
  simp only [List.map_cons, List.map_nil]
  rw [h (x := x0) (n := c.toNat) (by omega), h (x := x1) (n := c.toNat / 256) (by omega), h (x := x2) (n := c.toNat / 65536) (by omega), h (x := x3) (n := c.toNat / 16777216) (by omega)]

theorem bytes_any (c : Int) (w : World) (h0 : 0 ≤ c) (h1 : c < 4294967296) :
    Calls Try.prog 32 #[.int .u32 c] w fun e w' => e = .returned (.string (seal4 c)) ∧ Below w.heap.size w w' := by
  have hcv := fun x0 x1 x2 x3 => str4 w x0 x1 x2 x3 5
  go_enter Try.func32, Try.ntmps32
  go_wp2_with fail
  go_ret
  exact ⟨ret_str (str4_is h0 (by omega) (by omega) (by omega) (by omega)), (Below.refl _ _).alloc (Nat.le_refl _) _⟩

theorem refBytes_any (c : Int) (w : World) (h0 : 0 ≤ c) (h1 : c < 4294967296) :
    Calls Try.prog 25 #[.int .u32 c] w fun e w' => e = .returned (.string (seal4 c)) ∧ Below w.heap.size w w' := by
  have hcv := fun x0 x1 x2 x3 => str4 w x0 x1 x2 x3 5
  go_enter Try.func25, Try.ntmps25
  go_wp2_with fail
  go_ret
  exact ⟨ret_str (str4_is h0 (by omega) (by omega) (by omega) (by omega)), (Below.refl _ _).alloc (Nat.le_refl _) _⟩
end Go.Proofs.Ytghgahcgbnpidaa
