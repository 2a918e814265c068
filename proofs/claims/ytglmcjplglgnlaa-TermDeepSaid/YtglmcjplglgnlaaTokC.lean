/-
  The program's Word, and the pieces: names, numbers, signs; Name.
-/
import Derived.Test.YtglmcjplglgnlaaTokB
namespace Go.Proofs.Ytglmcjplglgnlaa
open Go.RowKit

theorem bt_at (l : List UInt8) {k : Nat} (h : k < l.length) : bt (str l) k = byteAt l k := by
  have h' : k < (str l).size := by rw [str_size]; exact h
  obtain ⟨b, h1, h2⟩ := drop_bt (str l) h'
  rw [str_data] at h1
  have : l[k]? = some b := by rw [← List.head?_drop, h1]; rfl
  unfold byteAt
  rw [← h2, this]; rfl
theorem at_end (l : List UInt8) {k : Nat} (h : l.length ≤ k) : byteAt l k = -1 := by unfold byteAt; rw [List.getElem?_eq_none h]
theorem at_bd (l : List UInt8) (k : Nat) : -1 ≤ byteAt l k ∧ byteAt l k ≤ 255 := by
  unfold byteAt
  cases l[k]? with
  | none => simp
  | some b => have := b.toNat_lt; simp only [ob]; omega

/-- A piece is told. -/
def PcIs (x : Int × Nat × Int) (e : Ending) : Prop := e = .returned (.tuple #[.int .i64 x.1, .int .i64 (x.2.1 : Int), .int .i64 x.2.2])

end Go.Proofs.Ytglmcjplglgnlaa
