/-
  The chapter's example; what Open makes of turned bytes.
-/
import Derived.Test.YtghgahcgbnpidaaCrcF
import Derived.Lib.Strings
namespace Go.Proofs.Ytghgahcgbnpidaa
open Go.RowKit

theorem extract_list (s : ByteArray) (a b : Nat) : (s.extract a b).data.toList = (s.data.toList.drop a).take (b - a) := by
  rw [← Lib.extract_toList, ByteArray.toList_eq]
theorem str_ext {a b : ByteArray} (h : a.data.toList = b.data.toList) : a = b := ByteArray.ext (Array.toList_inj.1 h)

theorem open_sealed (u : ByteArray) : (u.extract (u.size - 4) u.size = seal4 (sumI (u.extract 0 (u.size - 4)))) ↔ isSealed u.data.toList := by
  have hz := size_list u
  have e1 : (u.extract (u.size - 4) u.size).data.toList = u.data.toList.drop (u.data.toList.length - 4) := by
    rw [extract_list, hz]; exact List.take_of_length_le (by simp)
  have e2 : (u.extract 0 (u.size - 4)).data.toList = u.data.toList.take (u.data.toList.length - 4) := by
    rw [extract_list, hz]; simp
  have e3 : (seal4 (sumI (u.extract 0 (u.size - 4)))).data.toList = bytes4 (sumN (u.data.toList.take (u.data.toList.length - 4))) := by
    unfold seal4 sumI; rw [e2, Int.toNat_natCast]
  unfold isSealed
  rw [← e3, ← e1]
  exact ⟨fun h => by rw [h], fun h => str_ext h.symm⟩

theorem open_ok {u : ByteArray} (h : 4 ≤ u.size) (hs : isSealed u.data.toList) : openT u = .tuple #[.string (u.extract 0 (u.size - 4)), .int .i64 0] := by
  unfold openT; rw [if_neg (by omega), if_pos ((open_sealed u).2 hs)]
theorem open_bad {u : ByteArray} (h : 4 ≤ u.size) (hs : ¬ isSealed u.data.toList) : openT u = .tuple #[.string ⟨#[]⟩, .int .i64 4] := by
  unfold openT; rw [if_neg (by omega), if_neg (fun c => hs ((open_sealed u).1 c))]

theorem seal_list (s : ByteArray) : (s ++ seal4 (sumI s)).data.toList = s.data.toList ++ bytes4 (sumN s.data.toList) := by
  rw [cat_data]; unfold seal4 sumI; rw [Int.toNat_natCast]

theorem live_open : openT (⟨#[97, 98]⟩ ++ seal4 (sumI ⟨#[97, 98]⟩)) = .tuple #[.string ⟨#[97, 98]⟩, .int .i64 0] := by
  rw [open_ok (by rw [size_list, seal_list]; decide) (by rw [seal_list]; exact isSealed_seal _)]
  have e : (⟨#[97, 98]⟩ ++ seal4 (sumI ⟨#[97, 98]⟩) : ByteArray).extract 0 ((⟨#[97, 98]⟩ ++ seal4 (sumI ⟨#[97, 98]⟩) : ByteArray).size - 4) = ⟨#[97, 98]⟩ := by
    apply str_ext
    rw [extract_list, size_list, seal_list]
    rfl
  rw [e]
theorem live_bad : openT ⟨#[97, 98, 99, 100]⟩ = .tuple #[.string ⟨#[]⟩, .int .i64 4] := open_bad (by decide) (by unfold isSealed; decide +kernel)
theorem live_sum : sumN [49, 50, 51, 52, 53, 54, 55, 56, 57] = 3421780262 := by decide +kernel

end Go.Proofs.Ytghgahcgbnpidaa
