/-
  The chapter's example; what Open makes of turned bytes.
-/
import Derived.Test.YtmkgokmophjfeaaCrcF
import Derived.Lib.Strings
namespace Go.Proofs.Ytmkgokmophjfeaa
open Go.RowKit

theorem extract_list (s : ByteArray) (a b : Nat) : (s.extract a b).data.toList = (s.data.toList.drop a).take (b - a) := by
  rw [← Lib.extract_toList, ByteArray.toList_eq]
theorem str_ext {a b : ByteArray} (h : a.data.toList = b.data.toList) : a = b := ByteArray.ext (Array.toList_inj.1 h)

theorem open_sealed (u : ByteArray) : (u.extract (u.size - 4) u.size = seal4 (sumI (u.extract 0 (u.size - 4)))) ↔ isSealed u.data.toList := by
  have hz := size_list u
  have e1 : (u.extract (u.size - 4) u.size).data.toList = u.data.toList.drop (u.data.toList.length - 4) := by
    rw [extract_list, hz]; exact List.take_of_length_le (by simp)
  have e2 : (u.extract 0 (u.size - 4)).data.toList = u.data.toList.take (u.data.toList.length - 4) := by
    rw [extract_list, hz]; simp
  have e3 : (seal4 (sumI (u.extract 0 (u.size - 4)))).data.toList = bytes4 (sumN (u.data.toList.take (u.data.toList.length - 4))) := by
    unfold seal4 sumI; rw [e2, Int.toNat_natCast]
  unfold isSealed
  rw [← e3, ← e1]
  exact ⟨fun h => by rw [h], fun h => str_ext h.symm⟩

theorem open_ok {u : ByteArray} (h : 4 ≤ u.size) (hs : isSealed u.data.toList) : openT u = .tuple #[.string (u.extract 0 (u.size - 4)), .int .i64 0] := by
  unfold openT; rw [if_neg (by omega), if_pos ((open_sealed u).2 hs)]
theorem open_bad {u : ByteArray} (h : 4 ≤ u.size) (hs : ¬ isSealed u.data.toList) : openT u = .tuple #[.string ⟨#[]⟩, .int .i64 4] := by
  unfold openT; rw [if_neg (by omega), if_neg (fun c => hs ((open_sealed u).1 c))]

theorem seal_list (s : ByteArray) : (s ++ seal4 (sumI s)).data.toList = s.data.toList ++ bytes4 (sumN s.data.toList) := by
  rw [cat_data]; unfold seal4 sumI; rw [Int.toNat_natCast]

theorem live_open : openT (⟨#[97, 98]⟩ ++ seal4 (sumI ⟨#[97, 98]⟩)) = .tuple #[.string ⟨#[97, 98]⟩, .int .i64 0] := by
  rw [open_ok (by rw [size_list, seal_list]; decide) (by rw [seal_list]; exact isSealed_seal _)]
  have e : (⟨#[97, 98]⟩ ++ seal4 (sumI ⟨#[97, 98]⟩) : ByteArray).extract 0 ((⟨#[97, 98]⟩ ++ seal4 (sumI ⟨#[97, 98]⟩) : ByteArray).size - 4) = ⟨#[97, 98]⟩ := by
    apply str_ext
    rw [extract_list, size_list, seal_list]
    rfl
  rw [e]
theorem live_bad : openT ⟨#[97, 98, 99, 100]⟩ = .tuple #[.string ⟨#[]⟩, .int .i64 4] := open_bad (by decide) (by unfold isSealed; decide +kernel)
theorem live_sum : sumN [49, 50, 51, 52, 53, 54, 55, 56, 57] = 3421780262 := by decide +kernel

set_option maxHeartbeats 1000000 in
theorem live_any (w : World) : Calls Try.prog 7 #[] w fun e w' => e = .returned (.bool true) ∧ Below w.heap.size w w' := by
  have LS := fun w => seal_any ⟨#[97, 98]⟩ w (by decide)
  have LO := live_open
  obtain ⟨p, hp⟩ : ∃ p : ByteArray, p = ⟨#[97, 98]⟩ ++ seal4 (sumI ⟨#[97, 98]⟩) := ⟨_, rfl⟩
  have hz : p.size = 6 := by rw [hp, size_list, seal_list]; rfl
  rw [← hp] at LS LO
  have LP := fun w => open_any p w (by omega)
  rw [LO] at LP
  have LB := fun w => open_any ⟨#[97, 98, 99, 100]⟩ w (by decide)
  rw [live_bad] at LB
  have LN : ∀ w, Calls Try.prog 8 #[.string ⟨#[49, 50, 51, 52, 53, 54, 55, 56, 57]⟩] w fun e w' => e = .returned (.int .u32 3421780262) ∧ Below w.heap.size w w' := fun w => (sum_any ⟨#[49, 50, 51, 52, 53, 54, 55, 56, 57]⟩ w (by decide)).mono fun e w' ⟨he, hb⟩ => ⟨by rw [he]; exact ret_int (by rw [live_sum]; rfl), hb⟩
  have HLS := keep LS
  have HLP := keep LP
  have HLB := keep LB
  have HLN := keep LN
  clear LS LO hp hz LP LB LN
  go_enter Try.func7, Try.ntmps7
  go_wp2_with fail
  refine (HLS.out w).mono ?_
  rintro e w1 ⟨rfl, hb⟩
  have HB1 := keep hb
  clear hb
  go_wp2_with fail
  refine (HLP.out _).mono ?_
  rintro e w2 ⟨rfl, hb⟩
  have HB2 := keep (HB1.out.trans (hb.mono HB1.out.size))
  clear hb
  go_wp2_with fail
  refine (HLB.out _).mono ?_
  rintro e w3 ⟨rfl, hb⟩
  have HB3 := keep (HB2.out.trans (hb.mono HB2.out.size))
  clear hb
  go_wp2_with fail
  refine (HLN.out _).mono ?_
  rintro e w4 ⟨rfl, hb⟩
  have HB4 := keep (HB3.out.trans (hb.mono HB3.out.size))
  clear hb
  go_wp2_with fail
  go_ret
  exact ⟨rfl, HB4.out⟩
end Go.Proofs.Ytmkgokmophjfeaa
