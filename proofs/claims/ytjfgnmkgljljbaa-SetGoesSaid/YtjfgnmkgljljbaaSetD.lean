/-
  Sets: trees balanced.
-/
import Derived.Test.YtjfgnmkgljljbaaSetB
import Derived.Test.YtjfgnmkgljljbaaSetC
namespace Go.Proofs.Ytjfgnmkgljljbaa
open Go.RowKit

set_option maxHeartbeats 1000000 in
theorem balance_any {pl pr : Option Addr} {L R : BT Int} {w : World} (x : Int) (hl : IsT w pl L) (hr : IsT w pr R) (hn : (L.row ++ x :: R.row).length ≤ 1000000) :
    Calls Try.prog 41 #[.pointer pl, EV x, .pointer pr] w fun e w' => TT w (L.row ++ x :: R.row) e w' := by
  have hn1 : L.row.length + 1 + R.row.length ≤ 1000000 := by simp at hn; omega
  have HWL := keep (weight_any hl (by omega))
  have HWR := keep (weight_any hr (by omega))
  have HTL : Keep (3 * ((L.row.length : Int) + 1) < (R.row.length : Int) + 1 → Calls Try.prog 49 #[.pointer pl, EV x, .pointer pr] w fun e w' => TT w (L.row ++ x :: R.row) e w') := ⟨fun h => by
    cases R with
    | leaf => simp [BT.row] at h; omega
    | node RL v RR =>
      obtain ⟨b, p0, p1, rfl, hb, h0, h1⟩ := hr
      exact turnLeft_any x hl hb h0 h1 hn⟩
  have HTR : Keep (3 * ((R.row.length : Int) + 1) < (L.row.length : Int) + 1 → Calls Try.prog 50 #[.pointer pl, EV x, .pointer pr] w fun e w' => TT w (L.row ++ x :: R.row) e w') := ⟨fun h => by
    cases L with
    | leaf => simp [BT.row] at h; omega
    | node LL v LR =>
      obtain ⟨b, p0, p1, rfl, hb, h0, h1⟩ := hl
      exact turnRight_any x hr hb h0 h1 hn⟩
  have HJ := keep (join_any x hl hr hn)
  obtain ⟨y, hy⟩ : ∃ y : Int, y = (L.row.length : Int) := ⟨_, rfl⟩
  obtain ⟨z, hz⟩ : ∃ z : Int, z = (R.row.length : Int) := ⟨_, rfl⟩
  have hyI : y ≤ 1000000 := by omega
  have hzI : z ≤ 1000000 := by omega
  have hy0 : 0 ≤ y := by omega
  have hz0 : 0 ≤ z := by omega
  rw [← hy, ← hz] at HTL HTR
  rw [← hy] at HWL
  rw [← hz] at HWR
  have hy2 : IntKind.i64.wrap (3 * (y + 1)) = 3 * (y + 1) := by rw [IntKind.wrap_i64]; omega
  have hz2 : IntKind.i64.wrap (3 * (z + 1)) = 3 * (z + 1) := by rw [IntKind.wrap_i64]; omega
  clear hl hr hn hn1 hy hz
  by_cases h1 : 3 * (y + 1) < z + 1
  · have HC := keep (HTL.out h1)
    clear HTL HTR HJ
    go_enter Try.func41, Try.ntmps41
    go_wp2_with fail
    refine HWR.out.mono ?_
    rintro e w' ⟨rfl, rfl⟩
    go_wp2_with fail
    refine HWL.out.mono ?_
    rintro e w' ⟨rfl, rfl⟩
    go_wp2_with fail
    refine HC.out.mono ?_
    rintro e w' ⟨p, T, rfl, h⟩
    have H := keep h
    clear h
    go_wp2_with fail
    go_ret
    exact ⟨_, _, rfl, H.out⟩
  · have h1' : z + 1 ≤ 3 * (y + 1) := by omega
    clear h1 HTL
    by_cases h2 : 3 * (z + 1) < y + 1
    · have HC := keep (HTR.out h2)
      clear HTR HJ
      go_enter Try.func41, Try.ntmps41
      go_wp2_with fail
      refine HWR.out.mono ?_
      rintro e w' ⟨rfl, rfl⟩
      go_wp2_with fail
      refine HWL.out.mono ?_
      rintro e w' ⟨rfl, rfl⟩
      go_wp2_with fail
      refine HWL.out.mono ?_
      rintro e w' ⟨rfl, rfl⟩
      go_wp2_with fail
      refine HWR.out.mono ?_
      rintro e w' ⟨rfl, rfl⟩
      go_wp2_with fail
      refine HC.out.mono ?_
      rintro e w' ⟨p, T, rfl, h⟩
      have H := keep h
      clear h
      go_wp2_with fail
      go_ret
      exact ⟨_, _, rfl, H.out⟩
    · have h2' : y + 1 ≤ 3 * (z + 1) := by omega
      clear h2 HTR
      go_enter Try.func41, Try.ntmps41
      go_wp2_with fail
      refine HWR.out.mono ?_
      rintro e w' ⟨rfl, rfl⟩
      go_wp2_with fail
      refine HWL.out.mono ?_
      rintro e w' ⟨rfl, rfl⟩
      go_wp2_with fail
      refine HWL.out.mono ?_
      rintro e w' ⟨rfl, rfl⟩
      go_wp2_with fail
      refine HWR.out.mono ?_
      rintro e w' ⟨rfl, rfl⟩
      go_wp2_with fail
      refine HJ.out.mono ?_
      rintro e w' ⟨⟨p, rfl, h⟩, hb⟩
      have H := keep h
      have HB := keep hb
      clear h hb
      go_wp2_with fail
      go_ret
      exact ⟨_, _, rfl, H.out, rfl, HB.out⟩
end Go.Proofs.Ytjfgnmkgljljbaa
