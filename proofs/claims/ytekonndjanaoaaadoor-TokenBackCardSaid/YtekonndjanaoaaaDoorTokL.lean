/-
  The chapter's examples, told by the program.
-/
import Derived.Test.YtekonndjanaoaaaDoorTokX
namespace Go.Proofs.YtekonndjanaoaaaDoor
open Go.RowKit Go.Joins

def ex : List UInt8 := [99, 33, 120, 49, 59]
def exT : List Tok := [⟨1, str [99], 0, 0⟩, ⟨4, str [33], 0, 1⟩, ⟨1, str [120, 49], 0, 2⟩, ⟨4, str [59], 0, 4⟩, ⟨0, str [], 0, 5⟩]
theorem ex_toks : Toks ex 0 exT (5, 0) := by
  refine .step 0 1 _ _ _ (by rfl) (by decide) (by decide) (by decide) ?_
  refine .step 1 2 _ _ _ (by rfl) (by decide) (by decide) (by decide) ?_
  refine .step 2 4 _ _ _ (by rfl) (by decide) (by decide) (by decide) ?_
  refine .step 4 5 _ _ _ (by rfl) (by decide) (by decide) (by decide) ?_
  exact .fin 5 ⟨0, str [], 0, 5⟩ 5 (by rfl) rfl
theorem ex_bad : nxtI [48, 49, 50] 0 = (zt, 0, 3) := by rfl

set_option maxRecDepth 100000 in
set_option maxHeartbeats 4000000 in
theorem live_any (w : World) : Calls Tryd.prog 7 #[] w fun e w' => e = .returned (.bool true) ∧ Below w.heap.size w w' := by
  have HA := keep (all_any ex exT (5, 0) (by decide) ex_toks w)
  have HN := keep (fun w => next_any [48, 49, 50] 0 (by decide) w)
  rw [ex_bad] at HN
  have HW := keep (fun w => word_any [99, 104, 97, 110] w)
  rw [show isW [99, 104, 97, 110] = true by decide] at HW
  have HNM := keep (fun w => isname_any [99] (by decide) w)
  rw [show isName [99] = true by decide] at HNM
  rw [show str ex = ⟨#[99, 33, 120, 49, 59]⟩ from rfl] at HA
  rw [show str [48, 49, 50] = ⟨#[48, 49, 50]⟩ from rfl] at HN
  rw [show str [99, 104, 97, 110] = ⟨#[99, 104, 97, 110]⟩ from rfl] at HW
  rw [show str [99] = ⟨#[99]⟩ from rfl] at HNM
  unfold NxIs at HN
  unfold Tok.agg at HN
  simp only [zt] at HN
  go_enter Tryd.func7, Tryd.ntmps7
  go_wp2_with fail
  refine HA.out.mono ?_
  rintro e w1 ⟨v, rfl, hrow, hb⟩
  have HB1 := keep hb
  have htd : told exT (5, 0) = exT := rfl
  rw [htd] at hrow
  have HROW := keep hrow
  rcases hrow.out with ⟨h0, _⟩ | ⟨b, off, cap, rfl, hbb, hc⟩
  · cases h0
  have HC := keep hc
  have hlen : exT.length = 5 := rfl
  rw [hlen] at HROW ⊢
  clear hrow hb htd hlen hc HA
  go_wp2_with fail
  refine (HN.out _).mono ?_
  rintro e w2 ⟨rfl, hb⟩
  have HB2 := keep (HB1.out.trans (hb.mono HB1.out.size))
  have HW12 := keep hb
  have c1 : w2.cell? ⟨b, off + 1 * 4, none⟩ = some (.int .i64 4) := (hb.cell (p := ⟨b, off + 1 * 4, none⟩) hbb).trans (HC.out 1 _ rfl).1
  have c2 : w2.cell? ⟨b, off + 2 * 4 + 1, none⟩ = some (.string ⟨#[120, 49]⟩) := (hb.cell (p := ⟨b, off + 2 * 4 + 1, none⟩) hbb).trans (HC.out 2 _ rfl).2.1
  have hbl : b < w2.heap.size := by have := hb.size; omega
  clear hb
  go_wp2_with (first
    | (go_at_call 13; refine (HW.out _).mono ?_; rintro e w' ⟨rfl, rfl⟩)
    | (go_at_call 16; refine (HNM.out _).mono ?_; rintro e w' ⟨rfl, rfl⟩))
  go_ret
  exact ⟨rfl, HB2.out.alloc HB2.out.size _⟩
end Go.Proofs.YtekonndjanaoaaaDoor
