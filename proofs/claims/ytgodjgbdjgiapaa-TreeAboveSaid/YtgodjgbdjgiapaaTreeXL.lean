/-
  The chapter's example, told by the program.
-/
import Derived.Test.YtgodjgbdjgiapaaTreeVC
import Derived.Test.YtgodjgbdjgiapaaTreeE
import Derived.Test.YtgodjgbdjgiapaaTreeF
import Derived.Test.YtgodjgbdjgiapaaTreeS
namespace Go.Proofs.Ytgodjgbdjgiapaa
open Go.RowKit Go.Joins

def x0 : Nd := ⟨42, ⟨#[]⟩, 0, 1, 0⟩
def x1 : Nd := ⟨41, ⟨#[]⟩, 0, 1, 0⟩
def x2 : Nd := ⟨32, ⟨#[]⟩, 0, 0, 0⟩
def exL : List Nd := [x0, x1, x2]
theorem no_empty : noP ⟨#[]⟩ = true := by unfold noP; rw [ByteArray.toList_eq]; rfl
theorem row0 : rowC 85 x0 = some [68] := by
  have hf : fitsP x0 = true := by
    unfold fitsP nameP
    rw [show isNmd x0.O = false from rfl, if_neg (by simp), show x0.S = ⟨#[]⟩ from rfl, no_empty]; rfl
  unfold rowC; rw [if_pos ⟨rfl, hf⟩]; rfl
theorem row1 : rowC 68 x1 = some [66] := by
  have hf : fitsP x1 = true := by
    unfold fitsP nameP
    rw [show isNmd x1.O = false from rfl, if_neg (by simp), show x1.S = ⟨#[]⟩ from rfl, no_empty]; rfl
  unfold rowC; rw [if_pos ⟨rfl, hf⟩]; rfl
theorem row2 : rowC 66 x2 = some [] := by
  have hf : fitsP x2 = true := by
    unfold fitsP nameP
    rw [show isNmd x2.O = false from rfl, if_neg (by simp), show x2.S = ⟨#[]⟩ from rfl, no_empty]; rfl
  unfold rowC; rw [if_pos ⟨rfl, hf⟩]; rfl
theorem ex_go : goP exL [85] 0 = (3, true) := by
  show go [85] [x0, x1, x2] 0 = (3, true)
  rw [go_yes row0]
  show go [68] [x1, x2] 1 = (3, true)
  rw [go_yes row1]
  show go [66] [x2] 2 = (3, true)
  rw [go_yes row2]
  rfl
theorem ex_check : checkP exL = (0, 0) := by unfold checkP; rw [ex_go]; rfl
theorem ex_go2 : goP (exL.take 2) [85] 0 = (2, false) := by
  show go [85] [x0, x1] 0 = (2, false)
  rw [go_yes row0]
  show go [68] [x1] 1 = (2, false)
  rw [go_yes row1]
  rfl
theorem ex_check2 : checkP (exL.take 2) = (2, 3) := by unfold checkP; rw [ex_go2]; rfl
theorem ex_end : endI exL 0 = 3 := by decide
theorem ex_kid : kidI exL 1 0 = 2 := by decide
theorem ex_up {r : Int} (h : UpIs exL 2 r) : r = 1 := h.uniq (.inr ⟨1, 2, rfl, rfl, by decide⟩)
theorem ex_same : simL exL exL = true := by
  have h : ∀ x : Nd, sim x x = true := fun x => by simp [sim]
  show (sim x0 x0 && (sim x1 x1 && (sim x2 x2 && true))) = true
  rw [h, h, h]; rfl
theorem ex_ok : ∀ x ∈ exL, x.ok := by
  intro x hx
  simp only [exL, List.mem_cons, List.not_mem_nil, or_false] at hx
  rcases hx with rfl | rfl | rfl <;> exact ⟨by decide, by decide, by decide, by decide, by decide, by decide, by decide⟩
theorem ex_row (w : World) : NdRow (w.heap.size + 1) (w.alloc (.cells #[.int .i64 42, .string ⟨#[]⟩, .int .i64 0, .int .i64 1, .int .i64 0, .int .i64 41, .string ⟨#[]⟩, .int .i64 0, .int .i64 1, .int .i64 0, .int .i64 32, .string ⟨#[]⟩, .int .i64 0, .int .i64 0, .int .i64 0] 39)) (.slice (some ⟨w.heap.size, 0, none⟩) 3 3) exL := by
  refine ⟨by decide, ex_ok, .inr ⟨w.heap.size, 0, 3, rfl, by omega, by decide, fun i x hi => ?_⟩⟩
  have h := BoxL.new w [.int .i64 42, .string ⟨#[]⟩, .int .i64 0, .int .i64 1, .int .i64 0, .int .i64 41, .string ⟨#[]⟩, .int .i64 0, .int .i64 1, .int .i64 0, .int .i64 32, .string ⟨#[]⟩, .int .i64 0, .int .i64 0, .int .i64 0] 39
  match i, hi with
  | 0, hi =>
    obtain rfl : x0 = x := by simpa [exL] using hi
    exact ⟨h.row 0 _ rfl, h.row 1 _ rfl, h.row 2 _ rfl, h.row 3 _ rfl, h.row 4 _ rfl⟩
  | 1, hi =>
    obtain rfl : x1 = x := by simpa [exL] using hi
    exact ⟨h.row 5 _ rfl, h.row 6 _ rfl, h.row 7 _ rfl, h.row 8 _ rfl, h.row 9 _ rfl⟩
  | 2, hi =>
    obtain rfl : x2 = x := by simpa [exL] using hi
    exact ⟨h.row 10 _ rfl, h.row 11 _ rfl, h.row 12 _ rfl, h.row 13 _ rfl, h.row 14 _ rfl⟩
  | i + 3, hi => simp [exL] at hi

set_option maxRecDepth 100000 in
set_option maxHeartbeats 4000000 in
theorem live_any (w : World) : Calls Try.prog 7 #[] w fun e w' => e = .returned (.bool true) ∧ Below w.heap.size w w' := by
  have HROW := keep (ex_row w)
  have HB0 : Keep (Below w.heap.size w (w.alloc (.cells #[.int .i64 42, .string ⟨#[]⟩, .int .i64 0, .int .i64 1, .int .i64 0, .int .i64 41, .string ⟨#[]⟩, .int .i64 0, .int .i64 1, .int .i64 0, .int .i64 32, .string ⟨#[]⟩, .int .i64 0, .int .i64 0, .int .i64 0] 39))) := ⟨(Below.refl _ w).alloc (Nat.le_refl _) _⟩
  have hsz : (w.alloc (.cells #[.int .i64 42, .string ⟨#[]⟩, .int .i64 0, .int .i64 1, .int .i64 0, .int .i64 41, .string ⟨#[]⟩, .int .i64 0, .int .i64 1, .int .i64 0, .int .i64 32, .string ⟨#[]⟩, .int .i64 0, .int .i64 0, .int .i64 0] 39)).heap.size = w.heap.size + 1 := by simp
  have HSZ := keep hsz
  have HCK := keep (fun W h => check_any (.slice (some ⟨w.heap.size, 0, none⟩) 3 3) exL (by decide) W h)
  have HC2 := keep (fun W h => check_any (.slice (some ⟨w.heap.size, 0, none⟩) 2 3) (exL.take 2) (by decide) W h)
  have HEN := keep (fun W h => end_any (.slice (some ⟨w.heap.size, 0, none⟩) 3 3) exL 0 (by decide) W h)
  have HKI := keep (fun W h => kid_any (.slice (some ⟨w.heap.size, 0, none⟩) 3 3) exL 1 0 (by decide) (by decide) (by decide) W h)
  have HUP := keep (fun W h => up_any (.slice (some ⟨w.heap.size, 0, none⟩) 3 3) exL 2 (by decide) W h)
  have HSA := keep (fun W h h' => same_any (.slice (some ⟨w.heap.size, 0, none⟩) 3 3) (.slice (some ⟨w.heap.size, 0, none⟩) 3 3) exL exL (by decide) W h h')
  rw [ex_check] at HCK
  rw [ex_check2] at HC2
  rw [ex_end] at HEN
  rw [ex_kid] at HKI
  rw [ex_same] at HSA
  simp only at HCK HC2
  clear hsz
  go_enter Try.func7, Try.ntmps7
  go_wp2_with fail
  generalize w.alloc (.cells #[.int .i64 42, .string ⟨#[]⟩, .int .i64 0, .int .i64 1, .int .i64 0, .int .i64 41, .string ⟨#[]⟩, .int .i64 0, .int .i64 1, .int .i64 0, .int .i64 32, .string ⟨#[]⟩, .int .i64 0, .int .i64 0, .int .i64 0] 39) = w0 at *
  have HR0 : Keep (NdRow w0.heap.size w0 (.slice (some ⟨w.heap.size, 0, none⟩) 3 3) exL) := ⟨by rw [HSZ.out]; exact HROW.out⟩
  refine (HCK.out w0 HR0.out).mono ?_
  rintro e w1 ⟨rfl, hb⟩
  have HR1 := keep (HR0.out.to hb)
  have HB1 := keep (HB0.out.trans (hb.mono HB0.out.size))
  clear hb HCK
  go_wp2_with fail
  refine (HC2.out w1 (HR1.out.take (n := 2) (by decide))).mono ?_
  rintro e w2 ⟨rfl, hb⟩
  have HR2 := keep (HR1.out.to hb)
  have HB2 := keep (HB1.out.trans (hb.mono HB1.out.size))
  clear hb HC2
  go_wp2_with fail
  refine (HEN.out w2 HR2.out).mono ?_
  rintro e w' ⟨rfl, rfl⟩
  clear HEN
  go_wp2_with fail
  refine (HKI.out w2 HR2.out).mono ?_
  rintro e w3 ⟨rfl, hb⟩
  have HR3 := keep (HR2.out.to hb)
  have HB3 := keep (HB2.out.trans (hb.mono HB2.out.size))
  clear hb HKI
  go_wp2_with fail
  refine (HUP.out w3 HR3.out).mono ?_
  rintro e w' ⟨r, rfl, hr, rfl⟩
  obtain rfl := ex_up hr
  clear HUP hr
  go_wp2_with fail
  refine (HSA.out w3 HR3.out HR3.out).mono ?_
  rintro e w4 ⟨rfl, hb⟩
  have HB4 := keep (HB3.out.trans (hb.mono HB3.out.size))
  clear hb HSA
  go_wp2_with fail
  go_ret
  exact ⟨rfl, HB4.out⟩
end Go.Proofs.Ytgodjgbdjgiapaa
