/-
  Sets: taking.
-/
import Derived.Test.YtjfgnmkgljljbaaSetF
import Derived.Test.YtjfgnmkgljljbaaSetH
namespace Go.Proofs.Ytjfgnmkgljljbaa
open Go.RowKit

theorem del_out {a : Option Addr} {l : List Int} {w : World} (x : Int) (h : SV a l w) (hl : l.length ≤ 1000000) (hx : x ∉ l) :
    Calls Try.prog 13 #[.pointer a, EV x] w fun e w' => e = .returned (.bool false) ∧ w = w' := by
  have HH := keep (has_out x h hl hx)
  clear h hl hx
  go_enter Try.func13, Try.ntmps13
  go_wp2_with fail
  refine HH.out.mono ?_
  rintro e w' ⟨rfl, rfl⟩
  go_wp2_with fail
  go_ret
  exact ⟨rfl, rfl⟩

set_option maxHeartbeats 1000000 in
theorem del_in {d : Nat} {l : List Int} {w : World} (x : Int) (h : SAt d l w) (hl : l.length + 1 ≤ 1000000) (hx : x ∈ l) :
    Calls Try.prog 13 #[.pointer (some ⟨d, 0, none⟩), EV x] w fun e w' => e = .returned (.bool true) ∧ SAt d (del lt' x l) w' ∧ w.grownBy w' (some d) := by
  have HH := keep (has_in x h.sv (by omega) hx)
  have HU := keep (del_up (lt := lt') (x := x) h.up)
  obtain ⟨p, T, hb, ht, hr⟩ := h.out
  have HB := keep hb
  have HW := keep (fun W hW => without_any T x p W hW (by rw [hr]; exact h.up) (by rw [hr]; exact hx) (by rw [hr]; exact hl))
  rw [hr] at HW
  have HT := keep ht
  obtain ⟨c0, -⟩ := hb.cells
  clear h hl hx hb ht hr
  go_enter Try.func13, Try.ntmps13
  go_wp2_with fail
  refine HH.out.mono ?_
  rintro e w' ⟨rfl, rfl⟩
  clear HH
  go_wp2_with fail
  refine (HW.out w HT.out).mono ?_
  rintro e w1 ⟨q, T1, rfl, ht, hr, hb⟩
  have HB1 : Keep (SBox d p w1) := ⟨(hb.block d HB.out.lt).trans HB.out⟩
  have HB2 := keep (HB1.out.set q)
  have HG := keep (grown_trans (grown_of (r := some d) hb) (grown_set w1 d (.pointer q)))
  have HN : Keep (SAt d (del lt' x l) (w1.setCell ⟨d, 0, none⟩ (.pointer q))) := ⟨⟨q, T1, HB2.out, ht.kept (NKept.grown (grown_set w1 d (.pointer q)) HB1.out (by decide)), hr⟩, HU.out⟩
  obtain ⟨e0, e1⟩ := HB1.out.cells
  clear ht hr hb HW HT c0
  go_wp2_with fail
  go_ret
  exact ⟨rfl, HN.out, HG.out⟩

/-- Whatever is there: whether it was, and the row without it. -/
theorem del_any {d : Nat} {l : List Int} {w : World} (x : Int) (h : SAt d l w) (hl : l.length + 1 ≤ 1000000) :
    Calls Try.prog 13 #[.pointer (some ⟨d, 0, none⟩), EV x] w fun e w' => (∃ b, e = .returned (.bool b) ∧ (b = true ↔ x ∈ l)) ∧ SAt d (del lt' x l) w' ∧ w.grownBy w' (some d) := by
  by_cases hx : x ∈ l
  · refine (del_in x h hl hx).mono ?_
    rintro e w' ⟨rfl, h1, h2⟩
    exact ⟨⟨true, rfl, by simp [hx]⟩, h1, h2⟩
  · refine (del_out x h.sv (by omega) hx).mono ?_
    rintro e w' ⟨rfl, rfl⟩
    exact ⟨⟨false, rfl, by simp [hx]⟩, by rw [del_none hlt' hx]; exact h, grown_of (Below.refl _ _)⟩
end Go.Proofs.Ytjfgnmkgljljbaa
