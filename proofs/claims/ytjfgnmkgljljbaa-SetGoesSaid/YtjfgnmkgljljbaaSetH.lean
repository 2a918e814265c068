/-
  Sets: whether a thing is there; adding; the set of things that come one behind the other.
-/
import Derived.Test.YtjfgnmkgljljbaaSetE
import Derived.Test.YtjfgnmkgljljbaaSetG
namespace Go.Proofs.Ytjfgnmkgljljbaa
open Go.RowKit

theorem has_in {a : Option Addr} {l : List Int} {w : World} (x : Int) (h : SV a l w) (hl : l.length ≤ 1000000) (hx : x ∈ l) :
    Calls Try.prog 15 #[.pointer a, EV x] w fun e w' => e = .returned (.bool true) ∧ w = w' := by
  have HF := keep (from_any x h hl)
  have HA := keep (at_in (rank lt' x l) x h hl (rank_get hlt' h.up hx))
  have HC := keep (comp_any x x w)
  generalize rank lt' x l = r at *
  clear h hl hx
  go_enter Try.func15, Try.ntmps15
  go_wp2_with fail
  refine HF.out.mono ?_
  rintro e w' ⟨rfl, rfl⟩
  go_wp2_with fail
  refine HA.out.mono ?_
  rintro e w' ⟨rfl, rfl⟩
  go_wp2_with fail
  refine HC.out.mono ?_
  rintro e w' ⟨⟨n, rfl, hn⟩, rfl⟩
  obtain rfl : n = 0 := by
    rcases hn with ⟨_, h⟩ | ⟨_, h⟩ | ⟨h, _⟩
    · rw [hlt'.irr] at h; cases h
    · rw [hlt'.irr] at h; cases h
    · exact h
  clear hn
  go_wp2_with fail
  go_ret
  exact ⟨rfl, rfl⟩

theorem has_out {a : Option Addr} {l : List Int} {w : World} (x : Int) (h : SV a l w) (hl : l.length ≤ 1000000) (hx : x ∉ l) :
    Calls Try.prog 15 #[.pointer a, EV x] w fun e w' => e = .returned (.bool false) ∧ w = w' := by
  have HF := keep (from_any x h hl)
  cases hg : l[rank lt' x l]? with
  | none =>
    have HA := keep (at_out ((rank lt' x l : Nat) : Int) h (.inr (by have := List.getElem?_eq_none_iff.1 hg; omega)))
    generalize rank lt' x l = r at *
    clear h hl hx hg
    go_enter Try.func15, Try.ntmps15
    go_wp2_with fail
    refine HF.out.mono ?_
    rintro e w' ⟨rfl, rfl⟩
    go_wp2_with fail
    refine HA.out.mono ?_
    rintro e w' ⟨rfl, rfl⟩
    go_wp2_with fail
    go_ret
    exact ⟨rfl, rfl⟩
  | some y =>
    have HNE : Keep (x ≠ y) := ⟨fun e => hx (by rw [e]; exact List.mem_of_getElem? hg)⟩
    have HA := keep (at_in (rank lt' x l) y h hl hg)
    have HC := keep (comp_any x y w)
    generalize rank lt' x l = r at *
    clear h hl hx hg
    go_enter Try.func15, Try.ntmps15
    go_wp2_with fail
    refine HF.out.mono ?_
    rintro e w' ⟨rfl, rfl⟩
    go_wp2_with fail
    refine HA.out.mono ?_
    rintro e w' ⟨rfl, rfl⟩
    go_wp2_with fail
    refine HC.out.mono ?_
    rintro e w' ⟨⟨n, rfl, hn⟩, rfl⟩
    have hn0 : (n == 0) = false := by
      rcases hn with ⟨h, _⟩ | ⟨h, _⟩ | ⟨_, h⟩
      · simp; omega
      · simp; omega
      · exact absurd h HNE.out
    clear hn
    go_wp2_with fail
    go_ret
    exact ⟨rfl, rfl⟩

/-! ### Adding -/
theorem add_nil (x : Int) (w : World) :
    Calls Try.prog 11 #[.pointer none, EV x] w fun e w' => e = .returned (.bool false) ∧ w = w' := by
  go_enter Try.func11, Try.ntmps11
  go_wp2_with fail
  go_ret
  exact ⟨rfl, rfl⟩
theorem add_in {d : Nat} {l : List Int} {w : World} (x : Int) (h : SAt d l w) (hl : l.length ≤ 1000000) (hx : x ∈ l) :
    Calls Try.prog 11 #[.pointer (some ⟨d, 0, none⟩), EV x] w fun e w' => e = .returned (.bool false) ∧ w = w' := by
  have HH := keep (has_in x h.sv hl hx)
  clear h hl hx
  go_enter Try.func11, Try.ntmps11
  go_wp2_with fail
  refine HH.out.mono ?_
  rintro e w' ⟨rfl, rfl⟩
  go_wp2_with fail
  go_ret
  exact ⟨rfl, rfl⟩

set_option maxHeartbeats 1000000 in
theorem add_new {d : Nat} {l : List Int} {w : World} (x : Int) (h : SAt d l w) (hl : l.length + 1 ≤ 1000000) (hx : x ∉ l) :
    Calls Try.prog 11 #[.pointer (some ⟨d, 0, none⟩), EV x] w fun e w' => e = .returned (.bool true) ∧ SAt d (ins lt' x l) w' ∧ w.grownBy w' (some d) := by
  have HH := keep (has_out x h.sv (by omega) hx)
  have HU := keep (ins_up hlt' (x := x) h.up)
  obtain ⟨p, T, hb, ht, hr⟩ := h.out
  have HB := keep hb
  have HW := keep (fun W hW => with_any T x p W hW (by rw [hr]; exact h.up) (by rw [hr]; exact hx) (by rw [hr]; exact hl))
  rw [hr] at HW
  have HT := keep ht
  obtain ⟨c0, -⟩ := hb.cells
  clear h hl hx hb ht hr
  go_enter Try.func11, Try.ntmps11
  go_wp2_with fail
  refine HH.out.mono ?_
  rintro e w' ⟨rfl, rfl⟩
  clear HH
  go_wp2_with fail
  refine (HW.out w HT.out).mono ?_
  rintro e w1 ⟨q, T1, rfl, ht, hr, hb⟩
  have HB1 : Keep (SBox d p w1) := ⟨(hb.block d HB.out.lt).trans HB.out⟩
  have HB2 := keep (HB1.out.set q)
  have HG := keep (grown_trans (grown_of (r := some d) hb) (grown_set w1 d (.pointer q)))
  have HN : Keep (SAt d (ins lt' x l) (w1.setCell ⟨d, 0, none⟩ (.pointer q))) := ⟨⟨q, T1, HB2.out, ht.kept (NKept.grown (grown_set w1 d (.pointer q)) HB1.out (by decide)), hr⟩, HU.out⟩
  obtain ⟨e0, e1⟩ := HB1.out.cells
  clear ht hr hb HW HT c0
  go_wp2_with fail
  go_ret
  exact ⟨rfl, HN.out, HG.out⟩

/-- Whatever is there: whether it was not, and the row with it. -/
theorem add_any {d : Nat} {l : List Int} {w : World} (x : Int) (h : SAt d l w) (hl : l.length + 1 ≤ 1000000) :
    Calls Try.prog 11 #[.pointer (some ⟨d, 0, none⟩), EV x] w fun e w' => (∃ b, e = .returned (.bool b) ∧ (b = true ↔ x ∉ l)) ∧ SAt d (ins lt' x l) w' ∧ w.grownBy w' (some d) := by
  by_cases hx : x ∈ l
  · refine (add_in x h (by omega) hx).mono ?_
    rintro e w' ⟨rfl, rfl⟩
    exact ⟨⟨false, rfl, by simp [hx]⟩, by rw [ins_same hlt' h.up hx]; exact h, grown_of (Below.refl _ _)⟩
  · refine (add_new x h hl hx).mono ?_
    rintro e w' ⟨rfl, h1, h2⟩
    exact ⟨⟨true, rfl, by simp [hx]⟩, h1, h2⟩

/-! ### The set of things -/
set_option maxHeartbeats 1000000 in
theorem of_any {v : Value} {xs : List Int} {w : World} (h : RowAt EV w.heap.size w v xs) (hn : xs.length ≤ 1000) :
    Calls Try.prog 8 #[v] w fun e w' => (∃ d, e = .returned (.pointer (some ⟨d, 0, none⟩)) ∧ w.heap.size ≤ d ∧ SAt d (rowOf lt' xs) w') ∧ Below w.heap.size w w' := by
  obtain ⟨o, cap, rfl, hr⟩ := h.form
  have HR := keep hr
  have hnI : (xs.length : Int) ≤ 1000 := by omega
  have HN := keep hn
  obtain ⟨d, hd⟩ : ∃ d, d = w.heap.size := ⟨_, rfl⟩
  have H0 : Keep (SAt d (rowOf lt' (xs.take 0)) (w.alloc (.cells #[.pointer none] 52)) ∧ Below w.heap.size w (w.alloc (.cells #[.pointer none] 52))) := ⟨by rw [hd]; exact SAt.new w, (Below.refl _ w).alloc (Nat.le_refl _) _⟩
  have HD := keep hd
  obtain ⟨n, hxn⟩ : ∃ n, n = xs.length := ⟨_, rfl⟩
  have HX := keep hxn
  rw [← hxn] at hnI ⊢
  clear h hr hn hd hxn
  go_enter Try.func8, Try.ntmps8
  go_wp2_with fail
  rw [← HD.out]
  go_loopw [9] (fun iv wr => ∃ k : Nat, iv = .int .i64 (k : Int) ∧ k ≤ n ∧ Keep (SAt d (rowOf lt' (xs.take k)) wr ∧ Below w.heap.size w wr)) (fun iv _ => n - (intOf iv).toNat)
  case atStart => exact ⟨0, rfl, Nat.zero_le _, H0⟩
  case round =>
    obtain ⟨k, rfl, hk, HK⟩ := hrel
    clear H0
    by_cases hlt : k < n
    · obtain ⟨x, hx⟩ := get_of_lt (l := xs) (i := k) (by rw [← HX.out]; exact hlt)
      obtain ⟨b, off, rfl, hb, hc⟩ := HR.out k x hx
      have hcell := hc wr HK.out.2
      have HTK := keep (take_snoc hx)
      have hltI : (k : Int) < (n : Int) := by omega
      have HADD := keep (add_any x HK.out.1 (by have := rowOf_length (lt := lt') (xs.take k); rw [List.length_take] at this; have := HN.out; omega))
      rw [← rowOf_snoc, ← HTK.out] at HADD
      clear hx hc hb
      go_wp2_with fail
      refine HADD.out.mono ?_
      rintro e w1 ⟨⟨b, rfl, -⟩, hs, hg⟩
      have HS := keep hs
      have HB := keep (HK.out.2.trans (grown_below hg (by rw [HD.out]; exact Nat.le_refl _) HK.out.2.size))
      clear hs hg hcell HADD
      go_wp2_with fail
      go_roundw
      case rel => exact ⟨k + 1, by go_num, by omega, ⟨HS.out, HB.out⟩⟩
      case measure => simp [intOf]; omega
    · have hkn : n = k := by omega
      subst hkn
      have HE : Keep (SAt d (rowOf lt' xs) wr) := ⟨by have := HK.out.1; rw [List.take_of_length_le (by rw [← HX.out]; exact Nat.le_refl _)] at this; exact this⟩
      have hdn : decide (n < n) = false := by simp
      clear hlt
      go_wp2_with fail
      go_ret
      exact ⟨⟨d, rfl, by rw [HD.out]; exact Nat.le_refl _, HE.out⟩, HK.out.2⟩
end Go.Proofs.Ytjfgnmkgljljbaa
