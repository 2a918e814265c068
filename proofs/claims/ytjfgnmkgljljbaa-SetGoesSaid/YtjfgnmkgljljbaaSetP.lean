/-
  What a law holds: a set, and the document's row beside it; whether the set has just what the row has.
-/
import Derived.Test.YtjfgnmkgljljbaaSetQ
namespace Go.Proofs.Ytjfgnmkgljljbaa
open Go.RowKit

/-- A row stays where a set is turned. -/
theorem RowAt.turned {B d : Nat} {l0 l : List Int} {w w' : World} {v : Value} (h : RowAt EV B w v l) (hs : SAt d l0 w) (hg : w.grownBy w' (some d)) : RowAt EV B w' v l := by
  refine ⟨h.room, ?_⟩
  obtain ⟨p, T, hb, -, -⟩ := hs.out
  rcases h.out with h | ⟨b, off, cap, h1, h2, h3⟩
  · exact .inl h
  · refine .inr ⟨b, off, cap, h1, h2, fun i x hi => ?_⟩
    have hc := h3 i x hi
    have hbl : b < w.heap.size := World.block_lt_of_cell? w _ hc
    rw [World.cell?_of_block (a := ⟨b, off + i, none⟩) (hg.block b hbl (fun e => ?_))]
    · exact hc
    · injection e with e
      subst e
      rw [cell_of_row w b _ _ _ _ hb] at hc
      generalize off + i = j at hc
      cases j with
      | zero => simp at hc
      | succ k => simp at hc

/-- The set at d has l, the row v has m; all that was there in w is as it was. -/
structure PAt (w : World) (d : Nat) (l : List Int) (v : Value) (m : List Int) (W : World) : Prop where
  s : SAt d l W
  r : RowAt EV W.heap.size W v m
  below : Below w.heap.size w W
  dn : w.heap.size ≤ d
theorem PAt.to {w W W' : World} {d : Nat} {l m : List Int} {v : Value} (h : PAt w d l v m W) (hb : Below W.heap.size W W') : PAt w d l v m W' :=
  ⟨h.s.below hb, (h.r.below hb).mono hb.size, h.below.trans (hb.mono h.below.size), h.dn⟩
theorem PAt.turned {w W W' : World} {d : Nat} {l l' m : List Int} {v : Value} (h : PAt w d l v m W) (hs : SAt d l' W') (hg : W.grownBy W' (some d)) : PAt w d l' v m W' :=
  ⟨hs, (h.r.turned h.s hg).mono hg.size, h.below.trans (grown_below hg h.dn h.below.size), h.dn⟩
theorem PAt.row {w W W' : World} {d : Nat} {l m m' : List Int} {v v' : Value} (h : PAt w d l v m W) (hb : Below W.heap.size W W') (hr : RowAt EV W'.heap.size W' v' m') : PAt w d l v' m' W' :=
  ⟨h.s.below hb, hr, h.below.trans (hb.mono h.below.size), h.dn⟩

theorem PAt.add {w W : World} {d : Nat} {l m : List Int} {v : Value} (h : PAt w d l v m W) (x : Int) (hl : l.length ≤ 1000) :
    Calls Try.prog 11 #[.pointer (some ⟨d, 0, none⟩), EV x] W fun e w' => e = .returned (.bool (!decide (x ∈ l))) ∧ PAt w d (ins lt' x l) v m w' := by
  refine (add_any x h.s (by omega)).mono ?_
  rintro e w' ⟨⟨b, rfl, hb⟩, hs, hg⟩
  refine ⟨?_, h.turned hs hg⟩
  by_cases hx : x ∈ l
  · rw [decide_eq_true hx]; cases b
    · rfl
    · exact absurd hx (hb.1 rfl)
  · rw [decide_eq_false hx, hb.2 hx]; rfl
theorem PAt.del {w W : World} {d : Nat} {l m : List Int} {v : Value} (h : PAt w d l v m W) (x : Int) (hl : l.length ≤ 1000) :
    Calls Try.prog 13 #[.pointer (some ⟨d, 0, none⟩), EV x] W fun e w' => e = .returned (.bool (decide (x ∈ l))) ∧ PAt w d (del lt' x l) v m w' := by
  refine (del_any x h.s (by omega)).mono ?_
  rintro e w' ⟨⟨b, rfl, hb⟩, hs, hg⟩
  refine ⟨?_, h.turned hs hg⟩
  by_cases hx : x ∈ l
  · rw [decide_eq_true hx, hb.2 hx]
  · rw [decide_eq_false hx]; cases b
    · rfl
    · exact absurd (hb.1 rfl) hx
theorem PAt.has {w W : World} {d : Nat} {l m : List Int} {v : Value} (h : PAt w d l v m W) (x : Int) (hl : l.length ≤ 1000) :
    Calls Try.prog 15 #[.pointer (some ⟨d, 0, none⟩), EV x] W fun e w' => e = .returned (.bool (decide (x ∈ l))) ∧ W = w' := has_any x h.s.sv (by omega)
theorem PAt.from {w W : World} {d : Nat} {l m : List Int} {v : Value} (h : PAt w d l v m W) (x : Int) (hl : l.length ≤ 1000) :
    Calls Try.prog 16 #[.pointer (some ⟨d, 0, none⟩), EV x] W fun e w' => e = .returned (.int .i64 ((rank lt' x l : Nat) : Int)) ∧ W = w' := from_any x h.s.sv (by omega)
theorem PAt.radd {w W : World} {d : Nat} {l m : List Int} {v : Value} (h : PAt w d l v m W) (x : Int) (hu : Up lt' m) (hm : m.length ≤ 1000) :
    Calls Try.prog 12 #[v, EV x] W fun e w' => ∃ v', e = .returned v' ∧ PAt w d l v' (ins lt' x m) w' := by
  refine (radd_any x h.r hu hm).mono ?_
  rintro e w' ⟨v', rfl, hr, hb⟩
  exact ⟨v', rfl, h.row hb hr⟩
theorem PAt.rdel {w W : World} {d : Nat} {l m : List Int} {v : Value} (h : PAt w d l v m W) (x : Int) (hm : m.length ≤ 1000) :
    Calls Try.prog 14 #[v, EV x] W fun e w' => ∃ v', e = .returned v' ∧ PAt w d l v' (Proofs.Ytjfgnmkgljljbaa.del lt' x m) w' := by
  refine (rdel_any x h.r hm).mono ?_
  rintro e w' ⟨v', rfl, hr, hb⟩
  exact ⟨v', rfl, h.row hb hr⟩

set_option maxHeartbeats 1000000 in
theorem alike_any {d : Nat} {l : List Int} {v : Value} {w : World} (hs : SAt d l w) (hr : RowAt EV w.heap.size w v l) (hl : l.length ≤ 1000) :
    Calls Try.prog 19 #[.pointer (some ⟨d, 0, none⟩), v] w fun e w' => e = .returned (.bool true) ∧ w = w' := by
  obtain ⟨o, cap, rfl, hf⟩ := hr.form
  have HR := keep hf
  have HLEN := keep (len_any hs.sv)
  have HS := keep hs
  obtain ⟨n, hn⟩ : ∃ n, n = l.length := ⟨_, rfl⟩
  have HN := keep hn
  rw [← hn] at hl HLEN ⊢
  have hnI : (n : Int) ≤ 1000 := by omega
  clear hs hr hf hl hn
  go_enter Try.func19, Try.ntmps19
  go_wp2_with fail
  go_loop [5] (fun iv => ∃ k : Nat, iv = .int .i64 (k : Int) ∧ k ≤ n) (fun iv => n - (intOf iv).toNat)
  case atStart => exact ⟨0, rfl, Nat.zero_le _⟩
  case round =>
    obtain ⟨k, rfl, hk⟩ := hrel
    by_cases hlt : k < n
    · obtain ⟨y, hy⟩ := get_of_lt (l := l) (i := k) (by rw [← HN.out]; exact hlt)
      obtain ⟨b, off, rfl, hb, hc⟩ := HR.out k y hy
      have hcell := hc w (Below.refl _ _)
      have hltI : (k : Int) < (n : Int) := by omega
      have HA := keep (at_in k y HS.out.sv (by have := HN.out; omega) hy)
      clear hy hc hb
      go_wp2_with fail
      refine HA.out.mono ?_
      rintro e w' ⟨rfl, rfl⟩
      go_wp2_with fail
      go_round
      case rel => exact ⟨k + 1, by go_num, by omega⟩
      case measure => simp [intOf]; omega
    · have hkn : n = k := by omega
      subst hkn
      have hdn : decide (n < n) = false := by simp
      clear hlt
      go_wp2_with fail
      refine HLEN.out.mono ?_
      rintro e w' ⟨rfl, rfl⟩
      go_wp2_with fail
      go_ret
      exact ⟨rfl, rfl⟩
end Go.Proofs.Ytjfgnmkgljljbaa
