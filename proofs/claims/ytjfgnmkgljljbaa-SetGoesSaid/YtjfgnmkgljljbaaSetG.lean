/-
  Sets in memory: the tree of a set; its length; the place of the first thing that is not below one; the thing at a place; whether one is there.
-/
import Derived.Test.YtjfgnmkgljljbaaSetA
namespace Go.Proofs.Ytjfgnmkgljljbaa
open Go.RowKit

/-- How many things a tree counts. -/
def cnt (W : World) (v : Value) : Nat := match v with
  | .pointer (some a) => (match W.cell? ⟨a.block, 3, none⟩ with
    | some (.int _ k) => k.toNat
    | _ => 0)
  | _ => 0
theorem cnt_eq {W : World} {p : Option Addr} {T : BT Int} (h : IsT W p T) : cnt W (.pointer p) = T.row.length := by
  cases T with
  | leaf => obtain rfl : p = none := h; rfl
  | node L v R =>
    obtain ⟨b, p0, p1, rfl, hb, -, -⟩ := h
    obtain ⟨-, -, -, c3⟩ := hb.cells
    simp only [cnt, c3, BT.row, List.length_append, List.length_cons]
    omega

/-- The set's struct at block d. -/
def SBox (d : Nat) (p : Option Addr) (w : World) : Prop := w.heap[d]? = some (.cells #[.pointer p] 52 (0, 0))
theorem SBox.cells {d : Nat} {p : Option Addr} {w : World} (h : SBox d p w) : w.cell? ⟨d, 0, none⟩ = some (.pointer p) ∧ w.frozen? ⟨d, 0, none⟩ = false := by
  unfold SBox at h
  exact ⟨by rw [cell_of_row w d _ _ _ _ h]; rfl, frozen_of_row w d 0 _ _ h⟩
theorem SBox.lt {d : Nat} {p : Option Addr} {w : World} (h : SBox d p w) : d < w.heap.size := (Array.getElem?_eq_some_iff.1 h).1
theorem SBox.set {d : Nat} {p : Option Addr} {w : World} (h : SBox d p w) (q : Option Addr) : SBox d q (w.setCell ⟨d, 0, none⟩ (.pointer q)) := heap_setCell_same w d 0 _ _ _ h
/-- The set at block d has the things l. -/
structure SAt (d : Nat) (l : List Int) (w : World) : Prop where
  out : ∃ p T, SBox d p w ∧ IsT w p T ∧ T.row = l
  up : Up lt' l
theorem SAt.lt {d : Nat} {l : List Int} {w : World} (h : SAt d l w) : d < w.heap.size := by obtain ⟨p, T, hb, _⟩ := h.out; exact hb.lt
theorem SAt.below {d : Nat} {l : List Int} {w w' : World} (h : SAt d l w) (hb : Below w.heap.size w w') : SAt d l w' := by
  obtain ⟨p, T, h1, h2, h3⟩ := h.out
  exact ⟨⟨p, T, (hb.block d h1.lt).trans h1, h2.below hb, h3⟩, h.up⟩
theorem SAt.new (w : World) : SAt w.heap.size [] (w.alloc (.cells #[.pointer none] 52)) :=
  ⟨⟨none, .leaf, heap_alloc_new w _, rfl, rfl⟩, List.Pairwise.nil⟩
/-- What a points to, nil or a set, has the things l. -/
def SV (a : Option Addr) (l : List Int) (w : World) : Prop := (a = none ∧ l = []) ∨ ∃ d, a = some ⟨d, 0, none⟩ ∧ SAt d l w
theorem SAt.sv {d : Nat} {l : List Int} {w : World} (h : SAt d l w) : SV (some ⟨d, 0, none⟩) l w := .inr ⟨d, rfl, h⟩
theorem SV.nil (w : World) : SV none [] w := .inl ⟨rfl, rfl⟩
theorem SV.up {a : Option Addr} {l : List Int} {w : World} (h : SV a l w) : Up lt' l := by
  rcases h with ⟨_, rfl⟩ | ⟨d, _, h⟩
  · exact List.Pairwise.nil
  · exact h.up

/-- The tree of a set is answered. -/
def TreeIs (l : List Int) (w : World) (e : Ending) : Prop := ∃ p T, e = .returned (.pointer p) ∧ IsT w p T ∧ T.row = l
theorem tree_any {a : Option Addr} {l : List Int} {w : World} (h : SV a l w) :
    Calls Try.prog 30 #[.pointer a] w fun e w' => TreeIs l w e ∧ w = w' := by
  rcases h with ⟨rfl, rfl⟩ | ⟨d, rfl, h⟩
  · go_enter Try.func30, Try.ntmps30
    go_wp2
    go_ret
    exact ⟨⟨none, .leaf, rfl, rfl, rfl⟩, rfl⟩
  · obtain ⟨p, T, hb, ht, hr⟩ := h.out
    obtain ⟨c0, -⟩ := hb.cells
    have HT : Keep (TreeIs l w (.returned (.pointer p))) := ⟨⟨p, T, rfl, ht, hr⟩⟩
    clear h hb ht hr
    go_enter Try.func30, Try.ntmps30
    go_wp2
    go_ret
    exact ⟨HT.out, rfl⟩

theorem len_any {a : Option Addr} {l : List Int} {w : World} (h : SV a l w) :
    Calls Try.prog 21 #[.pointer a] w fun e w' => e = .returned (.int .i64 (l.length : Int)) ∧ w = w' := by
  have HT := keep (tree_any h)
  clear h
  go_enter Try.func21, Try.ntmps21
  go_wp2_with fail
  refine HT.out.mono ?_
  rintro e w' ⟨⟨p, T, rfl, ht, hr⟩, rfl⟩
  have HS := keep (size_any ht)
  rw [hr] at HS
  clear HT ht hr
  go_wp2_with fail
  refine HS.out.mono ?_
  rintro e w' ⟨rfl, rfl⟩
  go_wp2_with fail
  go_ret
  exact ⟨rfl, rfl⟩

set_option maxHeartbeats 1000000 in
theorem from_any {a : Option Addr} {l : List Int} {w : World} (x : Int) (h : SV a l w) (hl : l.length ≤ 1000000) :
    Calls Try.prog 16 #[.pointer a, EV x] w fun e w' => e = .returned (.int .i64 ((rank lt' x l : Nat) : Int)) ∧ w = w' := by
  have HT := keep (tree_any h)
  have HU := keep h.up
  have HN := keep hl
  clear h hl
  go_enter Try.func16, Try.ntmps16
  go_wp2_with fail
  refine HT.out.mono ?_
  rintro e w' ⟨⟨p, T, rfl, ht, hr⟩, rfl⟩
  have H0 : Keep (IsT w p T ∧ Up lt' T.row ∧ 0 + rank lt' x T.row = rank lt' x l ∧ 0 + T.row.length ≤ 1000000) := ⟨by rw [hr]; exact ⟨ht, HU.out, by omega, by have := HN.out; omega⟩⟩
  clear HT ht hr
  go_wp2_with fail
  go_loop [5, 6] (fun kv v => ∃ (k : Nat) (q : Option Addr) (T' : BT Int), kv = .int .i64 (k : Int) ∧ v = .pointer q ∧ Keep (IsT w q T' ∧ Up lt' T'.row ∧ k + rank lt' x T'.row = rank lt' x l ∧ k + T'.row.length ≤ 1000000)) (fun _ v => cnt w v)
  case atStart => exact ⟨0, p, T, rfl, rfl, H0⟩
  case round =>
    obtain ⟨k, q, T', rfl, rfl, HK⟩ := hrel
    have HC := keep (cnt_eq HK.out.1)
    clear H0
    cases T' with
    | leaf =>
      obtain rfl : q = none := HK.out.1
      have HE : Keep ((k : Int) = ((rank lt' x l : Nat) : Int)) := ⟨by have := HK.out.2.2.1; simp [BT.row, rank] at this; rw [rank, ← this]⟩
      go_wp2_with fail
      go_ret
      exact ⟨ret_int HE.out, rfl⟩
    | node L v R =>
      obtain ⟨b, p0, p1, rfl, hb, h0, h1⟩ := HK.out.1
      obtain ⟨c0, c1, c2, -⟩ := hb.cells
      have HLESS := keep (less_any v x w)
      have HSZ := keep (size_any h0)
      have H0 := keep h0
      have H1 := keep h1
      have HC0 := keep (cnt_eq h0)
      have HC1 := keep (cnt_eq h1)
      have HM : Keep (cnt w (.pointer p0) < cnt w (.pointer (some ⟨b, 0, none⟩)) ∧ cnt w (.pointer p1) < cnt w (.pointer (some ⟨b, 0, none⟩))) := ⟨by rw [HC.out, HC0.out, HC1.out]; simp [BT.row]; omega⟩
      have HB : Keep (k + (L.row.length + 1 + R.row.length) ≤ 1000000) := ⟨by have := HK.out.2.2.2; simp [BT.row] at this; omega⟩
      clear hb h0 h1 HC0 HC1
      cases hvx : lt' v x
      · have HR := keep (rank_left hlt' (a := L.row) (b := R.row) HK.out.2.1 hvx)
        rw [hvx] at HLESS
        go_wp2_with fail
        refine HLESS.out.mono ?_
        rintro e w' ⟨rfl, rfl⟩
        clear HLESS HSZ
        go_wp2_with fail
        go_round
        case rel => exact ⟨k, p0, L, rfl, rfl, ⟨H0.out, (HK.out.2.1.mid (a := L.row)).2.2.1, by rw [← HR.out]; exact HK.out.2.2.1, by have := HB.out; omega⟩⟩
        case measure => exact HM.out.1
      · have HR := keep (rank_right hlt' (a := L.row) (b := R.row) HK.out.2.1 hvx)
        rw [hvx] at HLESS
        obtain ⟨m, hm⟩ : ∃ m, m = L.row.length := ⟨_, rfl⟩
        have HMM := keep hm
        rw [← hm] at HSZ
        have hmI : (m : Int) ≤ 1000000 := by have := HB.out; omega
        have hkI : (k : Int) ≤ 1000000 := by have := HB.out; omega
        have hm0 : (0 : Int) ≤ (m : Int) := by omega
        have hk0 : (0 : Int) ≤ (k : Int) := by omega
        clear hm
        go_wp2_with fail
        refine HLESS.out.mono ?_
        rintro e w' ⟨rfl, rfl⟩
        clear HLESS
        go_wp2_with fail
        refine HSZ.out.mono ?_
        rintro e w' ⟨rfl, rfl⟩
        clear HSZ
        go_wp2_with fail
        go_round
        case rel => exact ⟨k + (m + 1), p1, R, by go_num, rfl, ⟨H1.out, (HK.out.2.1.mid (a := L.row)).2.2.2, by have h1 := HK.out.2.2.1; have h2 := HR.out; have h3 := HMM.out; rw [BT.row] at h1; omega, by have := HB.out; have := HMM.out; omega⟩⟩
        case measure => exact HM.out.2

theorem at_out {a : Option Addr} {l : List Int} {w : World} (i : Int) (h : SV a l w) (hi : i < 0 ∨ (l.length : Int) ≤ i) :
    Calls Try.prog 18 #[.pointer a, .int .i64 i] w fun e w' => e = .returned (.tuple #[EV 0, .bool false]) ∧ w = w' := by
  have HT := keep (tree_any h)
  clear h
  rcases Int.lt_or_le i 0 with h0 | h0
  · clear hi
    go_enter Try.func18, Try.ntmps18
    go_wp2_with fail
    refine HT.out.mono ?_
    rintro e w' ⟨⟨p, T, rfl, ht, hr⟩, rfl⟩
    clear HT ht hr
    go_wp2_with fail
    go_ret2
    exact ⟨rfl, rfl⟩
  · have h1 : (l.length : Int) ≤ i := by omega
    have h0' : decide (i < 0) = false := by simpa using h0
    clear hi
    go_enter Try.func18, Try.ntmps18
    go_wp2_with fail
    refine HT.out.mono ?_
    rintro e w' ⟨⟨p, T, rfl, ht, hr⟩, rfl⟩
    have HS := keep (size_any ht)
    rw [hr] at HS
    clear HT ht hr
    go_wp2_with fail
    refine HS.out.mono ?_
    rintro e w' ⟨rfl, rfl⟩
    go_wp2_with fail
    go_ret2
    exact ⟨rfl, rfl⟩

set_option maxHeartbeats 1000000 in
theorem at_in {a : Option Addr} {l : List Int} {w : World} (i : Nat) (y : Int) (h : SV a l w) (hl : l.length ≤ 1000000) (hi : l[i]? = some y) :
    Calls Try.prog 18 #[.pointer a, .int .i64 (i : Int)] w fun e w' => e = .returned (.tuple #[EV y, .bool true]) ∧ w = w' := by
  have HT := keep (tree_any h)
  have hil : i < l.length := (List.getElem?_eq_some_iff.1 hi).1
  have hilI : (i : Int) < (l.length : Int) := by omega
  have HI := keep hi
  have HN := keep hl
  have h0' : decide ((i : Int) < 0) = false := by simp
  have h1' : decide (l.length ≤ i) = false := by simpa using hil
  clear h hi hl hil
  go_enter Try.func18, Try.ntmps18
  go_wp2_with fail
  refine HT.out.mono ?_
  rintro e w' ⟨⟨p, T, rfl, ht, hr⟩, rfl⟩
  have HS := keep (size_any ht)
  rw [hr] at HS
  have H0 : Keep (IsT w p T ∧ T.row[i]? = some y ∧ T.row.length ≤ 1000000) := ⟨by rw [hr]; exact ⟨ht, HI.out, HN.out⟩⟩
  clear HT ht hr HI HN
  go_wp2_with fail
  refine HS.out.mono ?_
  rintro e w' ⟨rfl, rfl⟩
  clear HS
  go_wp2_with fail
  clear h0' h1' hilI
  go_loop [1, 6] (fun jv v => ∃ (j : Nat) (q : Option Addr) (T' : BT Int), jv = .int .i64 (j : Int) ∧ v = .pointer q ∧ Keep (IsT w q T' ∧ T'.row[j]? = some y ∧ T'.row.length ≤ 1000000)) (fun _ v => cnt w v)
  case atStart => exact ⟨i, p, T, rfl, rfl, H0⟩
  case round =>
    obtain ⟨j, q, T', rfl, rfl, HK⟩ := hrel
    have HC := keep (cnt_eq HK.out.1)
    clear H0
    cases T' with
    | leaf => have := HK.out.2.1; simp [BT.row] at this
    | node L v R =>
      obtain ⟨b, p0, p1, rfl, hb, h0, h1⟩ := HK.out.1
      obtain ⟨c0, c1, c2, -⟩ := hb.cells
      have HSZ := keep (size_any h0)
      have H0 := keep h0
      have H1 := keep h1
      have HC0 := keep (cnt_eq h0)
      have HC1 := keep (cnt_eq h1)
      have HM : Keep (cnt w (.pointer p0) < cnt w (.pointer (some ⟨b, 0, none⟩)) ∧ cnt w (.pointer p1) < cnt w (.pointer (some ⟨b, 0, none⟩))) := ⟨by rw [HC.out, HC0.out, HC1.out]; simp [BT.row]; omega⟩
      have HB : Keep (L.row.length + 1 + R.row.length ≤ 1000000) := ⟨by have := HK.out.2.2; simp [BT.row] at this; omega⟩
      have HJ : Keep (j < L.row.length + 1 + R.row.length) := ⟨by have := (List.getElem?_eq_some_iff.1 HK.out.2.1).1; simp [BT.row] at this; omega⟩
      clear hb h0 h1 HC0 HC1
      obtain ⟨m, hm⟩ : ∃ m, m = L.row.length := ⟨_, rfl⟩
      have HMM := keep hm
      rw [← hm] at HSZ
      have hmI : (m : Int) ≤ 1000000 := by have := HB.out; omega
      have hjI : (j : Int) ≤ 1000000 := by have := HB.out; have := HJ.out; omega
      have hm0 : (0 : Int) ≤ (m : Int) := by omega
      have hj0 : (0 : Int) ≤ (j : Int) := by omega
      clear hm
      rcases Nat.lt_trichotomy j m with hjm | hjm | hjm
      · have HE : Keep (L.row[j]? = some y) := ⟨by have := HK.out.2.1; rwa [BT.row, List.getElem?_append_left (by rw [← HMM.out]; exact hjm)] at this⟩
        have hlt : (j : Int) < (m : Int) := by omega
        clear hjm
        go_wp2_with fail
        refine HSZ.out.mono ?_
        rintro e w' ⟨rfl, rfl⟩
        clear HSZ
        go_wp2_with fail
        go_round
        case rel => exact ⟨j, p0, L, rfl, rfl, ⟨H0.out, HE.out, by have := HB.out; omega⟩⟩
        case measure => exact HM.out.1
      · subst hjm
        have HV : Keep (EV v = EV y) := ⟨by have := HK.out.2.1; rw [BT.row, List.getElem?_append_right (by rw [← HMM.out]; exact Nat.le_refl _), ← HMM.out] at this; simp at this; rw [this]⟩
        have hlt : decide (j < j) = false := by simp
        go_wp2_with fail
        refine HSZ.out.mono ?_
        rintro e w' ⟨rfl, rfl⟩
        clear HSZ
        go_wp2_with fail
        go_ret2
        exact ⟨by rw [HV.out]; rfl, rfl⟩
      · have HE : Keep (R.row[j - m - 1]? = some y) := ⟨by
          have := HK.out.2.1
          rw [BT.row, List.getElem?_append_right (by rw [← HMM.out]; omega), ← HMM.out, show j - m = (j - m - 1) + 1 by omega, List.getElem?_cons_succ] at this
          exact this⟩
        have hgt : (m : Int) < (j : Int) := by omega
        have hlt : decide (j < m) = false := by simp; omega
        have HG : Keep (m < j) := ⟨hjm⟩
        clear hjm
        go_wp2_with fail
        refine HSZ.out.mono ?_
        rintro e w' ⟨rfl, rfl⟩
        clear HSZ
        go_wp2_with fail
        go_round
        case rel => exact ⟨j - m - 1, p1, R, by have := HG.out; go_num, rfl, ⟨H1.out, HE.out, by have := HB.out; omega⟩⟩
        case measure => exact HM.out.2
end Go.Proofs.Ytjfgnmkgljljbaa
