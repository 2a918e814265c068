/-
  The parts that came in; long; the chapter's example.
-/
import Derived.Test.YtafeahjhdjcimaaWireV
namespace Go.Proofs.Ytafeahjhdjcimaa
open Go.RowKit Go.Joins

theorem IntRow.form {B : Nat} {w : World} {v : Value} {xs : List Int} (h : IntRow B w v xs) : ∃ o cap, v = .slice o xs.length cap := by
  rcases h.out with ⟨rfl, o, cap, rfl⟩ | ⟨b, off, cap, rfl, _⟩ <;> exact ⟨_, _, rfl⟩

/-- The cells of part i. -/
structure PtCells (w : World) (b off i : Nat) (a : Pt) : Prop where
  c0 : w.cell? ⟨b, off + i * 6 + 0, none⟩ = some (.int .i64 a.K)
  c1 : w.cell? ⟨b, off + i * 6 + 1, none⟩ = some (.int .u64 a.U)
  c2 : w.cell? ⟨b, off + i * 6 + 2, none⟩ = some (.int .i64 a.N)
  c3 : w.cell? ⟨b, off + i * 6 + 3, none⟩ = some (.bool a.B)
  c4 : w.cell? ⟨b, off + i * 6 + 4, none⟩ = some (.string a.S)
  c5 : w.cell? ⟨b, off + i * 6 + 5, none⟩ = some a.v
theorem PtCells.below {B : Nat} {w w' : World} {b off i : Nat} {a : Pt} (h : PtCells w b off i a) (hb : Below B w w') (hB : b < B) : PtCells w' b off i a :=
  ⟨(hb.cell hB).trans h.c0, (hb.cell hB).trans h.c1, (hb.cell hB).trans h.c2, (hb.cell hB).trans h.c3, (hb.cell hB).trans h.c4, (hb.cell hB).trans h.c5⟩
theorem PtOk.below {B : Nat} {w w' : World} {a : Pt} (h : PtOk B w a) (hb : Below B w w') : PtOk B w' a := ⟨h.k, h.u, h.n, h.s, h.l.below hb, h.ls⟩

/-- The slice v reads as the parts ps, in blocks below B. -/
structure Parts (B : Nat) (w : World) (v : Value) (n : Nat) (ps : Nat → Pt) : Prop where
  room : n ≤ 9223372036854775807
  out : (n = 0 ∧ ∃ o cap, v = .slice o 0 cap) ∨ ∃ b off cap, v = .slice (some ⟨b, off, none⟩) n cap ∧ b < B ∧ ∀ i, i < n → PtCells w b off i (ps i) ∧ PtOk B w (ps i)
theorem Parts.below {B : Nat} {w w' : World} {v : Value} {n : Nat} {ps : Nat → Pt} (h : Parts B w v n ps) (hb : Below B w w') : Parts B w' v n ps := by
  refine ⟨h.room, ?_⟩
  rcases h.out with h | ⟨b, off, cap, h1, h2, h3⟩
  · exact .inl h
  · exact .inr ⟨b, off, cap, h1, h2, fun i hi => ⟨(h3 i hi).1.below hb h2, (h3 i hi).2.below hb⟩⟩

def Short (n : Nat) (ps : Nat → Pt) : Prop := n ≤ 40 ∧ ∀ i, i < n → (ps i).S.size ≤ 200 ∧ (ps i).L.length ≤ 60
def LongIs (n : Nat) (ps : Nat → Pt) (w : World) (e : Ending) (w' : World) : Prop := ∃ x : Bool, e = .returned (.bool x) ∧ (x = false → Short n ps) ∧ w = w'

set_option maxHeartbeats 800000 in
theorem long_any (B : Nat) (v : Value) (n : Nat) (ps : Nat → Pt) (w : World) (h : Parts B w v n ps) : Calls Try.prog 7 #[v] w (LongIs n ps w) := by
  have hm := h.room
  rcases h.out with ⟨rfl, o, cap, rfl⟩ | ⟨b, off, cap, rfl, hb, hc⟩
  · clear h hm
    go_enter Try.func7, Try.ntmps7
    go_wp2
    refine wp_loop_rounds 1 ?_
    rw [rounds_succ]
    go_wp2
    go_ret
    exact ⟨false, rfl, fun _ => ⟨by omega, fun i hi => by omega⟩, rfl⟩
  · have HC := keep hc
    have hmI : (n : Int) ≤ 9223372036854775807 := by omega
    clear h hc hm hb
    go_enter Try.func7, Try.ntmps7
    go_wp2
    go_loop [3] (fun i => ∃ k : Nat, i = .int .i64 k ∧ k ≤ n ∧ (k : Int) ≤ 40 ∧ Keep (∀ i, i < k → (ps i).S.size ≤ 200 ∧ (ps i).L.length ≤ 60)) (fun i => n - (intOf i).toNat)
    case atStart => exact ⟨0, rfl, by omega, by omega, ⟨fun i hi => by omega⟩⟩
    case round =>
      obtain ⟨k, rfl, hk, hk40, HS⟩ := hrel
      by_cases hlt : k < n
      · by_cases h40 : (k : Int) < 40
        · obtain ⟨hcs, hok⟩ := HC.out k hlt
          obtain ⟨o, c, hv⟩ := hok.l.form
          have c4 := hcs.c4
          have c5 := hcs.c5
          rw [hv] at c5
          have hs := hok.s
          have hl := hok.l.room
          have HNEXT : Keep ((ps k).S.size ≤ 200 → (ps k).L.length ≤ 60 → ∀ i, i < k + 1 → (ps i).S.size ≤ 200 ∧ (ps i).L.length ≤ 60) := ⟨fun h1 h2 i hi => by
            by_cases e : i = k
            · subst e; exact ⟨h1, h2⟩
            · exact HS.out i (by omega)⟩
          have hltI : (k : Int) < n := by omega
          clear hcs hok hv HS
          generalize (ps k).S = S at *
          generalize (ps k).L.length = m at *
          by_cases h1 : S.size ≤ 200
          · by_cases h2 : m ≤ 60
            · have HN := keep (HNEXT.out h1 h2)
              clear HNEXT
              go_wp2
              go_round
              case rel => exact ⟨k + 1, by go_num, by omega, by omega, HN⟩
              case measure => simp [intOf]; omega
            · go_wp2
              go_ret
              exact ⟨true, rfl, (fun h => by cases h), rfl⟩
          · go_wp2
            go_ret
            exact ⟨true, rfl, (fun h => by cases h), rfl⟩
        · have h41 : 40 < (n : Int) := by omega
          have hltI : (k : Int) < n := by omega
          go_wp2
          go_ret
          exact ⟨true, rfl, (fun h => by cases h), rfl⟩
      · obtain rfl : k = n := by omega
        go_wp2
        go_ret
        exact ⟨false, ret_bool (by simp; omega), fun _ => ⟨by omega, HS.out⟩, rfl⟩

/-! ### The chapter's example -/
theorem live_bytes : app (.pointer (some ⟨0, 0, none⟩)) (app (.pointer (some ⟨0, 0, none⟩)) (app (.pointer (some ⟨0, 0, none⟩)) [] (intB (-1))) (textB ⟨#[97, 98]⟩)) (boolB true) = [1, 2, 97, 98, 1] := by decide
theorem live_num : numV [1, 2, 97, 98, 1] 0 = 1 ∧ numS [1, 2, 97, 98, 1] 0 = ([2, 97, 98, 1], 0) := by decide
theorem live_text : textV 2 [2, 97, 98, 1] 0 = [97, 98] ∧ textS 2 [2, 97, 98, 1] 0 = ([1], 0) := by decide
theorem live_bool : boolV [1] 0 = true ∧ boolS [1] 0 = ([], 0) := by decide

set_option maxHeartbeats 1000000 in
theorem live_any (w : World) : Calls Try.prog 8 #[] w fun e w' => e = .returned (.bool true) ∧ Below w.heap.size w w' := by
  obtain ⟨p, hp⟩ : ∃ p, p = Value.pointer (some ⟨w.heap.size, 0, none⟩) := ⟨_, rfl⟩
  have happ : ∀ l t, app p l t = l ++ t := fun l t => by rw [hp]; rfl
  have HP0 : Keep (PW p w.heap.size [] (w.alloc (.cells #[.slice none 0 0] 28))) := ⟨⟨.inr ⟨hp, _, heap_alloc_new w _, World.ownsRow_nil _ _ _ _⟩⟩⟩
  have H1 : Keep (∀ W, PW p w.heap.size [] W → Calls Try.prog 25 #[p, .int .i64 (-1)] W fun e w' => e = .returned (.tuple #[]) ∧ WrTo p w.heap.size [1] W w') := ⟨fun W h => by
    have := int_w p _ [] (-1) W h (by decide) (by decide) (by decide)
    rw [happ, show [] ++ intB (-1) = [1] by decide] at this; exact this⟩
  have H2 : Keep (∀ W, PW p w.heap.size [1] W → Calls Try.prog 26 #[p, .string ⟨#[97, 98]⟩] W fun e w' => e = .returned (.tuple #[]) ∧ WrTo p w.heap.size [1, 2, 97, 98] W w') := ⟨fun W h => by
    have := text_w p _ [1] ⟨#[97, 98]⟩ W h (by decide)
    rw [happ, show [1] ++ textB ⟨#[97, 98]⟩ = [1, 2, 97, 98] by decide] at this; exact this⟩
  have H3 : Keep (∀ W, PW p w.heap.size [1, 2, 97, 98] W → Calls Try.prog 27 #[p, .bool true] W fun e w' => e = .returned (.tuple #[]) ∧ WrTo p w.heap.size [1, 2, 97, 98, 1] W w') := ⟨fun W h => by
    have := bool_w p _ [1, 2, 97, 98] true W h (by decide)
    rw [happ, show [1, 2, 97, 98] ++ boolB true = [1, 2, 97, 98, 1] by decide] at this; exact this⟩
  have H4 : Keep (∀ W, PW p w.heap.size [1, 2, 97, 98, 1] W → Calls Try.prog 10 #[p] W fun e w' => e = .returned (.string ⟨#[1, 2, 97, 98, 1]⟩) ∧ W = w') := ⟨fun W h => bytes_w p _ _ W h⟩
  have H5 : Keep (∀ W q, PR q [1, 2, 97, 98, 1] 0 W → Calls Try.prog 18 #[q] W fun e w' => e = .returned (.int .i64 (-1)) ∧ RdTo q ([2, 97, 98, 1], 0) W w') := ⟨fun W q h => by
    have := int_any q _ 0 W h
    rw [live_num.1, live_num.2] at this; exact this⟩
  have H6 : Keep (∀ W q, PR q [2, 97, 98, 1] 0 W → Calls Try.prog 20 #[q, .int .i64 2] W fun e w' => e = .returned (.string ⟨#[97, 98]⟩) ∧ RdTo q ([1], 0) W w') := ⟨fun W q h => by
    have := text_any q 2 _ 0 W h (by decide) (by decide)
    rw [live_text.1, live_text.2] at this; exact this⟩
  have H7 : Keep (∀ W q, PR q [1] 0 W → Calls Try.prog 19 #[q] W fun e w' => e = .returned (.bool true) ∧ RdTo q ([], 0) W w') := ⟨fun W q h => by
    have := bool_any q _ 0 W h
    rw [live_bool.1, live_bool.2] at this; exact this⟩
  have H8 : Keep (∀ W q, PR q [] 0 W → Calls Try.prog 15 #[q] W fun e w' => e = .returned (.int .i64 0) ∧ Below W.heap.size W w') := ⟨fun W q h => by
    have := end_any q [] 0 W h
    rw [show endV [] 0 = 0 by decide] at this; exact this⟩
  have HP := keep hp
  have HO := keep (fun W => open_any ⟨#[1, 2, 97, 98, 1]⟩ W (by decide))
  clear happ
  go_enter Try.func8, Try.ntmps8
  go_wp2_with fail
  rw [← hp]
  clear hp
  go_wp2_with fail
  refine (H1.out _ HP0.out).mono ?_
  rintro e w1 ⟨rfl, hR⟩
  have R1 := keep hR
  clear hR
  go_wp2_with fail
  refine (H2.out _ R1.out.1).mono ?_
  rintro e w2 ⟨rfl, hR⟩
  have R2 := keep hR
  clear hR
  go_wp2_with fail
  refine (H3.out _ R2.out.1).mono ?_
  rintro e w3 ⟨rfl, hR⟩
  have R3 := keep hR
  clear hR
  go_wp2_with fail
  refine (H4.out _ R3.out.1).mono ?_
  rintro e w' ⟨rfl, rfl⟩
  go_wp2_with fail
  refine (HO.out _).mono ?_
  rintro e w4 ⟨rfl, hr, hb⟩
  have R4 := keep hr
  have B4 := keep hb
  have PW4 := keep (R3.out.1.kept hb)
  have q1 : w.heap.size + 1 ≤ w1.heap.size := by have := R1.out.2.size; simpa using this
  have q2 := R2.out.2.size
  have q3 := R3.out.2.size
  have HW : Keep (Below w.heap.size w w4) := ⟨((((below_alloc1 w _).trans (R1.out.2.below (Nat.le_refl _) (by simp))).trans (R2.out.2.below (Nat.le_refl _) (by omega))).trans (R3.out.2.below (Nat.le_refl _) (by omega))).trans (hb.mono (by omega))⟩
  have HQ : Keep (∀ k, blk (.pointer (some ⟨w3.heap.size, 0, none⟩)) = some k → w.heap.size ≤ k) := ⟨fun k e => by
    have : w3.heap.size = k := by simpa [blk] using e
    omega⟩
  have HZ : Keep (w.heap.size ≤ w4.heap.size) := ⟨HW.out.size⟩
  clear hr hb q1 q2 q3
  go_wp2_with fail
  refine (H4.out _ PW4.out).mono ?_
  rintro e w' ⟨rfl, rfl⟩
  go_wp2_with fail
  refine (H5.out _ _ R4.out).mono ?_
  rintro e w5 ⟨rfl, hR⟩
  have R5 := keep hR
  clear hR
  go_wp2_with fail
  refine (H6.out _ _ R5.out.1).mono ?_
  rintro e w6 ⟨rfl, hR⟩
  have R6 := keep hR
  clear hR
  go_wp2_with fail
  refine (H7.out _ _ R6.out.1).mono ?_
  rintro e w7 ⟨rfl, hR⟩
  have R7 := keep hR
  clear hR
  go_wp2_with fail
  refine (H8.out _ _ R7.out.1).mono ?_
  rintro e w8 ⟨rfl, hb⟩
  have B8 := keep hb
  clear hb
  go_wp2_with fail
  go_ret
  refine ⟨rfl, (HW.out.trans (((R5.out.2.trans R6.out.2).trans R7.out.2).below HQ.out HZ.out)).trans (B8.out.mono ?_)⟩
  have := R5.out.2.size; have := R6.out.2.size; have := R7.out.2.size; have := HZ.out; omega
end Go.Proofs.Ytafeahjhdjcimaa
