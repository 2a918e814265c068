/-
  The document's rows of signs by levels; Level.
-/
import Derived.Test.YtglmcjplglgnlaaTermA
namespace Go.Proofs.Ytglmcjplglgnlaa
open Go.RowKit Go.Joins

/-- The slice v reads as rows of texts, all of it in blocks below B. -/
structure Rows2 (B : Nat) (w : World) (v : Value) (L : List (List (List UInt8))) : Prop where
  out : ∃ b cap, v = .slice (some ⟨b, 0, none⟩) L.length cap ∧ b < B ∧ ∀ i l, L[i]? = some l → ∃ g c, w.cell? ⟨b, i, none⟩ = some (.slice (some ⟨g, 0, none⟩) l.length c) ∧ g < B ∧ ∀ k x, l[k]? = some x → w.cell? ⟨g, k, none⟩ = some (.string (str x))
theorem Rows2.below {B : Nat} {w w' : World} {v : Value} {L : List (List (List UInt8))} (h : Rows2 B w v L) (hb : Below B w w') : Rows2 B w' v L := by
  obtain ⟨b, cap, h1, h2, h3⟩ := h.out
  refine ⟨b, cap, h1, h2, fun i l hi => ?_⟩
  obtain ⟨g, c, e1, e2, e3⟩ := h3 i l hi
  exact ⟨g, c, (hb.cell (p := ⟨b, i, none⟩) h2).trans e1, e2, fun k x hk => (hb.cell (p := ⟨g, k, none⟩) e2).trans (e3 k x hk)⟩

theorem cell_row (W : World) (l : List (List UInt8)) (t : TypeId) (k : Nat) (x : List UInt8) (h : l[k]? = some x) : (W.alloc (.cells (l.map SV).toArray t)).cell? ⟨W.heap.size, k, none⟩ = some (.string (str x)) := by
  rw [World.cell?_alloc_new]; simp [h]

set_option maxRecDepth 100000 in
set_option maxHeartbeats 4000000 in
theorem rsigs_any (w : World) : Calls Try.prog 22 #[] w fun e w' => ∃ v, e = .returned v ∧ Rows2 w'.heap.size w' v signs5 ∧ Below w.heap.size w w' := by
  obtain ⟨W1, hW1⟩ : ∃ W, W = w.alloc (.cells (([[124, 124]] : List (List UInt8)).map SV).toArray 9) := ⟨_, rfl⟩
  obtain ⟨W2, hW2⟩ : ∃ W, W = W1.alloc (.cells (([[38, 38]] : List (List UInt8)).map SV).toArray 9) := ⟨_, rfl⟩
  obtain ⟨W3, hW3⟩ : ∃ W, W = W2.alloc (.cells (([[61, 61], [33, 61], [60], [60, 61], [62], [62, 61]] : List (List UInt8)).map SV).toArray 9) := ⟨_, rfl⟩
  obtain ⟨W4, hW4⟩ : ∃ W, W = W3.alloc (.cells (([[43], [45]] : List (List UInt8)).map SV).toArray 9) := ⟨_, rfl⟩
  obtain ⟨W5, hW5⟩ : ∃ W, W = W4.alloc (.cells (([[42], [47], [37]] : List (List UInt8)).map SV).toArray 9) := ⟨_, rfl⟩
  obtain ⟨W6, hW6⟩ : ∃ W, W = W5.alloc (.cells #[.slice (some ⟨w.heap.size, 0, none⟩) 1 1, .slice (some ⟨W1.heap.size, 0, none⟩) 1 1, .slice (some ⟨W2.heap.size, 0, none⟩) 6 6, .slice (some ⟨W3.heap.size, 0, none⟩) 2 2, .slice (some ⟨W4.heap.size, 0, none⟩) 3 3] 59) := ⟨_, rfl⟩
  have z1 : W1.heap.size = w.heap.size + 1 := by rw [hW1, World.size_alloc]
  have z2 : W2.heap.size = w.heap.size + 2 := by rw [hW2, World.size_alloc]; omega
  have z3 : W3.heap.size = w.heap.size + 3 := by rw [hW3, World.size_alloc]; omega
  have z4 : W4.heap.size = w.heap.size + 4 := by rw [hW4, World.size_alloc]; omega
  have z5 : W5.heap.size = w.heap.size + 5 := by rw [hW5, World.size_alloc]; omega
  have z6 : W6.heap.size = w.heap.size + 6 := by rw [hW6, World.size_alloc]; omega
  have b6 : Below W5.heap.size W5 W6 := by rw [hW6]; exact (Below.refl _ _).alloc (Nat.le_refl _) _
  have b5 : Below W4.heap.size W4 W6 := by rw [hW5] at b6; exact ((Below.refl _ _).alloc (Nat.le_refl _) _).trans (b6.mono (by simp))
  have b4 : Below W3.heap.size W3 W6 := by rw [hW4] at b5; exact ((Below.refl _ _).alloc (Nat.le_refl _) _).trans (b5.mono (by simp))
  have b3 : Below W2.heap.size W2 W6 := by rw [hW3] at b4; exact ((Below.refl _ _).alloc (Nat.le_refl _) _).trans (b4.mono (by simp))
  have b2 : Below W1.heap.size W1 W6 := by rw [hW2] at b3; exact ((Below.refl _ _).alloc (Nat.le_refl _) _).trans (b3.mono (by simp))
  have b1 : Below w.heap.size w W6 := by rw [hW1] at b2; exact ((Below.refl _ _).alloc (Nat.le_refl _) _).trans (b2.mono (by simp))
  have r1 : ∀ k x, ([[124, 124]] : List (List UInt8))[k]? = some x → W6.cell? ⟨w.heap.size, k, none⟩ = some (.string (str x)) := fun k x h => by
    rw [b2.cell (p := ⟨w.heap.size, k, none⟩) (by show w.heap.size < _; omega), hW1]; exact cell_row w _ _ k x h
  have r2 : ∀ k x, ([[38, 38]] : List (List UInt8))[k]? = some x → W6.cell? ⟨W1.heap.size, k, none⟩ = some (.string (str x)) := fun k x h => by
    rw [b3.cell (p := ⟨W1.heap.size, k, none⟩) (by show W1.heap.size < _; omega), hW2]; exact cell_row W1 _ _ k x h
  have r3 : ∀ k x, ([[61, 61], [33, 61], [60], [60, 61], [62], [62, 61]] : List (List UInt8))[k]? = some x → W6.cell? ⟨W2.heap.size, k, none⟩ = some (.string (str x)) := fun k x h => by
    rw [b4.cell (p := ⟨W2.heap.size, k, none⟩) (by show W2.heap.size < _; omega), hW3]; exact cell_row W2 _ _ k x h
  have r4 : ∀ k x, ([[43], [45]] : List (List UInt8))[k]? = some x → W6.cell? ⟨W3.heap.size, k, none⟩ = some (.string (str x)) := fun k x h => by
    rw [b5.cell (p := ⟨W3.heap.size, k, none⟩) (by show W3.heap.size < _; omega), hW4]; exact cell_row W3 _ _ k x h
  have r5 : ∀ k x, ([[42], [47], [37]] : List (List UInt8))[k]? = some x → W6.cell? ⟨W4.heap.size, k, none⟩ = some (.string (str x)) := fun k x h => by
    rw [b6.cell (p := ⟨W4.heap.size, k, none⟩) (by show W4.heap.size < _; omega), hW5]; exact cell_row W4 _ _ k x h
  have hrow : ∀ k : Nat, W6.cell? ⟨W5.heap.size, k, none⟩ = (#[.slice (some ⟨w.heap.size, 0, none⟩) 1 1, .slice (some ⟨W1.heap.size, 0, none⟩) 1 1, .slice (some ⟨W2.heap.size, 0, none⟩) 6 6, .slice (some ⟨W3.heap.size, 0, none⟩) 2 2, .slice (some ⟨W4.heap.size, 0, none⟩) 3 3] : Array Value)[k]? := fun k => by
    rw [hW6, World.cell?_alloc_new]
  have HR : Keep (Rows2 W6.heap.size W6 (.slice (some ⟨w.heap.size + 5, 0, none⟩) 5 5) signs5) := keep ⟨w.heap.size + 5, 5, rfl, by omega, fun i l hi => by
    rw [← z5]
    match i, hi with
    | 0, hi => obtain rfl := Option.some.inj hi; exact ⟨w.heap.size, 1, hrow 0, by omega, r1⟩
    | 1, hi => obtain rfl := Option.some.inj hi; exact ⟨W1.heap.size, 1, hrow 1, by omega, r2⟩
    | 2, hi => obtain rfl := Option.some.inj hi; exact ⟨W2.heap.size, 6, hrow 2, by omega, r3⟩
    | 3, hi => obtain rfl := Option.some.inj hi; exact ⟨W3.heap.size, 2, hrow 3, by omega, r4⟩
    | 4, hi => obtain rfl := Option.some.inj hi; exact ⟨W4.heap.size, 3, hrow 4, by omega, r5⟩⟩
  have HB := keep b1
  rw [z1, z2, z3, z4] at hW6
  subst hW5 hW4 hW3 hW2 hW1
  clear b1 b2 b3 b4 b5 b6 r1 r2 r3 r4 r5 hrow z1 z2 z3 z4 z5 z6
  subst hW6
  go_enter Try.func22, Try.ntmps22
  go_wp2_with fail
  go_ret
  exact ⟨_, rfl, HR.out, HB.out⟩

/-- Between two rounds of Level: rows below i have no sign of this kind. -/
structure LvlAt (op : Int) (w : World) (v : Value) (i : Nat) (wr : World) : Prop where
  out : i ≤ 5 ∧ srch (signs5.drop i) ((i : Int) + 1) op = sgL op ∧ Below w.heap.size w wr ∧ Rows2 wr.heap.size wr v signs5
/-- .. within a row: those below k are none. -/
structure LvlIn (op : Int) (w : World) (v : Value) (i : Nat) (l : List (List UInt8)) (k : Nat) (wr : World) : Prop where
  out : k ≤ l.length ∧ (if (l.drop k).any (fun t => opS (str t) == op) then (i : Int) + 1 else srch (signs5.drop (i + 1)) ((i : Int) + 2) op) = sgL op ∧ Below w.heap.size w wr ∧ Rows2 wr.heap.size wr v signs5

set_option maxRecDepth 100000 in
set_option maxHeartbeats 8000000 in
theorem rlvl_any (op : Int) (w : World) : Calls Try.prog 15 #[.int .i64 op] w fun e w' => e = .returned (.int .i64 (lvl op)) ∧ Below w.heap.size w w' := by
  by_cases e1 : op = 1 ∨ op = 2
  · have hl : lvl op = 7 := if_pos e1
    rw [hl]
    rcases e1 with rfl | rfl
    all_goals
      go_enter Try.func15, Try.ntmps15
      go_wp2_with fail
      go_ret
      exact ⟨rfl, Below.refl _ _⟩
  · have hl : lvl op = sgL op := if_neg e1
    rw [hl]
    have b1 : (op == 1) = false := by rw [beq_eq_false_iff_ne]; omega
    have b2 : (op == 2) = false := by rw [beq_eq_false_iff_ne]; omega
    by_cases e3 : op = 3 ∨ op = 4
    · have hl : sgL op = 6 := by rcases e3 with rfl | rfl <;> simp [sgL, signT]
      rw [hl]
      rcases e3 with rfl | rfl
      all_goals
        go_enter Try.func15, Try.ntmps15
        go_wp2_with fail
        go_ret
        exact ⟨rfl, Below.refl _ _⟩
    · have b3 : (op == 3) = false := by rw [beq_eq_false_iff_ne]; omega
      have b4 : (op == 4) = false := by rw [beq_eq_false_iff_ne]; omega
      have HS : Keep (srch signs5 1 op = sgL op) := keep (srch_is (by omega) (by omega))
      clear e1 e3 hl
      go_enter Try.func15, Try.ntmps15
      go_wp2_with fail
      refine (rsigs_any _).mono ?_
      rintro e w1 ⟨v, rfl, hr, hb⟩
      have H0 : Keep (LvlAt op w v 0 w1) := keep ⟨by omega, HS.out, hb, hr⟩
      obtain ⟨bb, cap, hv, -⟩ := hr.out
      obtain rfl : v = .slice (some ⟨bb, 0, none⟩) 5 cap := hv
      clear hr hb
      go_wp2_with fail
      go_loopw [4] (fun iv wr => ∃ i : Nat, iv = .int .i64 (i : Int) ∧ Keep (LvlAt op w (.slice (some ⟨bb, 0, none⟩) 5 cap) i wr)) (fun iv _ => 5 - (intOf iv).toNat)
      case atStart => exact ⟨0, rfl, H0⟩
      case round =>
        obtain ⟨i, rfl, HI⟩ := hrel
        clear H0
        obtain ⟨hi5, hs, hb, hr⟩ := HI.out.out
        by_cases hlt : i < 5
        · have hltI : (i : Int) < 5 := by omega
          obtain ⟨l, hl⟩ := get_of_lt (l := signs5) (i := i) hlt
          have H1 : Keep (LvlIn op w (.slice (some ⟨bb, 0, none⟩) 5 cap) i l 0 wr) := keep ⟨Nat.zero_le _, by
            rw [List.drop_eq_getElem_cons (by exact hlt)] at hs
            have : signs5[i] = l := (List.getElem?_eq_some_iff.1 hl).2
            rw [this, srch] at hs
            rw [List.drop_zero, show (i : Int) + 2 = (i : Int) + 1 + 1 by omega]
            exact hs, hb, hr⟩
          have HL := keep hl
          clear hs hb hr hl
          go_wp2_with fail
          go_loopw [5] (fun kv wr => ∃ k : Nat, kv = .int .i64 (k : Int) ∧ Keep (LvlIn op w (.slice (some ⟨bb, 0, none⟩) 5 cap) i l k wr)) (fun kv _ => l.length - (intOf kv).toNat)
          case atStart => exact ⟨0, rfl, H1⟩
          case round =>
            obtain ⟨k, rfl, HKN⟩ := hrel
            clear H1
            obtain ⟨hk, hs, hb, hr⟩ := HKN.out.out
            obtain ⟨bb', cap', e, hbb, hrow⟩ := hr.out
            simp only [Value.slice.injEq, Option.some.injEq, Addr.mk.injEq, and_true] at e
            obtain ⟨rfl, -, rfl⟩ := e
            obtain ⟨g, c, hc, hg, hcs⟩ := hrow i l HL.out
            obtain ⟨n, hn⟩ : ∃ n, n = l.length := ⟨_, rfl⟩
            have HN := keep hn
            rw [← hn] at hc
            have HB := keep hb
            have HR := keep hr
            have hln : n ≤ 6 := by
              have := HL.out
              rw [hn]
              match i, hlt, this with
              | 0, _, h | 1, _, h | 2, _, h | 3, _, h | 4, _, h => obtain rfl := Option.some.inj h; decide
            by_cases hkn : k < n
            · obtain ⟨y, hy⟩ := get_of_lt (l := l) (i := k) (by omega)
              have hcy := hcs k y hy
              have hkI : (k : Int) < (n : Int) := by omega
              rw [List.drop_eq_getElem_cons (by omega : k < l.length), List.any_cons, show l[k] = y from (List.getElem?_eq_some_iff.1 hy).2] at hs
              have HOP := keep (fun W => rop_any (str y) W)
              by_cases hq : opS (str y) = op
              · have bq : (opS (str y) == op) = true := by simpa using hq
                rw [bq, Bool.true_or, if_pos rfl] at hs
                have HS2 := keep hs
                generalize opS (str y) = oy at *
                generalize str y = sy at *
                clear hs hr hb hrow hcs hn hy hq
                go_wp2_with fail
                refine (HOP.out _).mono ?_
                rintro e w2 ⟨rfl, h2⟩
                have HB2 := keep (HB.out.trans (h2.mono HB.out.size))
                clear h2
                go_wp2_with fail
                go_ret
                exact ⟨ret_int HS2.out, HB2.out⟩
              · have bq : (opS (str y) == op) = false := by simpa using hq
                rw [bq, Bool.false_or] at hs
                have HS2 := keep hs
                generalize opS (str y) = oy at *
                generalize str y = sy at *
                clear hs hr hb hrow hcs hn hy hq
                go_wp2_with fail
                refine (HOP.out _).mono ?_
                rintro e w2 ⟨rfl, h2⟩
                have HB2 := keep (HB.out.trans (h2.mono HB.out.size))
                have HR2 : Keep (Rows2 w2.heap.size w2 (.slice (some ⟨bb, 0, none⟩) 5 cap) signs5) := keep (by
                  obtain ⟨b0, c0, q1, q2, q3⟩ := (HR.out.below h2).out
                  refine ⟨b0, c0, q1, Nat.lt_of_lt_of_le q2 h2.size, fun i l hi => ?_⟩
                  obtain ⟨g, c, a1, a2, a3⟩ := q3 i l hi
                  exact ⟨g, c, a1, Nat.lt_of_lt_of_le a2 h2.size, a3⟩)
                clear h2
                go_wp2_with fail
                go_roundw
                case rel => exact ⟨k + 1, by go_num, ⟨⟨by have := HN.out; omega, HS2.out, HB2.out, HR2.out⟩⟩⟩
                case measure => have := HN.out; simp [intOf]; omega
            · rw [List.drop_eq_nil_of_le (by omega : l.length ≤ k), List.any_nil, if_neg (by simp)] at hs
              have HS2 := keep hs
              have hkn' : n ≤ k := by omega
              have hkI : ¬ ((k : Int) < (n : Int)) := by omega
              clear hs hr hb hrow hcs hn hkn
              go_wp2_with fail
              go_roundw
              case rel => exact ⟨i + 1, by go_num, ⟨⟨by omega, by rw [show ((i + 1 : Nat) : Int) + 1 = (i : Int) + 2 by omega]; exact HS2.out, HB.out, HR.out⟩⟩⟩
              case measure => simp [intOf]; omega
        · obtain rfl : i = 5 := by omega
          have HS2 : Keep (sgL op = 0) := keep (by rw [← hs]; rfl)
          have HB := keep hb
          clear hs hb hr hlt
          go_wp2_with fail
          go_ret
          exact ⟨ret_int HS2.out.symm, HB.out⟩
end Go.Proofs.Ytglmcjplglgnlaa
