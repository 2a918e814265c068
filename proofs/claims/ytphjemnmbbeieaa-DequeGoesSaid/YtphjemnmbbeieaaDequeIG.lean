/-
  The deque's Pop and Drop.
-/
import Derived.Test.YtphjemnmbbeieaaDequeIF
namespace Go.Proofs.Ytphjemnmbbeieaa.I
open Go.RowKit

theorem pop_nil (w : World) :
    Calls Try.prog 23 #[.pointer none] w fun e w' => e = .returned (.tuple #[.int .i64 0, .bool false]) ∧ w = w' := by
  have HA := keep (at_nil 0 w)
  go_enter Try.func23, Try.ntmps23
  go_wp2_with fail
  refine HA.out.mono ?_
  rintro e w' ⟨rfl, rfl⟩
  go_wp2_with fail
  go_ret2
  exact ⟨rfl, rfl⟩
theorem drop_nil (w : World) :
    Calls Try.prog 24 #[.pointer none] w fun e w' => e = .returned (.tuple #[.int .i64 0, .bool false]) ∧ w = w' := by
  have HL := keep (len_nil w)
  have HA := keep (at_nil (-1) w)
  go_enter Try.func24, Try.ntmps24
  go_wp2_with fail
  refine HL.out.mono ?_
  rintro e w' ⟨rfl, rfl⟩
  go_wp2_with fail
  refine HA.out.mono ?_
  rintro e w' ⟨rfl, rfl⟩
  go_wp2_with fail
  go_ret2
  exact ⟨rfl, rfl⟩
theorem push_nil (x : Int) (w : World) :
    Calls Try.prog 21 #[.pointer none, .int .i64 x] w fun e w' => e = .returned (.tuple #[]) ∧ w = w' := by
  go_enter Try.func21, Try.ntmps21
  go_wp2_with fail
  exact bodyPost_ret (results_none (by rfl) _ _ _) rfl ⟨rfl, rfl⟩
theorem shove_nil (x : Int) (w : World) :
    Calls Try.prog 22 #[.pointer none, .int .i64 x] w fun e w' => e = .returned (.tuple #[]) ∧ w = w' := by
  go_enter Try.func22, Try.ntmps22
  go_wp2_with fail
  exact bodyPost_ret (results_none (by rfl) _ _ _) rfl ⟨rfl, rfl⟩

theorem pop_none (d : Nat) (r : Option Nat) (w : World) (h : DQ d r [] w) :
    Calls Try.prog 23 #[.pointer (some ⟨d, 0, none⟩)] w fun e w' => e = .returned (.tuple #[.int .i64 0, .bool false]) ∧ w = w' := by
  obtain ⟨o, n, f, hb, _, _, _⟩ := h.box
  obtain ⟨_, _, c2, _⟩ := hb.cells
  have HA := keep (at_out d 0 0 w c2 (.inr (by simp)))
  clear h hb c2
  go_enter Try.func23, Try.ntmps23
  go_wp2_with fail
  refine HA.out.mono ?_
  rintro e w' ⟨rfl, rfl⟩
  go_wp2_with fail
  go_ret2
  exact ⟨rfl, rfl⟩
theorem drop_none (d : Nat) (r : Option Nat) (w : World) (h : DQ d r [] w) :
    Calls Try.prog 24 #[.pointer (some ⟨d, 0, none⟩)] w fun e w' => e = .returned (.tuple #[.int .i64 0, .bool false]) ∧ w = w' := by
  obtain ⟨o, n, f, hb, _, _, _⟩ := h.box
  obtain ⟨_, _, c2, _⟩ := hb.cells
  have HA := keep (at_out d 0 (-1) w c2 (.inl (by omega)))
  have HL : Keep (Calls Try.prog 25 #[.pointer (some ⟨d, 0, none⟩)] w fun e w' => e = .returned (.int .i64 0) ∧ w = w') := keep (len_any d 0 w c2)
  clear h hb c2
  go_enter Try.func24, Try.ntmps24
  go_wp2_with fail
  refine HL.out.mono ?_
  rintro e w' ⟨rfl, rfl⟩
  go_wp2_with fail
  refine HA.out.mono ?_
  rintro e w' ⟨rfl, rfl⟩
  go_wp2_with fail
  go_ret2
  exact ⟨rfl, rfl⟩

set_option maxHeartbeats 1000000 in
theorem pop_some (d : Nat) (r : Option Nat) (l : List Int) (x : Int) (w : World) (h : DQ d r (x :: l) w) :
    Calls Try.prog 23 #[.pointer (some ⟨d, 0, none⟩)] w fun e w' => e = .returned (.tuple #[.int .i64 x, .bool true]) ∧ DTo d r l w w' := by
  rcases h.out with ⟨_, h0, _⟩ | ⟨g, cs, f, rfl, ha⟩
  · cases h0
  have hroom := ha.room
  rw [List.length_cons] at hroom
  have HA : Keep (Calls Try.prog 34 #[.pointer (some ⟨d, 0, none⟩), .int .i64 0] w fun e w' => e = .returned (.tuple #[.int .i64 x, .bool true]) ∧ w' = w.drew) := keep (at_in d g cs f (x :: l) 0 x w ha rfl)
  obtain ⟨w1, hw1⟩ : ∃ w1, w1 = (w.drew.setCell ⟨g, wr cs.length (f + 0), none⟩ (.int .i64 0)).drew := ⟨_, rfl⟩
  have HC : Keep (Calls Try.prog 35 #[.pointer (some ⟨d, 0, none⟩), .int .i64 0] w.drew fun e w' => e = .returned (.tuple #[]) ∧ w' = w1) := by
    rw [hw1]
    exact keep (clear_any d g cs f (x :: l) 0 w.drew ha.drew (by omega))
  have hb1 : DBox d (some ⟨g, 0, none⟩) cs.length f (l.length + 1) w1 := by
    rw [hw1]
    exact (heap_setCell_other _ _ d _ ha.ne.symm).trans ha.box
  have hg1 : w1.heap[g]? = some (.cells (cs.set (wr cs.length (f + 0)) (.int .i64 0)).toArray 3 (0, 0)) := by
    rw [hw1]
    exact ha.drew.put _ _
  have hk1 : DKept d (some g) (some g) w w1 := by
    rw [hw1]
    exact dkept_drew' (dkept_put (dkept_drew _ _ _) _ _ (.inr rfl))
  obtain ⟨c0, c1, c2, _, z1, z2⟩ := hb1.cells
  have HP : Keep (Calls Try.prog 33 #[.pointer (some ⟨d, 0, none⟩), .int .i64 1] w1 fun e w' => e = .returned (.int .i64 (wr cs.length (f + 1) : Nat)) ∧ w1 = w') := keep (place_any d _ cs.length f 1 w1 c0 c1 ha.le (by have := ha.ring.first; have := ha.le; omega) (by omega))
  have HQ : Keep (DQ d (some g) l ((w1.setCell ⟨d, 1, none⟩ (.int .i64 (wr cs.length (f + 1) : Nat))).setCell ⟨d, 2, none⟩ (.int .i64 (l.length : Int)))) := ⟨by
    have hr := ha.ring
    rw [List.map_cons] at hr
    have hp := hr.pop (.int .i64 0)
    have ha2 : DAt d g (cs.set (wr cs.length (f + 0)) (.int .i64 0)) (wr cs.length (f + 1)) l ((w1.setCell ⟨d, 1, none⟩ (.int .i64 (wr cs.length (f + 1) : Nat))).setCell ⟨d, 2, none⟩ (.int .i64 (l.length : Int))) := by
      refine ⟨?_, ?_, ha.ne, by rw [List.length_set]; exact ha.le, hp⟩
      · rw [List.length_set]
        exact (hb1.set1 _).set2 _
      · rw [heap_setCell_other _ _ _ _ ha.ne, heap_setCell_other _ _ _ _ ha.ne]
        exact hg1
    exact ha2.dq⟩
  have HK : Keep (DKept d (some g) (some g) w ((w1.setCell ⟨d, 1, none⟩ (.int .i64 (wr cs.length (f + 1) : Nat))).setCell ⟨d, 2, none⟩ (.int .i64 (l.length : Int)))) := ⟨dkept_put (dkept_put hk1 _ _ (.inl rfl)) _ _ (.inl rfl)⟩
  have hle := ha.le
  have hkI : (l.length : Int) ≤ 1000000 := by omega
  have HN := keep (narrow_any d (some g) l _ HQ.out)
  generalize wr cs.length (f + 1) = j at *
  rw [show ((l.length + 1 : Nat) : Int) = (l.length : Int) + 1 by omega] at c2
  have hkk : ((l.length : Int) + 1 - 1) = (l.length : Int) := by omega
  clear h ha hroom hw1 hb1 hg1 hk1 hle HQ
  go_enter Try.func23, Try.ntmps23
  go_wp2_with fail
  refine HA.out.mono ?_
  rintro e w' ⟨rfl, rfl⟩
  go_wp2_with fail
  refine HC.out.mono ?_
  rintro e w' ⟨rfl, rfl⟩
  go_wp2_with fail
  refine HP.out.mono ?_
  rintro e w2 ⟨rfl, rfl⟩
  go_wp2_with fail
  refine HN.out.mono ?_
  rintro e w3 ⟨rfl, r', hq, hk⟩
  have HE : Keep (DTo d (some g) l w w3) := ⟨r', hq, HK.out.trans hk⟩
  clear hq hk
  go_wp2_with fail
  go_ret2
  exact ⟨rfl, HE.out⟩

set_option maxHeartbeats 1000000 in
theorem drop_some (d : Nat) (r : Option Nat) (l : List Int) (x : Int) (w : World) (h : DQ d r (l ++ [x]) w) :
    Calls Try.prog 24 #[.pointer (some ⟨d, 0, none⟩)] w fun e w' => e = .returned (.tuple #[.int .i64 x, .bool true]) ∧ DTo d r l w w' := by
  rcases h.out with ⟨_, h0, _⟩ | ⟨g, cs, f, rfl, ha⟩
  · simp at h0
  have hroom := ha.room
  have hbx := ha.box
  rw [List.length_append, List.length_singleton] at hroom hbx
  have HA : Keep (Calls Try.prog 34 #[.pointer (some ⟨d, 0, none⟩), .int .i64 (l.length : Int)] w fun e w' => e = .returned (.tuple #[.int .i64 x, .bool true]) ∧ w' = w.drew) := keep (at_in d g cs f (l ++ [x]) l.length x w ha (by simp))
  obtain ⟨_, _, c2', _⟩ := hbx.cells
  have HL := keep (len_any d (l.length + 1) w c2')
  rw [show ((l.length + 1 : Nat) : Int) = (l.length : Int) + 1 by omega] at HL
  obtain ⟨w1, hw1⟩ : ∃ w1, w1 = (w.drew.setCell ⟨g, wr cs.length (f + l.length), none⟩ (.int .i64 0)).drew := ⟨_, rfl⟩
  have HC : Keep (Calls Try.prog 35 #[.pointer (some ⟨d, 0, none⟩), .int .i64 (l.length : Int)] w.drew fun e w' => e = .returned (.tuple #[]) ∧ w' = w1) := by
    rw [hw1]
    exact keep (clear_any d g cs f (l ++ [x]) l.length w.drew ha.drew (by omega))
  have hb1 : DBox d (some ⟨g, 0, none⟩) cs.length f (l.length + 1) w1 := by
    rw [hw1]
    exact (heap_setCell_other _ _ d _ ha.ne.symm).trans hbx
  have hg1 : w1.heap[g]? = some (.cells (cs.set (wr cs.length (f + l.length)) (.int .i64 0)).toArray 3 (0, 0)) := by
    rw [hw1]
    exact ha.drew.put _ _
  have hk1 : DKept d (some g) (some g) w w1 := by
    rw [hw1]
    exact dkept_drew' (dkept_put (dkept_drew _ _ _) _ _ (.inr rfl))
  obtain ⟨_, _, c2, _, _, z2⟩ := hb1.cells
  have HQ : Keep (DQ d (some g) l (w1.setCell ⟨d, 2, none⟩ (.int .i64 (l.length : Int)))) := ⟨by
    have hr := ha.ring
    rw [List.map_append] at hr
    have hp := hr.drop (.int .i64 0)
    rw [List.length_map] at hp
    have ha2 : DAt d g (cs.set (wr cs.length (f + l.length)) (.int .i64 0)) f l (w1.setCell ⟨d, 2, none⟩ (.int .i64 (l.length : Int))) := by
      refine ⟨?_, ?_, ha.ne, by rw [List.length_set]; exact ha.le, hp⟩
      · rw [List.length_set]
        exact hb1.set2 _
      · rw [heap_setCell_other _ _ _ _ ha.ne]
        exact hg1
    exact ha2.dq⟩
  have HK : Keep (DKept d (some g) (some g) w (w1.setCell ⟨d, 2, none⟩ (.int .i64 (l.length : Int)))) := ⟨dkept_put hk1 _ _ (.inl rfl)⟩
  have hle := ha.le
  have hkI : (l.length : Int) ≤ 1000000 := by omega
  have HN := keep (narrow_any d (some g) l _ HQ.out)
  rw [show ((l.length + 1 : Nat) : Int) = (l.length : Int) + 1 by omega] at c2
  clear h ha hroom hw1 hb1 hg1 hk1 hle HQ hbx c2'
  go_enter Try.func24, Try.ntmps24
  go_wp2_with fail
  refine HL.out.mono ?_
  rintro e w2 ⟨rfl, rfl⟩
  go_wp2_with fail
  refine HA.out.mono ?_
  rintro e w' ⟨rfl, rfl⟩
  go_wp2_with fail
  refine HC.out.mono ?_
  rintro e w' ⟨rfl, rfl⟩
  go_wp2_with fail
  refine HN.out.mono ?_
  rintro e w3 ⟨rfl, r', hq, hk⟩
  have HE : Keep (DTo d (some g) l w w3) := ⟨r', hq, HK.out.trans hk⟩
  clear hq hk
  go_wp2_with fail
  go_ret2
  exact ⟨rfl, HE.out⟩
end Go.Proofs.Ytphjemnmbbeieaa.I
