/-
  The program's functions on nodes: class, name, N, row of a kind; whether a node fits. (Laid by tools/gen/treeP.py.)
-/
import Derived.Test.YtgodjgbdjgiapaaTreeA
import Derived.Test.YtgodjgbdjgiapaaTreeN
import Derived.Test.YtgodjgbdjgiapaaAny
namespace Go.Proofs.Ytgodjgbdjgiapaa
open Go.RowKit Go.Joins

theorem name_s (s : ByteArray) (hs : s.size ≤ 9223372036854775807) (w : World) : Calls Try.prog 47 #[.string s] w fun e w' => e = .returned (.bool (nmP s)) ∧ w = w' := by
  have := isname_any s.data.toList (by rw [← size_list]; exact hs) w
  rw [str_eta] at this
  exact this

set_option maxHeartbeats 2000000 in
theorem class_any (op : Int) (w : World) : Calls Try.prog 25 #[.int .i64 op] w fun e w' => e = .returned (.int .u8 (ob (clsOf op))) ∧ w = w' := by
  by_cases h0 : op = 33
  · subst h0
    rw [show clsOf 33 = 82 from rfl]
    go_enter Try.func25, Try.ntmps25
    go_wp2_with fail
    go_ret
    exact ⟨rfl, rfl⟩
  have n0 : (op == 33) = false := by simpa using h0
  by_cases h1 : op = 32
  · subst h1
    rw [show clsOf 32 = 66 from rfl]
    go_enter Try.func25, Try.ntmps25
    go_wp2_with fail
    go_ret
    exact ⟨rfl, rfl⟩
  have n1 : (op == 32) = false := by simpa using h1
  by_cases h2 : op = 39
  · subst h2
    rw [show clsOf 39 = 80 from rfl]
    go_enter Try.func25, Try.ntmps25
    go_wp2_with fail
    go_ret
    exact ⟨rfl, rfl⟩
  have n2 : (op == 39) = false := by simpa using h2
  by_cases h3 : op = 42
  · subst h3
    rw [show clsOf 42 = 85 from rfl]
    go_enter Try.func25, Try.ntmps25
    go_wp2_with fail
    go_ret
    exact ⟨rfl, rfl⟩
  have n3 : (op == 42) = false := by simpa using h3
  have hw : (op ≤ 0) ∨ (1 ≤ op ∧ op ≤ 17) ∨ (18 ≤ op ∧ op ≤ 31) ∨ (34 ≤ op ∧ op ≤ 37) ∨ (38 ≤ op ∧ op ≤ 41) ∨ (43 ≤ op) := by omega
  rcases hw with hb | ⟨ha, hb⟩ | ⟨ha, hb⟩ | ⟨ha, hb⟩ | ⟨ha, hb⟩ | ha
  · have hr : clsOf op = 0 := by unfold clsOf; rw [if_neg h0, if_neg h1, if_neg h2, if_neg h3, if_neg (by omega), if_neg (by omega), if_neg (by omega), if_neg (by omega)]
    rw [hr]
    have d0 : decide (1 ≤ op) = false := decide_eq_false (by omega)
    have e0 : decide (op ≤ 17) = true := decide_eq_true (by omega)
    have d1 : decide (18 ≤ op) = false := decide_eq_false (by omega)
    have e1 : decide (op ≤ 31) = true := decide_eq_true (by omega)
    have d2 : decide (34 ≤ op) = false := decide_eq_false (by omega)
    have e2 : decide (op ≤ 37) = true := decide_eq_true (by omega)
    have d3 : decide (38 ≤ op) = false := decide_eq_false (by omega)
    have e3 : decide (op ≤ 41) = true := decide_eq_true (by omega)
    clear hr h0 h1 h2 h3 hb
    go_enter Try.func25, Try.ntmps25
    go_wp2_with fail
    go_ret
    exact ⟨rfl, rfl⟩
  · have hr : clsOf op = 69 := by unfold clsOf; rw [if_neg h0, if_neg h1, if_neg h2, if_neg h3, if_pos (by omega)]
    rw [hr]
    have d0 : decide (1 ≤ op) = true := decide_eq_true (by omega)
    have e0 : decide (op ≤ 17) = true := decide_eq_true (by omega)
    have d1 : decide (18 ≤ op) = false := decide_eq_false (by omega)
    have e1 : decide (op ≤ 31) = true := decide_eq_true (by omega)
    have d2 : decide (34 ≤ op) = false := decide_eq_false (by omega)
    have e2 : decide (op ≤ 37) = true := decide_eq_true (by omega)
    have d3 : decide (38 ≤ op) = false := decide_eq_false (by omega)
    have e3 : decide (op ≤ 41) = true := decide_eq_true (by omega)
    clear hr h0 h1 h2 h3 ha hb
    go_enter Try.func25, Try.ntmps25
    go_wp2_with fail
    go_ret
    exact ⟨rfl, rfl⟩
  · have hr : clsOf op = 83 := by unfold clsOf; rw [if_neg h0, if_neg h1, if_neg h2, if_neg h3, if_neg (by omega), if_pos (by omega)]
    rw [hr]
    have d0 : decide (1 ≤ op) = true := decide_eq_true (by omega)
    have e0 : decide (op ≤ 17) = false := decide_eq_false (by omega)
    have d1 : decide (18 ≤ op) = true := decide_eq_true (by omega)
    have e1 : decide (op ≤ 31) = true := decide_eq_true (by omega)
    have d2 : decide (34 ≤ op) = false := decide_eq_false (by omega)
    have e2 : decide (op ≤ 37) = true := decide_eq_true (by omega)
    have d3 : decide (38 ≤ op) = false := decide_eq_false (by omega)
    have e3 : decide (op ≤ 41) = true := decide_eq_true (by omega)
    clear hr h0 h1 h2 h3 ha hb
    go_enter Try.func25, Try.ntmps25
    go_wp2_with fail
    go_ret
    exact ⟨rfl, rfl⟩
  · have hr : clsOf op = 67 := by unfold clsOf; rw [if_neg h0, if_neg h1, if_neg h2, if_neg h3, if_neg (by omega), if_neg (by omega), if_pos (by omega)]
    rw [hr]
    have d0 : decide (1 ≤ op) = true := decide_eq_true (by omega)
    have e0 : decide (op ≤ 17) = false := decide_eq_false (by omega)
    have d1 : decide (18 ≤ op) = true := decide_eq_true (by omega)
    have e1 : decide (op ≤ 31) = false := decide_eq_false (by omega)
    have d2 : decide (34 ≤ op) = true := decide_eq_true (by omega)
    have e2 : decide (op ≤ 37) = true := decide_eq_true (by omega)
    have d3 : decide (38 ≤ op) = false := decide_eq_false (by omega)
    have e3 : decide (op ≤ 41) = true := decide_eq_true (by omega)
    clear hr h0 h1 h2 h3 ha hb
    go_enter Try.func25, Try.ntmps25
    go_wp2_with fail
    go_ret
    exact ⟨rfl, rfl⟩
  · have hr : clsOf op = 68 := by unfold clsOf; rw [if_neg h0, if_neg h1, if_neg h2, if_neg h3, if_neg (by omega), if_neg (by omega), if_neg (by omega), if_pos (by omega)]
    rw [hr]
    have d0 : decide (1 ≤ op) = true := decide_eq_true (by omega)
    have e0 : decide (op ≤ 17) = false := decide_eq_false (by omega)
    have d1 : decide (18 ≤ op) = true := decide_eq_true (by omega)
    have e1 : decide (op ≤ 31) = false := decide_eq_false (by omega)
    have d2 : decide (34 ≤ op) = true := decide_eq_true (by omega)
    have e2 : decide (op ≤ 37) = false := decide_eq_false (by omega)
    have d3 : decide (38 ≤ op) = true := decide_eq_true (by omega)
    have e3 : decide (op ≤ 41) = true := decide_eq_true (by omega)
    clear hr h0 h1 h2 h3 ha hb
    go_enter Try.func25, Try.ntmps25
    go_wp2_with fail
    go_ret
    exact ⟨rfl, rfl⟩
  · have hr : clsOf op = 0 := by unfold clsOf; rw [if_neg h0, if_neg h1, if_neg h2, if_neg h3, if_neg (by omega), if_neg (by omega), if_neg (by omega), if_neg (by omega)]
    rw [hr]
    have d0 : decide (1 ≤ op) = true := decide_eq_true (by omega)
    have e0 : decide (op ≤ 17) = false := decide_eq_false (by omega)
    have d1 : decide (18 ≤ op) = true := decide_eq_true (by omega)
    have e1 : decide (op ≤ 31) = false := decide_eq_false (by omega)
    have d2 : decide (34 ≤ op) = true := decide_eq_true (by omega)
    have e2 : decide (op ≤ 37) = false := decide_eq_false (by omega)
    have d3 : decide (38 ≤ op) = true := decide_eq_true (by omega)
    have e3 : decide (op ≤ 41) = false := decide_eq_false (by omega)
    clear hr h0 h1 h2 h3 ha
    go_enter Try.func25, Try.ntmps25
    go_wp2_with fail
    go_ret
    exact ⟨rfl, rfl⟩

set_option maxHeartbeats 2000000 in
theorem most_any (op : Int) (w : World) : Calls Try.prog 35 #[.int .i64 op] w fun e w' => e = .returned (.int .i64 (mostP op)) ∧ w = w' := by
  by_cases h0 : op = 1
  · subst h0
    rw [show mostP 1 = 999999999999999999 from rfl]
    go_enter Try.func35, Try.ntmps35
    go_wp2_with fail
    go_ret
    exact ⟨rfl, rfl⟩
  have n0 : (op == 1) = false := by simpa using h0
  by_cases h1 : op = 38
  · subst h1
    rw [show mostP 38 = 16 from rfl]
    go_enter Try.func35, Try.ntmps35
    go_wp2_with fail
    go_ret
    exact ⟨rfl, rfl⟩
  have n1 : (op == 38) = false := by simpa using h1
  by_cases h2 : op = 34
  · subst h2
    rw [show mostP 34 = 1 from rfl]
    go_enter Try.func35, Try.ntmps35
    go_wp2_with fail
    go_ret
    exact ⟨rfl, rfl⟩
  have n2 : (op == 34) = false := by simpa using h2
  by_cases h3 : op = 35
  · subst h3
    rw [show mostP 35 = 1 from rfl]
    go_enter Try.func35, Try.ntmps35
    go_wp2_with fail
    go_ret
    exact ⟨rfl, rfl⟩
  have n3 : (op == 35) = false := by simpa using h3
  by_cases h4 : op = 36
  · subst h4
    rw [show mostP 36 = 1 from rfl]
    go_enter Try.func35, Try.ntmps35
    go_wp2_with fail
    go_ret
    exact ⟨rfl, rfl⟩
  have n4 : (op == 36) = false := by simpa using h4
  have hr : mostP op = 0 := by unfold mostP; rw [if_neg h0, if_neg h1, if_neg (by omega)]
  rw [hr]
  clear hr h0 h1 h2 h3 h4
  go_enter Try.func35, Try.ntmps35
  go_wp2_with fail
  go_ret
  exact ⟨rfl, rfl⟩

theorem either_any (b : Bool) (s t : ByteArray) (w : World) : Calls Try.prog 48 #[.bool b, .string s, .string t] w fun e w' => e = .returned (.string (if b = true then s else t)) ∧ w = w' := by
  cases b with
  | true =>
    go_enter Try.func48, Try.ntmps48
    go_wp2_with fail
    go_ret
    exact ⟨rfl, rfl⟩
  | false =>
    go_enter Try.func48, Try.ntmps48
    go_wp2_with fail
    go_ret
    exact ⟨rfl, rfl⟩

set_option maxHeartbeats 4000000 in
theorem plain_any (op : Int) (w : World) : Calls Try.prog 49 #[.int .i64 op] w fun e w' => e = .returned (.string (str (plainP op))) ∧ w = w' := by
  by_cases h0 : op = 3
  · subst h0
    rw [show plainP 3 = [69] from rfl]
    go_enter Try.func49, Try.ntmps49
    go_wp2_with fail
    go_ret
    exact ⟨rfl, rfl⟩
  have n0 : (op == 3) = false := by simpa using h0
  by_cases h1 : op = 4
  · subst h1
    rw [show plainP 4 = [69] from rfl]
    go_enter Try.func49, Try.ntmps49
    go_wp2_with fail
    go_ret
    exact ⟨rfl, rfl⟩
  have n1 : (op == 4) = false := by simpa using h1
  by_cases h2 : op = 18
  · subst h2
    rw [show plainP 18 = [69] from rfl]
    go_enter Try.func49, Try.ntmps49
    go_wp2_with fail
    go_ret
    exact ⟨rfl, rfl⟩
  have n2 : (op == 18) = false := by simpa using h2
  by_cases h3 : op = 19
  · subst h3
    rw [show plainP 19 = [69] from rfl]
    go_enter Try.func49, Try.ntmps49
    go_wp2_with fail
    go_ret
    exact ⟨rfl, rfl⟩
  have n3 : (op == 19) = false := by simpa using h3
  by_cases h4 : op = 20
  · subst h4
    rw [show plainP 20 = [69] from rfl]
    go_enter Try.func49, Try.ntmps49
    go_wp2_with fail
    go_ret
    exact ⟨rfl, rfl⟩
  have n4 : (op == 20) = false := by simpa using h4
  by_cases h5 : op = 27
  · subst h5
    rw [show plainP 27 = [69] from rfl]
    go_enter Try.func49, Try.ntmps49
    go_wp2_with fail
    go_ret
    exact ⟨rfl, rfl⟩
  have n5 : (op == 27) = false := by simpa using h5
  by_cases h6 : op = 28
  · subst h6
    rw [show plainP 28 = [69] from rfl]
    go_enter Try.func49, Try.ntmps49
    go_wp2_with fail
    go_ret
    exact ⟨rfl, rfl⟩
  have n6 : (op == 28) = false := by simpa using h6
  by_cases h7 : op = 29
  · subst h7
    rw [show plainP 29 = [69] from rfl]
    go_enter Try.func49, Try.ntmps49
    go_wp2_with fail
    go_ret
    exact ⟨rfl, rfl⟩
  have n7 : (op == 29) = false := by simpa using h7
  by_cases h8 : op = 21
  · subst h8
    rw [show plainP 21 = [82, 69] from rfl]
    go_enter Try.func49, Try.ntmps49
    go_wp2_with fail
    go_ret
    exact ⟨rfl, rfl⟩
  have n8 : (op == 21) = false := by simpa using h8
  by_cases h9 : op = 22
  · subst h9
    rw [show plainP 22 = [82] from rfl]
    go_enter Try.func49, Try.ntmps49
    go_wp2_with fail
    go_ret
    exact ⟨rfl, rfl⟩
  have n9 : (op == 22) = false := by simpa using h9
  by_cases h10 : op = 24
  · subst h10
    rw [show plainP 24 = [69, 66] from rfl]
    go_enter Try.func49, Try.ntmps49
    go_wp2_with fail
    go_ret
    exact ⟨rfl, rfl⟩
  have n10 : (op == 24) = false := by simpa using h10
  by_cases h11 : op = 36
  · subst h11
    rw [show plainP 36 = [69, 66] from rfl]
    go_enter Try.func49, Try.ntmps49
    go_wp2_with fail
    go_ret
    exact ⟨rfl, rfl⟩
  have n11 : (op == 36) = false := by simpa using h11
  by_cases h12 : op = 34
  · subst h12
    rw [show plainP 34 = [82, 66] from rfl]
    go_enter Try.func49, Try.ntmps49
    go_wp2_with fail
    go_ret
    exact ⟨rfl, rfl⟩
  have n12 : (op == 34) = false := by simpa using h12
  by_cases h13 : op = 35
  · subst h13
    rw [show plainP 35 = [82, 69, 66] from rfl]
    go_enter Try.func49, Try.ntmps49
    go_wp2_with fail
    go_ret
    exact ⟨rfl, rfl⟩
  have n13 : (op == 35) = false := by simpa using h13
  by_cases h14 : op = 37
  · subst h14
    rw [show plainP 37 = [66] from rfl]
    go_enter Try.func49, Try.ntmps49
    go_wp2_with fail
    go_ret
    exact ⟨rfl, rfl⟩
  have n14 : (op == 37) = false := by simpa using h14
  by_cases h15 : op = 41
  · subst h15
    rw [show plainP 41 = [66] from rfl]
    go_enter Try.func49, Try.ntmps49
    go_wp2_with fail
    go_ret
    exact ⟨rfl, rfl⟩
  have n15 : (op == 41) = false := by simpa using h15
  by_cases ha : 5 ≤ op
  · by_cases hb : op ≤ 17
    · have hr : plainP op = [69, 69] := by unfold plainP; rw [if_neg (by omega), if_neg h8, if_neg h9, if_neg (by omega), if_neg h12, if_neg h13, if_neg (by omega), if_pos ⟨ha, hb⟩]
      rw [hr]
      have d0 : decide (5 ≤ op) = true := decide_eq_true ha
      have d1 : decide (op ≤ 17) = true := decide_eq_true hb
      clear hr h0 h1 h2 h3 h4 h5 h6 h7 h8 h9 h10 h11 h12 h13 h14 h15 ha hb
      go_enter Try.func49, Try.ntmps49
      go_wp2_with fail
      go_ret
      exact ⟨rfl, rfl⟩
    · have hr : plainP op = [] := by unfold plainP; rw [if_neg (by omega), if_neg h8, if_neg h9, if_neg (by omega), if_neg h12, if_neg h13, if_neg (by omega), if_neg (by omega)]
      rw [hr]
      have d0 : decide (5 ≤ op) = true := decide_eq_true ha
      have d1 : decide (op ≤ 17) = false := decide_eq_false hb
      clear hr h0 h1 h2 h3 h4 h5 h6 h7 h8 h9 h10 h11 h12 h13 h14 h15 ha hb
      go_enter Try.func49, Try.ntmps49
      go_wp2_with fail
      go_ret
      exact ⟨rfl, rfl⟩
  · have hr : plainP op = [] := by unfold plainP; rw [if_neg (by omega), if_neg h8, if_neg h9, if_neg (by omega), if_neg h12, if_neg h13, if_neg (by omega), if_neg (by omega)]
    rw [hr]
    have d0 : decide (5 ≤ op) = false := decide_eq_false ha
    clear hr h0 h1 h2 h3 h4 h5 h6 h7 h8 h9 h10 h11 h12 h13 h14 h15 ha
    go_enter Try.func49, Try.ntmps49
    go_wp2_with fail
    go_ret
    exact ⟨rfl, rfl⟩

set_option maxHeartbeats 4000000 in
theorem nameFits_any (x : Nd) (hs : x.S.size ≤ 9223372036854775807) (w : World) : Calls Try.prog 34 #[x.agg] w fun e w' => e = .returned (.bool (nameP x)) ∧ Below w.heap.size w w' := by
  obtain ⟨op, s, n, k, a⟩ := x
  have HN := keep (fun w => name_s s hs w)
  unfold Nd.agg nameP
  simp only
  clear hs
  by_cases h0 : op = 2
  · subst h0
    rw [show isNmd 2 = true from rfl, if_pos rfl]
    go_enter Try.func34, Try.ntmps34
    go_wp2_with fail
    refine (HN.out _).mono ?_
    rintro e w' ⟨rfl, rfl⟩
    go_wp2_with fail
    go_ret
    exact ⟨rfl, (Below.refl _ _).alloc (Nat.le_refl _) _⟩
  have n0 : (op == 2) = false := by simpa using h0
  by_cases h1 : op = 18
  · subst h1
    rw [show isNmd 18 = true from rfl, if_pos rfl]
    go_enter Try.func34, Try.ntmps34
    go_wp2_with fail
    refine (HN.out _).mono ?_
    rintro e w' ⟨rfl, rfl⟩
    go_wp2_with fail
    go_ret
    exact ⟨rfl, (Below.refl _ _).alloc (Nat.le_refl _) _⟩
  have n1 : (op == 18) = false := by simpa using h1
  by_cases h2 : op = 19
  · subst h2
    rw [show isNmd 19 = true from rfl, if_pos rfl]
    go_enter Try.func34, Try.ntmps34
    go_wp2_with fail
    refine (HN.out _).mono ?_
    rintro e w' ⟨rfl, rfl⟩
    go_wp2_with fail
    go_ret
    exact ⟨rfl, (Below.refl _ _).alloc (Nat.le_refl _) _⟩
  have n2 : (op == 19) = false := by simpa using h2
  by_cases h3 : op = 20
  · subst h3
    rw [show isNmd 20 = true from rfl, if_pos rfl]
    go_enter Try.func34, Try.ntmps34
    go_wp2_with fail
    refine (HN.out _).mono ?_
    rintro e w' ⟨rfl, rfl⟩
    go_wp2_with fail
    go_ret
    exact ⟨rfl, (Below.refl _ _).alloc (Nat.le_refl _) _⟩
  have n3 : (op == 20) = false := by simpa using h3
  by_cases h4 : op = 22
  · subst h4
    rw [show isNmd 22 = true from rfl, if_pos rfl]
    go_enter Try.func34, Try.ntmps34
    go_wp2_with fail
    refine (HN.out _).mono ?_
    rintro e w' ⟨rfl, rfl⟩
    go_wp2_with fail
    go_ret
    exact ⟨rfl, (Below.refl _ _).alloc (Nat.le_refl _) _⟩
  have n4 : (op == 22) = false := by simpa using h4
  by_cases h5 : op = 26
  · subst h5
    rw [show isNmd 26 = true from rfl, if_pos rfl]
    go_enter Try.func34, Try.ntmps34
    go_wp2_with fail
    refine (HN.out _).mono ?_
    rintro e w' ⟨rfl, rfl⟩
    go_wp2_with fail
    go_ret
    exact ⟨rfl, (Below.refl _ _).alloc (Nat.le_refl _) _⟩
  have n5 : (op == 26) = false := by simpa using h5
  by_cases h6 : op = 33
  · subst h6
    rw [show isNmd 33 = true from rfl, if_pos rfl]
    go_enter Try.func34, Try.ntmps34
    go_wp2_with fail
    refine (HN.out _).mono ?_
    rintro e w' ⟨rfl, rfl⟩
    go_wp2_with fail
    go_ret
    exact ⟨rfl, (Below.refl _ _).alloc (Nat.le_refl _) _⟩
  have n6 : (op == 33) = false := by simpa using h6
  by_cases h7 : op = 34
  · subst h7
    rw [show isNmd 34 = true from rfl, if_pos rfl]
    go_enter Try.func34, Try.ntmps34
    go_wp2_with fail
    refine (HN.out _).mono ?_
    rintro e w' ⟨rfl, rfl⟩
    go_wp2_with fail
    go_ret
    exact ⟨rfl, (Below.refl _ _).alloc (Nat.le_refl _) _⟩
  have n7 : (op == 34) = false := by simpa using h7
  by_cases h8 : op = 38
  · subst h8
    rw [show isNmd 38 = true from rfl, if_pos rfl]
    go_enter Try.func34, Try.ntmps34
    go_wp2_with fail
    refine (HN.out _).mono ?_
    rintro e w' ⟨rfl, rfl⟩
    go_wp2_with fail
    go_ret
    exact ⟨rfl, (Below.refl _ _).alloc (Nat.le_refl _) _⟩
  have n8 : (op == 38) = false := by simpa using h8
  by_cases h9 : op = 39
  · subst h9
    rw [show isNmd 39 = true from rfl, if_pos rfl]
    go_enter Try.func34, Try.ntmps34
    go_wp2_with fail
    refine (HN.out _).mono ?_
    rintro e w' ⟨rfl, rfl⟩
    go_wp2_with fail
    go_ret
    exact ⟨rfl, (Below.refl _ _).alloc (Nat.le_refl _) _⟩
  have n9 : (op == 39) = false := by simpa using h9
  by_cases h10 : op = 40
  · subst h10
    rw [show isNmd 40 = true from rfl, if_pos rfl]
    go_enter Try.func34, Try.ntmps34
    go_wp2_with fail
    refine (HN.out _).mono ?_
    rintro e w' ⟨rfl, rfl⟩
    go_wp2_with fail
    go_ret
    exact ⟨rfl, (Below.refl _ _).alloc (Nat.le_refl _) _⟩
  have n10 : (op == 40) = false := by simpa using h10
  have hr : isNmd op = false := by unfold isNmd; simp [n0, n1, n2, n3, n4, n5, n6, n7, n8, n9, n10]
  rw [hr, if_neg (by simp)]
  unfold noP
  clear hr h0 h1 h2 h3 h4 h5 h6 h7 h8 h9 h10
  go_enter Try.func34, Try.ntmps34
  go_wp2_with fail
  go_ret
  exact ⟨rfl, (Below.refl _ _).alloc (Nat.le_refl _) _⟩
end Go.Proofs.Ytgodjgbdjgiapaa
