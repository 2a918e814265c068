/-
  Are lists alike: the program's Same, and the document's.
-/
import Derived.Test.YtgodjgbdjgiapaaTreeA
namespace Go.Proofs.Ytgodjgbdjgiapaa
open Go.RowKit Go.Joins

/-- Alike, wherever they stood in the text. -/
def sim (x y : Nd) : Bool := (x.O == y.O) && (x.S.toList == y.S.toList) && (x.N == y.N) && (x.K == y.K)
/-- Are the lists alike? -/
def simL : List Nd → List Nd → Bool
  | [], [] => true
  | x :: l, y :: m => sim x y && simL l m
  | _, _ => false
theorem simL_len : ∀ {l m : List Nd}, l.length ≠ m.length → simL l m = false
  | [], [], h => absurd rfl h
  | x :: l, [], _ => rfl
  | [], y :: m, _ => rfl
  | x :: l, y :: m, h => by rw [simL, simL_len (l := l) (m := m) (by simpa using h), Bool.and_false]
theorem simL_drop {l m : List Nd} {i : Nat} {x y : Nd} (hx : l[i]? = some x) (hy : m[i]? = some y) : simL (l.drop i) (m.drop i) = (sim x y && simL (l.drop (i + 1)) (m.drop (i + 1))) := by
  obtain ⟨h1, rfl⟩ := List.getElem?_eq_some_iff.1 hx
  obtain ⟨h2, rfl⟩ := List.getElem?_eq_some_iff.1 hy
  rw [List.drop_eq_getElem_cons h1, List.drop_eq_getElem_cons h2, simL]
theorem simL_end {l m : List Nd} {i : Nat} (h : l.length = m.length) (hi : l.length ≤ i) : simL (l.drop i) (m.drop i) = true := by
  rw [List.drop_eq_nil_of_le hi, List.drop_eq_nil_of_le (by omega)]; rfl
theorem simL_self (at_ : Int) : ∀ l : List Nd, simL l (l.map (fun x => { x with A := at_ })) = true
  | [] => rfl
  | x :: l => by rw [List.map_cons, simL, simL_self at_ l]; simp [sim]

set_option maxHeartbeats 2000000 in
theorem alike_any (x y : Nd) (w : World) : Calls Try.prog 30 #[x.agg, y.agg] w fun e w' => e = .returned (.bool (sim x y)) ∧ Below w.heap.size w w' := by
  obtain ⟨o, s, n, k, a⟩ := x
  obtain ⟨o', s', n', k', a'⟩ := y
  unfold Nd.agg sim
  simp only
  go_enter Try.func30, Try.ntmps30
  go_wp2_with fail
  all_goals
    go_ret
    exact ⟨ret_bool (by simp_all), ((Below.refl _ w).alloc (Nat.le_refl _) _).alloc (by simp) _⟩

set_option maxHeartbeats 4000000 in
theorem eqf_any (v u : Value) (l m : List Nd) (hl : l.length ≤ 9223372036854775806) (w : World) (h : NdRow w.heap.size w v l) (h' : NdRow w.heap.size w u m) :
    Calls Try.prog 29 #[v, u, .func (.func 30) #[] #[]] w fun e w' => e = .returned (.bool (simL l m)) ∧ Below w.heap.size w w' := by
  obtain ⟨o, cap, rfl, hf⟩ := h.form
  obtain ⟨o', cap', rfl, hf'⟩ := h'.form
  by_cases hlen : l.length = m.length
  · have HF := keep hf
    have HF' := keep hf'
    have H0 : Keep (Below w.heap.size w w ∧ simL l m = simL (l.drop 0) (m.drop 0)) := ⟨Below.refl _ _, rfl⟩
    have HEND := keep (fun i (hi : l.length ≤ i) => simL_end hlen hi)
    obtain ⟨n, hn⟩ : ∃ n, n = l.length := ⟨_, rfl⟩
    have HN := keep hn
    have HM : Keep (n = m.length) := ⟨by omega⟩
    rw [← hlen, ← hn]
    have hnI : (n : Int) ≤ 9223372036854775806 := by omega
    generalize hR : simL l m = R at *
    clear h h' hf hf' hn hlen hl hR
    go_enter Try.func29, Try.ntmps29
    go_wp2_with fail
    go_loopw [17] (fun kv wr => ∃ k : Nat, kv = .int .i64 (k : Int) ∧ k ≤ n ∧ Keep (Below w.heap.size w wr ∧ R = simL (l.drop k) (m.drop k))) (fun kv _ => n - (intOf kv).toNat)
    case atStart => exact ⟨0, rfl, Nat.zero_le _, H0⟩
    case round =>
      obtain ⟨k, rfl, hk, HA⟩ := hrel
      clear H0
      by_cases hlt : k < n
      · obtain ⟨x, hx⟩ := get_of_lt (l := l) (i := k) (by rw [← HN.out]; exact hlt)
        obtain ⟨y, hy⟩ := get_of_lt (l := m) (i := k) (by rw [← HM.out]; exact hlt)
        obtain ⟨_, b, off, rfl, hb, hc⟩ := HF.out k x hx
        obtain ⟨_, b', off', rfl, hb', hc'⟩ := HF'.out k y hy
        obtain ⟨n0, n1, n2, n3, n4⟩ := hc wr HA.out.1
        obtain ⟨m0, m1, m2, m3, m4⟩ := hc' wr HA.out.1
        have hb2 : b < wr.heap.size := Nat.lt_of_lt_of_le hb HA.out.1.size
        have hb2' : b' < wr.heap.size := Nat.lt_of_lt_of_le hb' HA.out.1.size
        have hne : ¬ b' = wr.heap.size := by omega
        have HST : Keep (R = (sim x y && simL (l.drop (k + 1)) (m.drop (k + 1)))) := ⟨by rw [HA.out.2, simL_drop hx hy]⟩
        have HAL := keep (fun W => alike_any x y W)
        have HB2 : Keep (Below w.heap.size w ((wr.alloc (.cells #[.int .i64 x.O, .string x.S, .int .i64 x.N, .int .i64 x.K, .int .i64 x.A] 39)).alloc (.cells #[.int .i64 y.O, .string y.S, .int .i64 y.N, .int .i64 y.K, .int .i64 y.A] 39))) := ⟨(HA.out.1.alloc HA.out.1.size _).alloc (by have := HA.out.1.size; simp; omega) _⟩
        unfold Nd.agg at HAL
        generalize sim x y = q at *
        have hltI : (k : Int) < (n : Int) := by omega
        clear hx hy hc hc' hb hb'
        cases q with
        | true =>
          go_wp2_with fail
          refine (HAL.out _).mono ?_
          rintro e w1 ⟨rfl, hb1⟩
          have HB3 := keep (HB2.out.trans (hb1.mono HB2.out.size))
          clear hb1
          go_wp2_with fail
          go_roundw
          case rel => exact ⟨k + 1, by go_num, by omega, ⟨HB3.out, by rw [HST.out]; rfl⟩⟩
          case measure => simp [intOf]; omega
        | false =>
          have HE : Keep (false = R) := ⟨by rw [HST.out]; rfl⟩
          go_wp2_with fail
          refine (HAL.out _).mono ?_
          rintro e w1 ⟨rfl, hb1⟩
          have HB3 := keep (HB2.out.trans (hb1.mono HB2.out.size))
          clear hb1
          go_wp2_with fail
          go_ret
          exact ⟨ret_bool HE.out, HB3.out⟩
      · have hkn : n = k := by omega
        have HE : Keep (true = R) := ⟨by rw [HA.out.2]; exact (HEND.out k (by have := HN.out; omega)).symm⟩
        subst hkn
        have hdn : decide (n < n) = false := by simp
        clear hlt
        go_wp2_with fail
        go_ret
        exact ⟨ret_bool HE.out, HA.out.1⟩
  · rw [simL_len hlen]
    have hne : ((l.length : Int) != (m.length : Int)) = true := by simp; omega
    clear h h' hf hf' hlen
    go_enter Try.func29, Try.ntmps29
    go_wp2_with fail
    go_ret
    exact ⟨rfl, Below.refl _ _⟩

theorem same_any (v u : Value) (l m : List Nd) (hl : l.length ≤ 9223372036854775806) (w : World) (h : NdRow w.heap.size w v l) (h' : NdRow w.heap.size w u m) :
    Calls Try.prog 18 #[v, u] w fun e w' => e = .returned (.bool (simL l m)) ∧ Below w.heap.size w w' := by
  have HE := keep (eqf_any v u l m hl w h h')
  obtain ⟨o, cap, rfl, -⟩ := h.form
  obtain ⟨o', cap', rfl, -⟩ := h'.form
  clear h h' hl
  go_enter Try.func18, Try.ntmps18
  go_wp2_with fail
  refine HE.out.mono ?_
  rintro e w1 ⟨rfl, hb⟩
  have HB := keep hb
  clear hb HE
  go_wp2_with fail
  go_ret
  exact ⟨rfl, HB.out⟩

set_option maxRecDepth 100000 in
set_option maxHeartbeats 8000000 in
theorem rsame_any (v u : Value) (l m : List Nd) (hl : l.length ≤ 9223372036854775806) (w : World) (h : NdRow w.heap.size w v l) (h' : NdRow w.heap.size w u m) :
    Calls Try.prog 19 #[v, u] w fun e w' => e = .returned (.bool (simL l m)) ∧ Below w.heap.size w w' := by
  obtain ⟨o, cap, rfl, hf⟩ := h.form
  obtain ⟨o', cap', rfl, hf'⟩ := h'.form
  by_cases hlen : l.length = m.length
  · have HF := keep hf
    have HF' := keep hf'
    have H0 : Keep (Below w.heap.size w w ∧ simL l m = simL (l.drop 0) (m.drop 0)) := ⟨Below.refl _ _, rfl⟩
    have HEND := keep (fun i (hi : l.length ≤ i) => simL_end hlen hi)
    obtain ⟨n, hn⟩ : ∃ n, n = l.length := ⟨_, rfl⟩
    have HN := keep hn
    have HM : Keep (n = m.length) := ⟨by omega⟩
    rw [← hlen, ← hn]
    have hnI : (n : Int) ≤ 9223372036854775806 := by omega
    generalize hR : simL l m = R at *
    clear h h' hf hf' hn hlen hl hR
    go_enter Try.func19, Try.ntmps19
    go_wp2_with fail
    go_loopw [5] (fun kv wr => ∃ k : Nat, kv = .int .i64 (k : Int) ∧ k ≤ n ∧ Keep (Below w.heap.size w wr ∧ R = simL (l.drop k) (m.drop k))) (fun kv _ => n - (intOf kv).toNat)
    case atStart => exact ⟨0, rfl, Nat.zero_le _, H0⟩
    case round =>
      obtain ⟨k, rfl, hk, HA⟩ := hrel
      clear H0
      by_cases hlt : k < n
      · obtain ⟨x, hx⟩ := get_of_lt (l := l) (i := k) (by rw [← HN.out]; exact hlt)
        obtain ⟨y, hy⟩ := get_of_lt (l := m) (i := k) (by rw [← HM.out]; exact hlt)
        obtain ⟨_, b, off, rfl, hb, hc⟩ := HF.out k x hx
        obtain ⟨_, b', off', rfl, hb', hc'⟩ := HF'.out k y hy
        obtain ⟨n0, n1, n2, n3, n4⟩ := hc wr HA.out.1
        obtain ⟨m0, m1, m2, m3, m4⟩ := hc' wr HA.out.1
        have HST : Keep (R = (sim x y && simL (l.drop (k + 1)) (m.drop (k + 1)))) := ⟨by rw [HA.out.2, simL_drop hx hy]⟩
        have hltI : (k : Int) < (n : Int) := by omega
        obtain ⟨xo, xs, xn, xk, xa⟩ := x
        obtain ⟨yo, ys, yn, yk, ya⟩ := y
        simp only at n0 n1 n2 n3 n4 m0 m1 m2 m3 m4
        unfold sim at HST
        simp only at HST
        clear hx hy hc hc' hb hb'
        by_cases e1 : xo = yo
        · have f1 : (xo != yo) = false := by simp [e1]
          have g1 : (xo == yo) = true := by simp [e1]
          by_cases e2 : xs.toList = ys.toList
          · have f2 : (xs.toList != ys.toList) = false := by simp [e2]
            have g2 : (xs.toList == ys.toList) = true := by simp [e2]
            by_cases e3 : xn = yn
            · have f3 : (xn != yn) = false := by simp [e3]
              have g3 : (xn == yn) = true := by simp [e3]
              by_cases e4 : xk = yk
              · have f4 : (xk != yk) = false := by simp [e4]
                have g4 : (xk == yk) = true := by simp [e4]
                rw [g1, g2, g3, g4] at HST
                clear e1 e2 e3 e4
                go_wp2_with fail
                go_quiet (fail)
                go_wp2_with fail
                go_roundw
                case rel => exact ⟨k + 1, by go_num, by omega, ⟨HA.out.1.trans (below_draws _ _ _), by rw [HST.out]; rfl⟩⟩
                case measure => simp [intOf]; omega
              · have f4 : (xk != yk) = true := by simpa using e4
                have g4 : (xk == yk) = false := by simpa using e4
                rw [g1, g2, g3, g4] at HST
                clear e1 e2 e3 e4
                go_wp2_with fail
                go_quiet (fail)
                go_wp2_with fail
                go_ret
                exact ⟨ret_bool HST.out.symm, HA.out.1.trans (below_draws _ _ _)⟩
            · have f3 : (xn != yn) = true := by simpa using e3
              have g3 : (xn == yn) = false := by simpa using e3
              rw [g1, g2, g3] at HST
              clear e1 e2 e3
              go_wp2_with fail
              go_quiet (fail)
              go_wp2_with fail
              go_ret
              exact ⟨ret_bool (by rw [HST.out]; simp), HA.out.1.trans (below_draws _ _ _)⟩
          · have f2 : (xs.toList != ys.toList) = true := by simpa using e2
            have g2 : (xs.toList == ys.toList) = false := by simpa using e2
            rw [g1, g2] at HST
            clear e1 e2
            go_wp2_with fail
            go_quiet (fail)
            go_wp2_with fail
            go_ret
            exact ⟨ret_bool (by rw [HST.out]; simp), HA.out.1.trans (below_draws _ _ _)⟩
        · have f1 : (xo != yo) = true := by simpa using e1
          have g1 : (xo == yo) = false := by simpa using e1
          rw [g1] at HST
          clear e1
          go_wp2_with fail
          go_quiet (fail)
          go_wp2_with fail
          go_ret
          exact ⟨ret_bool (by rw [HST.out]; simp), HA.out.1.trans (below_draws _ _ _)⟩
      · have hkn : n = k := by omega
        have HE : Keep (true = R) := ⟨by rw [HA.out.2]; exact (HEND.out k (by have := HN.out; omega)).symm⟩
        subst hkn
        have hdn : decide (n < n) = false := by simp
        clear hlt
        go_wp2_with fail
        go_ret
        exact ⟨ret_bool HE.out, HA.out.1⟩
  · rw [simL_len hlen]
    have hne : ((l.length : Int) != (m.length : Int)) = true := by simp; omega
    clear h h' hf hf' hlen
    go_enter Try.func19, Try.ntmps19
    go_wp2_with fail
    go_ret
    exact ⟨rfl, Below.refl _ _⟩
end Go.Proofs.Ytgodjgbdjgiapaa
