/-
  Rows of nodes in memory; the program's there and End; the document's End.
-/
import Derived.Test.YtgodjgbdjgiapaaTreeM
import Derived.Test.YtgodjgbdjgiapaaTokS
import Derived.Test.YtgodjgbdjgiapaaChecked
import Derived.Test.YtgodjgbdjgiapaaBox
import Derived.BigQuiet
import Derived.Deep.QuietTactic
namespace Go.Proofs.Ytgodjgbdjgiapaa
open Go.RowKit Go.Joins

/-! ### Rows of nodes -/
def ncs : List Nd → List Value
  | [] => []
  | x :: r => .int .i64 x.O :: .string x.S :: .int .i64 x.N :: .int .i64 x.K :: .int .i64 x.A :: ncs r
theorem ncs_append (a b : List Nd) : ncs (a ++ b) = ncs a ++ ncs b := by
  induction a with
  | nil => rfl
  | cons x a ih => rw [List.cons_append, ncs, ncs, ih]; rfl
theorem ncs_len : ∀ l, (ncs l).length = l.length * 5
  | [] => rfl
  | t :: r => by rw [ncs]; simp only [List.length_cons]; rw [ncs_len r]; omega
theorem ncs_at : ∀ (l : List Nd) (i : Nat) (x : Nd), l[i]? = some x → ∀ j u, x.cs[j]? = some u → (ncs l)[i * 5 + j]? = some u
  | [], i, x, h => by simp at h
  | y :: r, 0, x, h => by
    obtain rfl : y = x := by simpa using h
    intro j u hj
    have hjl : j < 5 := (List.getElem?_eq_some_iff.1 hj).1
    rw [Nat.zero_mul, Nat.zero_add]
    match j, hjl, hj with
    | 0, _, hj => exact hj
    | 1, _, hj => exact hj
    | 2, _, hj => exact hj
    | 3, _, hj => exact hj
    | 4, _, hj => exact hj
  | y :: r, i + 1, x, h => by
    intro j u hj
    have ih := ncs_at r i x (by simpa using h) j u hj
    rw [show (i + 1) * 5 + j = i * 5 + j + 1 + 1 + 1 + 1 + 1 by omega, ncs]
    simpa using ih
/-- The cells of the node at place p of block b. -/
def NdAt (w : World) (b p : Nat) (x : Nd) : Prop :=
  w.cell? ⟨b, p, none⟩ = some (.int .i64 x.O) ∧ w.cell? ⟨b, p + 1, none⟩ = some (.string x.S) ∧ w.cell? ⟨b, p + 2, none⟩ = some (.int .i64 x.N) ∧ w.cell? ⟨b, p + 3, none⟩ = some (.int .i64 x.K) ∧ w.cell? ⟨b, p + 4, none⟩ = some (.int .i64 x.A)
theorem NdAt.below {B b p : Nat} {w w' : World} {x : Nd} (h : NdAt w b p x) (hb : Below B w w') (hlt : b < B) : NdAt w' b p x :=
  ⟨(hb.cell (p := ⟨b, p, none⟩) hlt).trans h.1, (hb.cell (p := ⟨b, p + 1, none⟩) hlt).trans h.2.1, (hb.cell (p := ⟨b, p + 2, none⟩) hlt).trans h.2.2.1, (hb.cell (p := ⟨b, p + 3, none⟩) hlt).trans h.2.2.2.1, (hb.cell (p := ⟨b, p + 4, none⟩) hlt).trans h.2.2.2.2⟩
/-- The slice v reads as the nodes, in a block below B. -/
structure NdRow (B : Nat) (w : World) (v : Value) (l : List Nd) : Prop where
  room : l.length ≤ 9223372036854775807
  ok : ∀ x ∈ l, x.ok
  out : (l = [] ∧ ∃ o cap, v = .slice o 0 cap) ∨ ∃ b off cap, v = .slice (some ⟨b, off, none⟩) l.length cap ∧ b < B ∧ l.length ≤ cap ∧ ∀ i x, l[i]? = some x → NdAt w b (off + i * 5) x
theorem NdRow.below {B : Nat} {w w' : World} {v : Value} {l : List Nd} (h : NdRow B w v l) (hb : Below B w w') : NdRow B w' v l := by
  refine ⟨h.room, h.ok, ?_⟩
  rcases h.out with h | ⟨b, off, cap, h1, h2, h4, h3⟩
  · exact .inl h
  · exact .inr ⟨b, off, cap, h1, h2, h4, fun i x hi => (h3 i x hi).below hb h2⟩
theorem NdRow.mono {B B' : Nat} {w : World} {v : Value} {l : List Nd} (h : NdRow B w v l) (hb : B ≤ B') : NdRow B' w v l := by
  refine ⟨h.room, h.ok, ?_⟩
  rcases h.out with h | ⟨b, off, cap, h1, h2, h4, h3⟩
  · exact .inl h
  · exact .inr ⟨b, off, cap, h1, by omega, h4, h3⟩
theorem NdRow.to {w w' : World} {v : Value} {l : List Nd} (h : NdRow w.heap.size w v l) (hb : Below w.heap.size w w') : NdRow w'.heap.size w' v l := (h.below hb).mono hb.size
theorem NdRow.nil (B : Nat) (w : World) : NdRow B w (.slice none 0 0) [] := ⟨by simp, fun x h => by simp at h, .inl ⟨rfl, _, _, rfl⟩⟩
theorem NdRow.form {B : Nat} {w : World} {v : Value} {l : List Nd} (h : NdRow B w v l) : ∃ o cap, v = .slice o l.length cap ∧ ∀ i x, l[i]? = some x → x.ok ∧ ∃ b off, o = some ⟨b, off, none⟩ ∧ b < B ∧ ∀ W, Below B w W → NdAt W b (off + i * 5) x := by
  rcases h.out with ⟨rfl, o, cap, rfl⟩ | ⟨b, off, cap, rfl, hb, _, hc⟩
  · exact ⟨o, cap, rfl, fun i x hi => by simp at hi⟩
  · exact ⟨_, cap, rfl, fun i x hi => ⟨h.ok x (List.mem_of_getElem? hi), b, off, rfl, hb, fun W hW => (hc i x hi).below hW hb⟩⟩
theorem NdRow.of_own {B : Nat} {w : World} {v : Value} {l : List Nd} (h : w.ownsRow B 39 5 v l.length (ncs l)) (hl : l.length ≤ 9223372036854775807) (hok : ∀ x ∈ l, x.ok) : NdRow w.heap.size w v l := by
  refine ⟨hl, hok, ?_⟩
  rcases h.2 with ⟨rfl, h0⟩ | ⟨g, cap, cur, rfl, hb, hg, hcap, _⟩
  · exact .inl ⟨List.length_eq_zero_iff.1 h0, _, _, rfl⟩
  · refine .inr ⟨g, 0, cap, rfl, (Array.getElem?_eq_some_iff.1 hg).1, hcap, fun i x hi => ?_⟩
    have ea : ∀ j, (⟨g, 0, none⟩ : Addr).add j = ⟨g, 0 + j, none⟩ := fun j => by unfold Addr.add; split <;> simp_all
    have key : ∀ j u, x.cs[j]? = some u → w.cell? ⟨g, 0 + i * 5 + j, none⟩ = some u := fun j u hj => by
      have h0 := h.cells (g := g) rfl (i * 5 + j) _ (ncs_at l i x hi j u hj)
      rw [ea] at h0
      rw [Nat.add_assoc]; exact h0
    exact ⟨key 0 _ rfl, key 1 _ rfl, key 2 _ rfl, key 3 _ rfl, key 4 _ rfl⟩
/-- The first n of them. -/
theorem NdRow.take {B : Nat} {w : World} {o : Option Addr} {len cap : Nat} {l : List Nd} {n : Nat} (h : NdRow B w (.slice o len cap) l) (hn : n ≤ l.length) : NdRow B w (.slice o n cap) (l.take n) := by
  have e : (l.take n).length = n := by rw [List.length_take]; omega
  have hr := h.room
  refine ⟨by omega, fun x hx => h.ok x (List.mem_of_mem_take hx), ?_⟩
  rcases h.out with ⟨rfl, _⟩ | ⟨b', off', cap', h1, h2, h4, h3⟩
  · have : n = 0 := by simpa using hn
    subst this
    exact .inl ⟨rfl, _, _, rfl⟩
  · injection h1 with h1 h1' h1''
    subst h1 h1''
    refine .inr ⟨b', off', cap, by rw [e], h2, by omega, fun i x hi => ?_⟩
    rw [List.getElem?_take] at hi
    split at hi
    · exact h3 i x hi
    · cases hi

/-! ### The program's there -/
theorem there_any (v : Value) (l : List Nd) (i : Int) (w : World) (h : NdRow w.heap.size w v l) : Calls Try.prog 24 #[v, .int .i64 i] w fun e w' => e = .returned (.bool (decide (0 ≤ i ∧ i < l.length))) ∧ w = w' := by
  obtain ⟨o, cap, rfl, -⟩ := h.form
  clear h
  by_cases h0 : 0 ≤ i
  · go_enter Try.func24, Try.ntmps24
    go_wp2_with fail
    go_ret
    exact ⟨ret_bool (by simp [h0]), rfl⟩
  · have hd : decide (0 ≤ i ∧ i < (l.length : Int)) = false := decide_eq_false (fun c => h0 c.1)
    rw [hd]
    clear hd
    go_enter Try.func24, Try.ntmps24
    go_wp2_with fail
    go_ret
    exact ⟨rfl, rfl⟩

/-- Between two rounds of End. -/
structure EndAt (l : List Nd) (i m a : Nat) : Prop where
  out : 1 ≤ m ∧ m ≤ 1 + a * 1000 ∧ a ≤ l.length ∧ a + tk m ((ks l).drop a) = endN (ks l) i
theorem EndAt.step {l : List Nd} {i m a : Nat} {x : Nd} (h : EndAt l i m a) (hx : l[a]? = some x) (hn : l.length ≤ 1000) : (m + min x.K.toNat l.length = 1 ∧ endN (ks l) i = a + 1) ∨ (1 < m + min x.K.toNat l.length ∧ EndAt l i (m + min x.K.toNat l.length - 1) (a + 1)) := by
  obtain ⟨h1, h2, h3, h4⟩ := h.out
  obtain ⟨hl, e⟩ := ks_get hx
  have hal := (List.getElem?_eq_some_iff.1 hx).1
  obtain ⟨m', rfl⟩ : ∃ m', m = m' + 1 := ⟨m - 1, by omega⟩
  rw [drop_at hl, e, tk_cons, ← tk_cap (c := l.length) (by rw [List.length_drop, ks_len]; omega)] at h4
  by_cases hz : m' + min x.K.toNat l.length = 0
  · rw [hz, tk_zero] at h4
    exact .inl ⟨by omega, by omega⟩
  · exact .inr ⟨by omega, ⟨by omega, by omega, by omega, by rw [show m' + 1 + min x.K.toNat l.length - 1 = m' + min x.K.toNat l.length by omega]; omega⟩⟩
theorem EndAt.fin {l : List Nd} {i m a : Nat} (h : EndAt l i m a) (ha : l.length ≤ a) : (endN (ks l) i : Int) = l.length := by
  obtain ⟨h1, h2, h3, h4⟩ := h.out
  rw [List.drop_eq_nil_of_le (by rw [ks_len]; omega), tk_nil] at h4
  omega

set_option maxHeartbeats 2000000 in
theorem end_any (v : Value) (l : List Nd) (i : Int) (hn : l.length ≤ 1000) (w : World) (h : NdRow w.heap.size w v l) :
    Calls Try.prog 10 #[v, .int .i64 i] w fun e w' => e = .returned (.int .i64 (endI l i)) ∧ w = w' := by
  have HT := keep (there_any v l i w h)
  by_cases hin : 0 ≤ i ∧ i < l.length
  · obtain ⟨i, rfl⟩ := Int.eq_ofNat_of_zero_le hin.1
    rw [decide_eq_true hin] at HT
    have H0 : Keep (EndAt l i 1 i) := ⟨⟨⟨Nat.le_refl _, by omega, by omega, rfl⟩⟩⟩
    rw [endI_in (by omega)]
    obtain ⟨o, cap, rfl, hf⟩ := h.form
    have HF := keep hf
    have HN := keep hn
    have HST := keep (fun m a x (h : EndAt l i m a) (hx : l[a]? = some x) => h.step hx hn)
    have HFIN := keep (fun m a (h : EndAt l i m a) (ha : l.length ≤ a) => h.fin ha)
    have hil : i < l.length := by omega
    obtain ⟨n, hnn⟩ : ∃ n, n = l.length := ⟨_, rfl⟩
    have HNN := keep hnn
    rw [← hnn] at HST HFIN HN HT hil ⊢
    have hnI : (n : Int) ≤ 1000 := by have := HN.out; omega
    generalize endN (ks l) i = R at *
    clear h hf hin hn hnn
    go_enter Try.func10, Try.ntmps10
    go_wp2_with fail
    refine HT.out.mono ?_
    rintro e w' ⟨rfl, rfl⟩
    clear HT
    go_wp2_with fail
    go_loop [5, 6] (fun mv av => ∃ m a : Nat, mv = .int .i64 (m : Int) ∧ av = .int .i64 (a : Int) ∧ a ≤ n ∧ 1 ≤ m ∧ Keep (EndAt l i m a)) (fun _ av => n - (intOf av).toNat)
    case atStart => exact ⟨1, i, rfl, rfl, by omega, Nat.le_refl _, H0⟩
    case round =>
      obtain ⟨m, a, rfl, rfl, ha, hm1, HE⟩ := hrel
      clear H0 hil
      by_cases hlt : a < n
      · obtain ⟨x, hx⟩ := get_of_lt (l := l) (i := a) (by rw [← HNN.out]; exact hlt)
        obtain ⟨hok, b, off, rfl, hb, hc⟩ := HF.out a x hx
        obtain ⟨c0, c1, c2, c3, c4⟩ := hc w (Below.refl _ _)
        have hst := HST.out m a x HE.out hx
        have hmb : (m : Int) ≤ 1 + (a : Int) * 1000 := by have := HE.out.out.2.1; omega
        have hltI : (a : Int) < (n : Int) := by omega
        have hmI : (1 : Int) ≤ (m : Int) := by omega
        obtain ⟨u, hu⟩ : ∃ u, u = min x.K.toNat n := ⟨_, rfl⟩
        rw [← hu] at hst
        have hun : u ≤ n := by omega
        obtain ⟨q, hq⟩ : ∃ q, q = m + u - 1 := ⟨_, rfl⟩
        have hw1 : IntKind.i64.wrap ((u : Int) - 1) = (u : Int) - 1 := IntWalk.i64_in _ ⟨by omega, by omega⟩
        have hw2 : IntKind.i64.wrap ((m : Int) + ((u : Int) - 1)) = (q : Int) := by
          rw [show (m : Int) + ((u : Int) - 1) = (q : Int) by omega]
          exact IntWalk.i64_in _ ⟨by omega, by omega⟩
        have hv : (x.K < 0 ∧ u = 0) ∨ (0 ≤ x.K ∧ x.K ≤ n ∧ x.K = (u : Int)) ∨ (0 ≤ x.K ∧ (n : Int) < x.K ∧ u = n) := by omega
        have HU := keep hu
        generalize hK : x.K = k at *
        have HKK := keep hK
        have HSTK := keep hst
        have hqz : ((q : Int) == 0) = decide (m + u = 1) := by
          by_cases hz : m + u = 1
          · rw [decide_eq_true hz]; simp; omega
          · rw [decide_eq_false hz]; simp; omega
        have HQZ := keep hqz
        have HMB := keep hmb
        clear hx hok hc hb hst hu hqz hK
        by_cases hz : m + u = 1
        · have hqb : ((q : Int) == 0) = true := by rw [HQZ.out, decide_eq_true hz]
          have HE1 : Keep ((a : Int) + 1 = (R : Int)) := ⟨by
            rcases HSTK.out with ⟨_, h⟩ | ⟨h, _⟩
            · omega
            · omega⟩
          have hm2 : (m : Int) ≤ 1000001 := by omega
          rcases hv with ⟨hk, rfl⟩ | ⟨hk, hk2, rfl⟩ | ⟨hk, hk2, rfl⟩
          · have hqb' : ((m : Int) + -1 == 0) = true := by simp; omega
            clear hz hq hmb hw1 hw2 hqb
            go_wp2_with fail
            go_ret
            exact ⟨by rw [← HE1.out]; first | rfl | (exact ret_int (by go_num)), rfl⟩
          all_goals
            clear hz hq hmb
            go_wp2_with fail
            go_ret
            exact ⟨by rw [← HE1.out]; first | rfl | (exact ret_int (by go_num)), rfl⟩
        · have hqb : ((q : Int) == 0) = false := by rw [HQZ.out, decide_eq_false hz]
          have HE1 : Keep (EndAt l i q (a + 1)) := ⟨by
            rcases HSTK.out with ⟨h, _⟩ | ⟨_, h⟩
            · exact absurd h hz
            · rw [hq]; exact h⟩
          have hq1 : 1 ≤ q := by omega
          have hm2 : (m : Int) ≤ 1000001 := by omega
          rcases hv with ⟨hk, rfl⟩ | ⟨hk, hk2, rfl⟩ | ⟨hk, hk2, rfl⟩
          · have hqb' : ((m : Int) + -1 == 0) = false := by simp; omega
            have hqq : (m : Int) + -1 = (q : Int) := by omega
            clear hz hmb hw1 hw2 hqb
            go_wp2_with fail
            go_round
            case rel => exact ⟨q, a + 1, val_int (by omega), by go_num, by omega, hq1, HE1⟩
            case measure => simp [intOf]; omega
          all_goals
            clear hz hq hmb
            go_wp2_with fail
            go_round
            case rel => exact ⟨q, a + 1, rfl, by go_num, by omega, hq1, HE1⟩
            case measure => simp [intOf]; omega
      · have HE1 := keep (HFIN.out m a HE.out (by omega))
        have hlt2 : ¬ ((a : Int) < (n : Int)) := by omega
        clear hlt
        go_wp2_with fail
        go_ret
        exact ⟨ret_int HE1.out.symm, rfl⟩
  · rw [decide_eq_false hin] at HT
    rw [endI_out hin]
    obtain ⟨o, cap, rfl, -⟩ := h.form
    clear h hin hn
    go_enter Try.func10, Try.ntmps10
    go_wp2_with fail
    refine HT.out.mono ?_
    rintro e w' ⟨rfl, rfl⟩
    clear HT
    go_wp2_with fail
    go_ret
    exact ⟨rfl, rfl⟩

/-! ### The document's End -/
set_option maxHeartbeats 2000000 in
theorem rend_to (v : Value) (l : List Nd) (hn : l.length ≤ 1000) : ∀ (d : Nat) (i : Int) (w : World), NdRow w.heap.size w v l → (l.length : Int) - i ≤ d →
    Calls Try.prog 11 #[v, .int .i64 i] w fun e w' => e = .returned (.int .i64 (endI l i)) ∧ w = w' := by
  intro d
  induction d with
  | zero =>
    intro i w h hd
    have hin : ¬ (0 ≤ i ∧ i < l.length) := by omega
    rw [endI_out hin]
    obtain ⟨o, cap, rfl, -⟩ := h.form
    have h1 : ¬ (i < 0) := by omega
    have h2 : (l.length : Int) ≤ i := by omega
    clear h hin hd
    go_enter Try.func11, Try.ntmps11
    go_wp2_with fail
    go_ret
    exact ⟨rfl, rfl⟩
  | succ d ih =>
    intro i w h hd
    by_cases hneg : i < 0
    · rw [endI_out (by omega)]
      obtain ⟨o, cap, rfl, -⟩ := h.form
      clear h hd ih
      go_enter Try.func11, Try.ntmps11
      go_wp2_with fail
      go_ret
      exact ⟨rfl, rfl⟩
    · by_cases hge : (l.length : Int) ≤ i
      · rw [endI_out (by omega)]
        obtain ⟨o, cap, rfl, -⟩ := h.form
        clear h hd ih
        go_enter Try.func11, Try.ntmps11
        go_wp2_with fail
        go_ret
        exact ⟨rfl, rfl⟩
      · obtain ⟨i, rfl⟩ := Int.eq_ofNat_of_zero_le (show 0 ≤ i by omega)
        have hil : i < l.length := by omega
        rw [endI_in hil]
        obtain ⟨x, hx⟩ := get_of_lt hil
        obtain ⟨hl, e⟩ := ks_get hx
        have HI : Keep (∀ a : Nat, i < a → a < l.length → Calls Try.prog 11 #[v, .int .i64 (a : Int)] w fun e w' => e = .returned (.int .i64 (endN (ks l) a : Int)) ∧ w = w') := ⟨fun a ha hal => by
          have := ih (a : Int) w h (show (l.length : Int) - (a : Int) ≤ (d : Int) by omega)
          rwa [endI_in hal] at this⟩
        have HS : Keep (∀ a k : Nat, (k : Int) < x.K → a + tk (x.K.toNat - k) ((ks l).drop a) = endN (ks l) i → endN (ks l) a + tk (x.K.toNat - (k + 1)) ((ks l).drop (endN (ks l) a)) = endN (ks l) i) := ⟨fun a k hk ha => by
          rw [show x.K.toNat - k = (x.K.toNat - (k + 1)) + 1 by omega, tk_on] at ha
          exact ha⟩
        have HG : Keep (∀ a, a < l.length → a < endN (ks l) a ∧ endN (ks l) a ≤ l.length) := ⟨fun a ha => ⟨endN_gt (by rw [ks_len]; exact ha), by have := endN_le (ks l) (i := a) (by rw [ks_len]; omega); rwa [ks_len] at this⟩⟩
        have HF1 : Keep (∀ a k : Nat, x.K ≤ (k : Int) → a + tk (x.K.toNat - k) ((ks l).drop a) = endN (ks l) i → (a : Int) = (endN (ks l) i : Int)) := ⟨fun a k hk ha => by
          rw [show x.K.toNat - k = 0 by omega, tk_zero] at ha; omega⟩
        have HF2 : Keep (∀ a k : Nat, l.length ≤ a → a + tk (x.K.toNat - k) ((ks l).drop a) = endN (ks l) i → (a : Int) = (endN (ks l) i : Int)) := ⟨fun a k hk ha => by
          rw [List.drop_eq_nil_of_le (by rw [ks_len]; omega), tk_nil] at ha; omega⟩
        have H0 : Keep (i + 1 + tk (x.K.toNat - 0) ((ks l).drop (i + 1)) = endN (ks l) i) := ⟨by
          rw [endN, drop_at hl, show (1 : Nat) = 0 + 1 by rfl, tk_cons, e]; simp; omega⟩
        obtain ⟨o, cap, rfl, hf⟩ := h.form
        obtain ⟨hok, b, off, rfl, hb, hc⟩ := hf i x hx
        obtain ⟨c0, c1, c2, c3, c4⟩ := hc w (Below.refl _ _)
        have hk2 := hok.k2
        obtain ⟨n, hnn⟩ : ∃ n, n = l.length := ⟨_, rfl⟩
        rw [← hnn] at HI HG HF2 hil ⊢
        have hnI : (n : Int) ≤ 1000 := by omega
        have hilI : (i : Int) < (n : Int) := by omega
        have hd1 : decide (n ≤ i) = false := decide_eq_false (by omega)
        have hd2 : decide ((i : Int) < 0) = false := decide_eq_false (by omega)
        generalize x.K = K at *
        generalize endN (ks l) i = R at *
        clear h hf hok hc hb hx e hneg hge hd ih hn hnn hl
        go_enter Try.func11, Try.ntmps11
        go_wp2_with fail
        go_loopw [5, 6] (fun av kv wr => w = wr ∧ ∃ a k : Nat, av = .int .i64 (a : Int) ∧ kv = .int .i64 (k : Int) ∧ i < a ∧ a ≤ n ∧ k ≤ a ∧ Keep (a + tk (K.toNat - k) ((ks l).drop a) = R)) (fun av _ _ => n - (intOf av).toNat)
        case atStart => exact ⟨rfl, i + 1, 0, by go_num, rfl, by omega, by omega, by omega, H0⟩
        case round =>
          obtain ⟨rfl, a, k, rfl, rfl, hia, han, hka, HR⟩ := hrel
          clear H0
          have hanI : (a : Int) ≤ (n : Int) := by omega
          by_cases hkK : (k : Int) < K
          · by_cases hlt : a < n
            · have hltI : (a : Int) < (n : Int) := by omega
              have HC := keep (HI.out a hia hlt)
              have HNX := keep (HS.out a k hkK HR.out)
              obtain ⟨hg1, hg2⟩ := HG.out a hlt
              generalize endN (ks l) a = a' at *
              have hkaI : (k : Int) ≤ (a : Int) := by omega
              go_wp2_with (go_at_call 11; refine HC.out.mono ?_; rintro e w' ⟨rfl, rfl⟩)
              go_roundw
              case rel => exact ⟨trivial, a', k + 1, rfl, by go_num, by omega, hg2, by omega, HNX⟩
              case measure => simp [intOf]; omega
            · have HE := keep (HF2.out a k (by omega) HR.out)
              have hlt2 : ¬ ((a : Int) < (n : Int)) := by omega
              clear hlt
              go_wp2_with fail
              go_ret
              exact ⟨ret_int HE.out, rfl⟩
          · have HE := keep (HF1.out a k (by omega) HR.out)
            go_wp2_with fail
            go_ret
            exact ⟨ret_int HE.out, rfl⟩
theorem rend_any (v : Value) (l : List Nd) (i : Int) (hn : l.length ≤ 1000) (w : World) (h : NdRow w.heap.size w v l) :
    Calls Try.prog 11 #[v, .int .i64 i] w fun e w' => e = .returned (.int .i64 (endI l i)) ∧ w = w' := rend_to v l hn _ i w h (Int.self_le_toNat _)
end Go.Proofs.Ytgodjgbdjgiapaa
