/-
  The document's functions over rows of ints: whether one is there, how many lie below one, the row with one, without one, of things one behind the other.
-/
import Derived.Test.YtjfgnmkgljljbaaSetA
namespace Go.Proofs.Ytjfgnmkgljljbaa
open Go.RowKit

set_option maxHeartbeats 1000000 in
theorem rhas_any {v : Value} {l : List Int} {w : World} (x : Int) (h : RowAt EV w.heap.size w v l) :
    Calls Try.prog 10 #[v, EV x] w fun e w' => e = .returned (.bool (decide (x ∈ l))) ∧ w = w' := by
  obtain ⟨o, cap, rfl, hr⟩ := h.form
  have HR := keep hr
  have hm := h.room
  obtain ⟨n, hn⟩ : ∃ n, n = l.length := ⟨_, rfl⟩
  have HN := keep hn
  rw [← hn] at hm ⊢
  have hmI : (n : Int) ≤ 9223372036854775807 := by omega
  clear h hr hm hn
  go_enter Try.func10, Try.ntmps10
  go_wp2_with fail
  go_loop [5] (fun iv => ∃ k : Nat, iv = .int .i64 (k : Int) ∧ k ≤ n ∧ Keep (x ∉ l.take k)) (fun iv => n - (intOf iv).toNat)
  case atStart => exact ⟨0, rfl, Nat.zero_le _, ⟨by simp⟩⟩
  case round =>
    obtain ⟨k, rfl, hk, HK⟩ := hrel
    by_cases hlt : k < n
    · obtain ⟨y, hy⟩ := get_of_lt (l := l) (i := k) (by rw [← HN.out]; exact hlt)
      obtain ⟨b, off, rfl, hb, hc⟩ := HR.out k y hy
      have hcell := hc w (Below.refl _ _)
      have HTK := keep (take_snoc hy)
      have hltI : (k : Int) < (n : Int) := by omega
      by_cases hyx : y = x
      · subst hyx
        have HE : Keep (true = decide (y ∈ l)) := ⟨(decide_eq_true (List.mem_of_getElem? hy)).symm⟩
        clear hy hc hb
        go_wp2_with fail
        go_ret
        exact ⟨ret_bool HE.out, rfl⟩
      · have hne : (y == x) = false := by simpa using hyx
        have HNX : Keep (x ∉ l.take (k + 1)) := ⟨by rw [HTK.out, List.mem_append, List.mem_singleton]; rintro (h | h); exact HK.out h; exact hyx h.symm⟩
        clear hy hc hb hyx
        go_wp2_with fail
        go_round
        case rel => exact ⟨k + 1, by go_num, by omega, HNX⟩
        case measure => simp [intOf]; omega
    · have hkn : n = k := by omega
      subst hkn
      have hdn : decide (n < n) = false := by simp
      have HE : Keep (false = decide (x ∈ l)) := ⟨by have := HK.out; rw [List.take_of_length_le (by rw [← HN.out]; exact Nat.le_refl _)] at this; simpa using this⟩
      clear hlt
      go_wp2_with fail
      go_ret
      exact ⟨ret_bool HE.out, rfl⟩

theorem rank_snoc (x y : Int) (l : List Int) : rank lt' x (l ++ [y]) = rank lt' x l + (if y < x then 1 else 0) := by
  unfold rank
  rw [List.filter_append, List.length_append]
  by_cases h : y < x <;> simp [lt', ltI, h]

set_option maxHeartbeats 1000000 in
theorem rfrom_any {v : Value} {l : List Int} {w : World} (x : Int) (h : RowAt EV w.heap.size w v l) :
    Calls Try.prog 17 #[v, EV x] w fun e w' => e = .returned (.int .i64 ((rank lt' x l : Nat) : Int)) ∧ w = w' := by
  obtain ⟨o, cap, rfl, hr⟩ := h.form
  have HR := keep hr
  have hm := h.room
  obtain ⟨n, hn⟩ : ∃ n, n = l.length := ⟨_, rfl⟩
  have HN := keep hn
  rw [← hn] at hm ⊢
  have hmI : (n : Int) ≤ 9223372036854775807 := by omega
  clear h hr hm hn
  go_enter Try.func17, Try.ntmps17
  go_wp2_with fail
  go_loop [5, 6] (fun cv iv => ∃ k c : Nat, cv = .int .i64 (c : Int) ∧ iv = .int .i64 (k : Int) ∧ k ≤ n ∧ c ≤ k ∧ Keep (c = rank lt' x (l.take k))) (fun _ iv => n - (intOf iv).toNat)
  case atStart => exact ⟨0, 0, rfl, rfl, Nat.zero_le _, Nat.le_refl _, ⟨by simp [rank]⟩⟩
  case round =>
    obtain ⟨k, c, rfl, rfl, hk, hck, HK⟩ := hrel
    by_cases hlt : k < n
    · obtain ⟨y, hy⟩ := get_of_lt (l := l) (i := k) (by rw [← HN.out]; exact hlt)
      obtain ⟨b, off, rfl, hb, hc⟩ := HR.out k y hy
      have hcell := hc w (Below.refl _ _)
      have HTK : Keep (rank lt' x (l.take (k + 1)) = c + (if y < x then 1 else 0)) := ⟨by rw [take_snoc hy, rank_snoc, ← HK.out]⟩
      have hltI : (k : Int) < (n : Int) := by omega
      clear hy hc hb
      by_cases hyx : y < x
      · have HE : Keep (c + 1 = rank lt' x (l.take (k + 1))) := ⟨by have := HTK.out; rw [if_pos hyx] at this; exact this.symm⟩
        clear HTK
        go_wp2_with fail
        go_round
        case rel => exact ⟨k + 1, c + 1, by go_num, by go_num, by omega, by omega, HE⟩
        case measure => simp [intOf]; omega
      · have HE : Keep (c = rank lt' x (l.take (k + 1))) := ⟨by have := HTK.out; rw [if_neg hyx] at this; exact this.symm⟩
        have hge : decide (y < x) = false := by simpa using hyx
        clear HTK hyx
        go_wp2_with fail
        go_round
        case rel => exact ⟨k + 1, c, rfl, by go_num, by omega, by omega, HE⟩
        case measure => simp [intOf]; omega
    · have hkn : n = k := by omega
      subst hkn
      have hdn : decide (n < n) = false := by simp
      have HE : Keep ((c : Int) = ((rank lt' x l : Nat) : Int)) := ⟨by have := HK.out; rw [List.take_of_length_le (by rw [← HN.out]; exact Nat.le_refl _)] at this; rw [this]⟩
      clear hlt
      go_wp2_with fail
      go_ret
      exact ⟨ret_int HE.out, rfl⟩

/-! ### A row that grows -/
structure Own (w0 : World) (v : Value) (l : List Int) (W : World) : Prop where
  own : W.ownsRow w0.heap.size 3 1 v l.length (l.map EV)
  below : Below w0.heap.size w0 W
theorem Own.nil (w : World) : Own w (.slice none 0 0) [] w := ⟨World.ownsRow_nil _ _ _ _, Below.refl _ _⟩
theorem Own.alloc {w0 W : World} {v : Value} {l : List Int} (h : Own w0 v l W) (o : Obj) : Own w0 v l (W.alloc o) := ⟨h.own.alloc _, h.below.alloc h.below.size o⟩
theorem Own.row {w0 W : World} {v : Value} {l : List Int} (h : Own w0 v l W) : RowAt EV W.heap.size W v l := by
  have hm : l.length ≤ 9223372036854775807 := by
    rcases h.own.2 with ⟨_, h0⟩ | ⟨g, cap, cur, _, _, _, h1, h2, _⟩
    · omega
    · unfold maxLen at h2; omega
  refine ⟨hm, ?_⟩
  rcases h.own.2 with ⟨rfl, h0⟩ | ⟨g, cap, cur, rfl, hb, hg, _⟩
  · exact .inl ⟨List.length_eq_zero_iff.1 h0, _, _, rfl⟩
  · refine .inr ⟨g, 0, cap, rfl, (Array.getElem?_eq_some_iff.1 hg).1, fun i x hi => ?_⟩
    have := h.own.cells (g := g) rfl i (EV x) (by rw [List.getElem?_map, hi]; rfl)
    rwa [show (⟨g, 0, none⟩ : Addr).add i = ⟨g, 0 + i, none⟩ by unfold Addr.add; split <;> simp_all] at this
theorem elI : (Try.prog.info? 3).map (fun i => (i.zero, i.size, i.bytes)) = some (some (.int .i64 0), 1, 8) := by kernel_rfl
theorem wpList_append_i {ops : Array Oper} {rest : List Oper} {o : Oper} {a : Act} {W : World} {Q : Exit → Act → World → Prop} (hgd : o.guard = none) (s x : Operand)
    (ho : o.op = .call { callee := .builtin .append, args := #[s, x], argTypes := #[22, 22] })
    (w0 : World) (v : Value) (l : List Int) (hs : a.eval s = v) (h : Own w0 v l W) (hl : l.length ≤ 1000000) (ad : Addr) (c : Nat) (y : Int) (hx : a.eval x = .slice (some ad) 1 c) (ha : W.cell? ad = some (EV y))
    (hK : ∀ v' W', Own w0 v' (l ++ [y]) W' → wpList Try.prog ops Q rest (a.put o.dst v') W') : wpList Try.prog ops Q (o :: rest) a W := by
  obtain ⟨i0, hi, hz0, hz1, hz2⟩ := info_parts elI
  refine wpList_append_own _ hgd s x 22 ho w0.heap.size 3 i0 (.int .i64 0) 1 8 Try.underlying22 hi hz0 hz1 hz2 rfl (by decide) v l.length (l.map EV) hs h.own ad 1 c [EV y] hx rfl ?_ ?_ (by unfold maxLen; omega) (by omega) h.below.size ?_
  · intro j u hj
    match j, hj with
    | 0, hj =>
      obtain rfl : EV y = u := by simpa using hj
      rw [show ad.add 0 = ad by simp [Addr.add]]
      exact ha
  · intro u hu
    obtain rfl : u = EV y := by simpa using hu
    rfl
  · intro v' w' hown hgrow _
    refine hK v' w' ⟨?_, h.below.trans ⟨hgrow.os, hgrow.tape, hgrow.output, hgrow.size, fun k hk => hgrow.block k (Nat.lt_of_lt_of_le hk h.below.size) (fun e => ?_)⟩⟩
    · rw [List.length_append, List.map_append]; exact hown
    · have := (h.own.lt k e.symm).1; omega
theorem below_snoc (x y : Int) (l : List Int) : (l ++ [y]).filter (fun z => lt' z x) = l.filter (fun z => lt' z x) ++ (if y < x then [y] else []) := by
  rw [List.filter_append]; by_cases h : y < x <;> simp [lt', ltI, h]
theorem above_snoc (x y : Int) (l : List Int) : (l ++ [y]).filter (fun z => lt' x z) = l.filter (fun z => lt' x z) ++ (if x < y then [y] else []) := by
  rw [List.filter_append]; by_cases h : x < y <;> simp [lt', ltI, h]
theorem del_snoc (x y : Int) (l : List Int) : del lt' x (l ++ [y]) = del lt' x l ++ (if y = x then [] else [y]) := by
  unfold del
  rw [List.filter_append]
  by_cases h : y = x
  · subst h; simp [lt', ltI]
  · have : (lt' y x || lt' x y) = true := by simp [lt', ltI]; omega
    simp [h, this]
/-- A row is answered; nothing of what was there has turned. -/
def RowTo (w : World) (l : List Int) (e : Ending) (w' : World) : Prop := ∃ v, e = .returned v ∧ RowAt EV w'.heap.size w' v l ∧ Below w.heap.size w w'

set_option maxHeartbeats 2000000 in
theorem radd_any {v : Value} {l : List Int} {w : World} (x : Int) (h : RowAt EV w.heap.size w v l) (hu : Up lt' l) (hl : l.length ≤ 1000) :
    Calls Try.prog 12 #[v, EV x] w fun e w' => RowTo w (ins lt' x l) e w' := by
  have HH := keep (rhas_any x h)
  have HROW := keep h
  obtain ⟨o, cap, rfl, hr⟩ := h.form
  by_cases hx : x ∈ l
  · have HE := keep (ins_same hlt' hu hx)
    rw [decide_eq_true hx] at HH
    clear h hr hu hx hl
    go_enter Try.func12, Try.ntmps12
    go_wp2_with fail
    refine HH.out.mono ?_
    rintro e w' ⟨rfl, rfl⟩
    go_wp2_with fail
    go_ret
    exact ⟨_, rfl, by rw [HE.out]; exact HROW.out, Below.refl _ _⟩
  · have HE := keep (ins_split hlt' hu hx)
    rw [decide_eq_false hx] at HH
    have HR := keep hr
    obtain ⟨n, hn⟩ : ∃ n, n = l.length := ⟨_, rfl⟩
    have HN := keep hn
    rw [← hn] at hl HH ⊢
    have hnI : (n : Int) ≤ 1000 := by omega
    have H0 : Keep (Own w (.slice none 0 0) ((l.take 0).filter (fun z => lt' z x)) w) := ⟨Own.nil w⟩
    have HL1 : Keep (∀ k, ((l.take k).filter (fun z => lt' z x)).length ≤ 1000) := ⟨fun k => by
      have h1 := List.length_filter_le (fun z => lt' z x) (l.take k)
      rw [List.length_take] at h1; have := HN.out; omega⟩
    have HL2 : Keep (∀ k, ((l.take k).filter (fun z => lt' x z)).length ≤ 1000) := ⟨fun k => by
      have h1 := List.length_filter_le (fun z => lt' x z) (l.take k)
      rw [List.length_take] at h1; have := HN.out; omega⟩
    clear h hr hu hx hl hn HROW
    go_enter Try.func12, Try.ntmps12
    go_wp2_with fail
    refine HH.out.mono ?_
    rintro e w' ⟨rfl, rfl⟩
    clear HH
    go_wp2_with fail
    go_loopw [5, 6] (fun ov iv wr => ∃ k : Nat, iv = .int .i64 (k : Int) ∧ k ≤ n ∧ Keep (Own w ov ((l.take k).filter (fun z => lt' z x)) wr)) (fun _ iv _ => n - (intOf iv).toNat)
    case atStart => exact ⟨0, rfl, Nat.zero_le _, H0⟩
    case round =>
      obtain ⟨k, rfl, hk, HK⟩ := hrel
      clear H0
      by_cases hlt : k < n
      · obtain ⟨y, hy⟩ := get_of_lt (l := l) (i := k) (by rw [← HN.out]; exact hlt)
        obtain ⟨b, off, rfl, hb, hc⟩ := HR.out k y hy
        have hcell := hc wr HK.out.below
        have HTK : Keep ((l.take (k + 1)).filter (fun z => lt' z x) = (l.take k).filter (fun z => lt' z x) ++ (if y < x then [y] else [])) := ⟨by rw [take_snoc hy, below_snoc]⟩
        have hltI : (k : Int) < (n : Int) := by omega
        clear hy hc hb
        by_cases hyx : y < x
        · rw [if_pos hyx] at HTK
          go_wp2_with (at_builtin; refine wpList_append_i rfl _ _ rfl w _ _ rfl (HK.out.alloc (.cells #[EV y] 3)) (by have := HL1.out k; omega) ⟨wr.heap.size, 0, none⟩ 1 y rfl (cell_new1 wr _ _) ?_; intro v' W' ho; have HO := keep ho; clear ho)
          go_roundw
          case rel => exact ⟨k + 1, by go_num, by omega, ⟨by rw [HTK.out]; exact HO.out⟩⟩
          case measure => simp [intOf]; omega
        · rw [if_neg hyx, List.append_nil] at HTK
          have hge : decide (y < x) = false := by simpa using hyx
          clear hyx
          go_wp2_with fail
          go_roundw
          case rel => exact ⟨k + 1, by go_num, by omega, ⟨by rw [HTK.out]; exact HK.out⟩⟩
          case measure => simp [intOf]; omega
      · have hkn : n = k := by omega
        subst hkn
        have hdn : decide (n < n) = false := by simp
        have HA : Keep (l.take n = l) := ⟨by rw [List.take_of_length_le (by rw [← HN.out]; exact Nat.le_refl _)]⟩
        clear hlt hk
        go_wp2_with (at_builtin; refine wpList_append_i rfl _ _ rfl w _ _ rfl (HK.out.alloc (.cells #[EV x] 3)) (by have := HL1.out n; omega) ⟨wr.heap.size, 0, none⟩ 1 x rfl (cell_new1 wr _ _) ?_; intro v1 W1 ho; have HO := keep ho; clear ho)
        have H1 : Keep (Own w v1 ((l.filter (fun z => lt' z x) ++ [x]) ++ (l.take 0).filter (fun z => lt' x z)) W1) := ⟨by rw [List.take_zero, List.filter_nil, List.append_nil, ← HA.out]; rw [HA.out]; have := HO.out; rw [HA.out] at this; exact this⟩
        have HL3 : Keep ((l.filter (fun z => lt' z x)).length ≤ 1000) := ⟨by have := HL1.out n; rw [HA.out] at this; exact this⟩
        clear HK HO HL1
        go_loopw [5, 7] (fun ov iv wr => ∃ k : Nat, iv = .int .i64 (k : Int) ∧ k ≤ n ∧ Keep (Own w ov ((l.filter (fun z => lt' z x) ++ [x]) ++ (l.take k).filter (fun z => lt' x z)) wr)) (fun _ iv _ => n - (intOf iv).toNat)
        case atStart => exact ⟨0, rfl, Nat.zero_le _, H1⟩
        case round =>
          obtain ⟨k, rfl, hk, HK⟩ := hrel
          clear H1
          by_cases hlt : k < n
          · obtain ⟨y, hy⟩ := get_of_lt (l := l) (i := k) (by rw [← HN.out]; exact hlt)
            obtain ⟨b, off, rfl, hb, hc⟩ := HR.out k y hy
            have hcell := hc wr HK.out.below
            have HTK : Keep ((l.take (k + 1)).filter (fun z => lt' x z) = (l.take k).filter (fun z => lt' x z) ++ (if x < y then [y] else [])) := ⟨by rw [take_snoc hy, above_snoc]⟩
            have hltI : (k : Int) < (n : Int) := by omega
            clear hy hc hb
            by_cases hyx : x < y
            · rw [if_pos hyx] at HTK
              go_wp2_with (at_builtin; refine wpList_append_i rfl _ _ rfl w _ _ rfl (HK.out.alloc (.cells #[EV y] 3)) (by have := HL2.out k; have := HL3.out; simp; omega) ⟨wr.heap.size, 0, none⟩ 1 y rfl (cell_new1 wr _ _) ?_; intro v' W' ho; have HO := keep ho; clear ho)
              go_roundw
              case rel => exact ⟨k + 1, by go_num, by omega, ⟨by rw [HTK.out, ← List.append_assoc]; exact HO.out⟩⟩
              case measure => simp [intOf]; omega
            · rw [if_neg hyx, List.append_nil] at HTK
              have hge : decide (x < y) = false := by simpa using hyx
              clear hyx
              go_wp2_with fail
              go_roundw
              case rel => exact ⟨k + 1, by go_num, by omega, ⟨by rw [HTK.out]; exact HK.out⟩⟩
              case measure => simp [intOf]; omega
          · have hkn : n = k := by omega
            subst hkn
            clear hlt hk
            go_wp2_with fail
            go_ret
            have HF := HK.out
            rw [HA.out, List.append_assoc, List.singleton_append, ← HE.out] at HF
            exact ⟨_, rfl, HF.row, HF.below⟩

set_option maxHeartbeats 2000000 in
theorem rdel_any {v : Value} {l : List Int} {w : World} (x : Int) (h : RowAt EV w.heap.size w v l) (hl : l.length ≤ 1000) :
    Calls Try.prog 14 #[v, EV x] w fun e w' => RowTo w (del lt' x l) e w' := by
  obtain ⟨o, cap, rfl, hr⟩ := h.form
  have HR := keep hr
  obtain ⟨n, hn⟩ : ∃ n, n = l.length := ⟨_, rfl⟩
  have HN := keep hn
  rw [← hn] at hl ⊢
  have hnI : (n : Int) ≤ 1000 := by omega
  have H0 : Keep (Own w (.slice none 0 0) (del lt' x (l.take 0)) w) := ⟨Own.nil w⟩
  have HL1 : Keep (∀ k, (del lt' x (l.take k)).length ≤ 1000) := ⟨fun k => by
    have h1 := del_length (lt := lt') (x := x) (l := l.take k)
    rw [List.length_take] at h1; have := HN.out; omega⟩
  clear h hr hl hn
  go_enter Try.func14, Try.ntmps14
  go_wp2_with fail
  go_loopw [5, 6] (fun ov iv wr => ∃ k : Nat, iv = .int .i64 (k : Int) ∧ k ≤ n ∧ Keep (Own w ov (del lt' x (l.take k)) wr)) (fun _ iv _ => n - (intOf iv).toNat)
  case atStart => exact ⟨0, rfl, Nat.zero_le _, H0⟩
  case round =>
    obtain ⟨k, rfl, hk, HK⟩ := hrel
    clear H0
    by_cases hlt : k < n
    · obtain ⟨y, hy⟩ := get_of_lt (l := l) (i := k) (by rw [← HN.out]; exact hlt)
      obtain ⟨b, off, rfl, hb, hc⟩ := HR.out k y hy
      have hcell := hc wr HK.out.below
      have HTK : Keep (del lt' x (l.take (k + 1)) = del lt' x (l.take k) ++ (if y = x then [] else [y])) := ⟨by rw [take_snoc hy, del_snoc]⟩
      have hltI : (k : Int) < (n : Int) := by omega
      clear hy hc hb
      by_cases hyx : y = x
      · rw [if_pos hyx, List.append_nil] at HTK
        have heq : (y == x) = true := by simpa using hyx
        clear hyx
        go_wp2_with fail
        go_roundw
        case rel => exact ⟨k + 1, by go_num, by omega, ⟨by rw [HTK.out]; exact HK.out⟩⟩
        case measure => simp [intOf]; omega
      · rw [if_neg hyx] at HTK
        have hne : (y == x) = false := by simpa using hyx
        clear hyx
        go_wp2_with (at_builtin; refine wpList_append_i rfl _ _ rfl w _ _ rfl (HK.out.alloc (.cells #[EV y] 3)) (by have := HL1.out k; omega) ⟨wr.heap.size, 0, none⟩ 1 y rfl (cell_new1 wr _ _) ?_; intro v' W' ho; have HO := keep ho; clear ho)
        go_roundw
        case rel => exact ⟨k + 1, by go_num, by omega, ⟨by rw [HTK.out]; exact HO.out⟩⟩
        case measure => simp [intOf]; omega
    · have hkn : n = k := by omega
      subst hkn
      have hdn : decide (n < n) = false := by simp
      have HA : Keep (l.take n = l) := ⟨by rw [List.take_of_length_le (by rw [← HN.out]; exact Nat.le_refl _)]⟩
      clear hlt hk
      go_wp2_with fail
      go_ret
      have HF := HK.out
      rw [HA.out] at HF
      exact ⟨_, rfl, HF.row, HF.below⟩

set_option maxHeartbeats 1000000 in
theorem rof_any {v : Value} {xs : List Int} {w : World} (h : RowAt EV w.heap.size w v xs) (hn : xs.length ≤ 1000) :
    Calls Try.prog 9 #[v] w fun e w' => RowTo w (rowOf lt' xs) e w' := by
  obtain ⟨o, cap, rfl, hr⟩ := h.form
  have HR := keep hr
  obtain ⟨n, hxn⟩ : ∃ n, n = xs.length := ⟨_, rfl⟩
  have HN := keep hxn
  rw [← hxn] at hn ⊢
  have hnI : (n : Int) ≤ 1000 := by omega
  have H0 : Keep (RowAt EV w.heap.size w (.slice none 0 0) (rowOf lt' (xs.take 0)) ∧ Below w.heap.size w w) := ⟨RowAt.nil _ _ _, Below.refl _ _⟩
  clear h hr hn hxn
  go_enter Try.func9, Try.ntmps9
  go_wp2_with fail
  go_loopw [3, 4] (fun ov iv wr => ∃ k : Nat, iv = .int .i64 (k : Int) ∧ k ≤ n ∧ Keep (RowAt EV wr.heap.size wr ov (rowOf lt' (xs.take k)) ∧ Below w.heap.size w wr)) (fun _ iv _ => n - (intOf iv).toNat)
  case atStart => exact ⟨0, rfl, Nat.zero_le _, H0⟩
  case round =>
    obtain ⟨k, rfl, hk, HK⟩ := hrel
    clear H0
    by_cases hlt : k < n
    · obtain ⟨x, hx⟩ := get_of_lt (l := xs) (i := k) (by rw [← HN.out]; exact hlt)
      obtain ⟨b, off, rfl, hb, hc⟩ := HR.out k x hx
      have hcell := hc wr HK.out.2
      have HTK := keep (take_snoc hx)
      have hltI : (k : Int) < (n : Int) := by omega
      have HADD := keep (radd_any x HK.out.1 (rowOf_up hlt' _) (by have := rowOf_length (lt := lt') (xs.take k); rw [List.length_take] at this; omega))
      rw [← rowOf_snoc, ← HTK.out] at HADD
      clear hx hc hb
      go_wp2_with fail
      refine HADD.out.mono ?_
      rintro e w1 ⟨v1, rfl, hs, hb⟩
      have HS := keep hs
      have HB := keep (HK.out.2.trans (hb.mono HK.out.2.size))
      clear hs hb hcell HADD
      go_wp2_with fail
      go_roundw
      case rel => exact ⟨k + 1, by go_num, by omega, ⟨HS.out, HB.out⟩⟩
      case measure => simp [intOf]; omega
    · have hkn : n = k := by omega
      subst hkn
      have hdn : decide (n < n) = false := by simp
      have HA : Keep (xs.take n = xs) := ⟨by rw [List.take_of_length_le (by rw [← HN.out]; exact Nat.le_refl _)]⟩
      clear hlt hk
      go_wp2_with fail
      go_ret
      have HF := HK.out
      rw [HA.out] at HF
      exact ⟨_, rfl, HF.1, HF.2⟩
end Go.Proofs.Ytjfgnmkgljljbaa
