/-
  Rows of places that grow; the document's Kids and Kid; the program's Kids: collected, and gone over.
-/
import Derived.Test.YtgodjgbdjgiapaaTreeB
import Derived.Laws.OwnMore
import Derived.RangeFuncBox
namespace Go.Proofs.Ytgodjgbdjgiapaa
open Go.RowKit Go.Shelf
attribute [local go_sem] Oper.semAt_some

abbrev PV (p : Nat) : Value := .int .i64 (p : Int)
structure OwnP (w0 : World) (v : Value) (l : List Nat) (W : World) : Prop where
  own : W.ownsRow w0.heap.size 3 1 v l.length (l.map PV)
  below : Below w0.heap.size w0 W
theorem OwnP.nil (w : World) : OwnP w (.slice none 0 0) [] w := ⟨World.ownsRow_nil _ _ _ _, Below.refl _ _⟩
theorem OwnP.alloc {w0 W : World} {v : Value} {l : List Nat} (h : OwnP w0 v l W) (o : Obj) : OwnP w0 v l (W.alloc o) := ⟨h.own.alloc _, h.below.alloc h.below.size o⟩
theorem row_of_own {B : Nat} {W : World} {v : Value} {l : List Nat} (h : W.ownsRow B 3 1 v l.length (l.map PV)) : RowAt PV W.heap.size W v l := by
  have hm : l.length ≤ 9223372036854775807 := by
    rcases h.2 with ⟨_, h0⟩ | ⟨g, cap, cur, _, _, _, h1, h2, _⟩
    · omega
    · unfold maxLen at h2; omega
  refine ⟨hm, ?_⟩
  rcases h.2 with ⟨rfl, h0⟩ | ⟨g, cap, cur, rfl, hb, hg, _⟩
  · exact .inl ⟨List.length_eq_zero_iff.1 h0, _, _, rfl⟩
  · refine .inr ⟨g, 0, cap, rfl, (Array.getElem?_eq_some_iff.1 hg).1, fun i x hi => ?_⟩
    have := h.cells (g := g) rfl i (PV x) (by rw [List.getElem?_map, hi]; rfl)
    rwa [show (⟨g, 0, none⟩ : Addr).add i = ⟨g, 0 + i, none⟩ by unfold Addr.add; split <;> simp_all] at this
theorem OwnP.row {w0 W : World} {v : Value} {l : List Nat} (h : OwnP w0 v l W) : RowAt PV W.heap.size W v l := row_of_own h.own
theorem elP : (Try.prog.info? 3).map (fun i => (i.zero, i.size, i.bytes)) = some (some (.int .i64 0), 1, 8) := by kernel_rfl
theorem wpList_append_p {ops : Array Oper} {rest : List Oper} {o : Oper} {a : Act} {W : World} {Q : Exit → Act → World → Prop} (hgd : o.guard = none) (s x : Operand)
    (ho : o.op = .call { callee := .builtin .append, args := #[s, x], argTypes := #[24, 24] })
    (w0 : World) (v : Value) (l : List Nat) (hs : a.eval s = v) (h : OwnP w0 v l W) (hl : l.length ≤ 1000000) (ad : Addr) (c : Nat) (y : Nat) (hx : a.eval x = .slice (some ad) 1 c) (ha : W.cell? ad = some (PV y))
    (hK : ∀ v' W', OwnP w0 v' (l ++ [y]) W' → wpList Try.prog ops Q rest (a.put o.dst v') W') : wpList Try.prog ops Q (o :: rest) a W := by
  obtain ⟨i0, hi, hz0, hz1, hz2⟩ := info_parts elP
  refine wpList_append_own _ hgd s x 24 ho w0.heap.size 3 i0 (.int .i64 0) 1 8 Try.underlying24 hi hz0 hz1 hz2 rfl (by decide) v l.length (l.map PV) hs h.own ad 1 c [PV y] hx rfl ?_ ?_ (by unfold maxLen; omega) (by omega) h.below.size ?_
  · intro j u hj
    match j, hj with
    | 0, hj =>
      obtain rfl : PV y = u := by simpa using hj
      rw [show ad.add 0 = ad by simp [Addr.add]]
      exact ha
  · intro u hu
    obtain rfl : u = PV y := by simpa using hu
    rfl
  · intro v' w' hown hgrow _
    refine hK v' w' ⟨?_, h.below.trans ⟨hgrow.os, hgrow.tape, hgrow.output, hgrow.size, fun k hk => hgrow.block k (Nat.lt_of_lt_of_le hk h.below.size) (fun e => ?_)⟩⟩
    · rw [List.length_append, List.map_append]; exact hown
    · have := (h.own.lt k e.symm).1; omega

/-! ### The document's Kids and Kid -/
set_option maxRecDepth 100000 in
set_option maxHeartbeats 2000000 in
theorem rkids_any (v : Value) (l : List Nd) (i : Int) (hn : l.length ≤ 1000) (w : World) (h : NdRow w.heap.size w v l) :
    Calls Try.prog 8 #[v, .int .i64 i] w fun e w' => ∃ u, e = .returned u ∧ OwnP w u (kidsI l i) w' := by
  by_cases hin : 0 ≤ i ∧ i < l.length
  · obtain ⟨i, rfl⟩ := Int.eq_ofNat_of_zero_le hin.1
    have hil : i < l.length := by omega
    obtain ⟨x, hx⟩ := get_of_lt hil
    have HKI := keep (kidsI_in hx)
    have HI : Keep (∀ (a : Nat) W, a < l.length → Below w.heap.size w W → Calls Try.prog 11 #[v, .int .i64 (a : Int)] W fun e w' => e = .returned (.int .i64 (endN (ks l) a : Int)) ∧ W = w') := ⟨fun a W hal hb => by
      have := rend_any v l (a : Int) hn W ((h.below hb).mono hb.size)
      rwa [endI_in hal] at this⟩
    have HG : Keep (∀ a, a < l.length → a < endN (ks l) a ∧ endN (ks l) a ≤ l.length) := ⟨fun a ha => ⟨endN_gt (by rw [ks_len]; exact ha), by have := endN_le (ks l) (i := a) (by rw [ks_len]; omega); rwa [ks_len] at this⟩⟩
    have HS : Keep (∀ (pre : List Nat) (a k : Nat), (k : Int) < x.K → a < l.length → kidsI l (i : Int) = pre ++ kp (ks l) (x.K.toNat - k) a → kidsI l (i : Int) = (pre ++ [a]) ++ kp (ks l) (x.K.toNat - (k + 1)) (endN (ks l) a)) := ⟨fun pre a k hk ha he => by
      rw [he, show x.K.toNat - k = (x.K.toNat - (k + 1)) + 1 by omega, kp_in (by rw [ks_len]; exact ha)]; simp⟩
    have HF1 : Keep (∀ (pre : List Nat) (a k : Nat), x.K ≤ (k : Int) → kidsI l (i : Int) = pre ++ kp (ks l) (x.K.toNat - k) a → kidsI l (i : Int) = pre) := ⟨fun pre a k hk he => by
      rw [he, show x.K.toNat - k = 0 by omega]; simp [kp]⟩
    have HF2 : Keep (∀ (pre : List Nat) (a k : Nat), l.length ≤ a → kidsI l (i : Int) = pre ++ kp (ks l) (x.K.toNat - k) a → kidsI l (i : Int) = pre) := ⟨fun pre a k hk he => by
      rw [he, kp_out (by rw [ks_len]; exact hk)]; simp⟩
    have HLEN := keep (kidsI_len l (i : Int))
    have H0 : Keep (kidsI l (i : Int) = [] ++ kp (ks l) (x.K.toNat - 0) (i + 1) ∧ OwnP w (.slice none 0 0) [] w) := ⟨by rw [HKI.out]; simp, OwnP.nil w⟩
    obtain ⟨o, cap, rfl, hf⟩ := h.form
    obtain ⟨hok, b, off, rfl, hb, hc⟩ := hf i x hx
    have HC : Keep (∀ W, Below w.heap.size w W → W.cell? ⟨b, off + i * 5 + 3, none⟩ = some (.int .i64 x.K)) := ⟨fun W hW => (hc W hW).2.2.2.1⟩
    have hk2 := hok.k2
    obtain ⟨n, hnn⟩ : ∃ n, n = l.length := ⟨_, rfl⟩
    rw [← hnn] at HI HG HF2 HS HLEN hil ⊢
    have hnI : (n : Int) ≤ 1000 := by omega
    have hilI : (i : Int) < (n : Int) := by omega
    have hd1 : decide (n ≤ i) = false := decide_eq_false (by omega)
    have hd2 : decide ((i : Int) < 0) = false := decide_eq_false (by omega)
    have HNI : Keep (n ≤ 1000) := ⟨by omega⟩
    generalize x.K = K at *
    generalize kidsI l (i : Int) = R at *
    clear h hf hok hc hb hx hin hn hnn HKI
    go_enter Try.func8, Try.ntmps8
    go_wp2_with fail
    go_loopw [5, 6, 7] (fun ov av kv wr => ∃ (a k : Nat) (pre : List Nat) (u : Value), ov = u ∧ av = .int .i64 (a : Int) ∧ kv = .int .i64 (k : Int) ∧ i < a ∧ a ≤ n ∧ k ≤ a ∧ Keep (R = pre ++ kp (ks l) (K.toNat - k) a ∧ OwnP w u pre wr)) (fun _ av _ _ => n - (intOf av).toNat)
    case atStart => exact ⟨i + 1, 0, [], _, rfl, by go_num, rfl, by omega, by omega, by omega, H0⟩
    case round =>
      obtain ⟨a, k, pre, u, eu, rfl, rfl, hia, han, hka, HR⟩ := hrel
      obtain rfl := eu.symm
      clear H0
      have hanI : (a : Int) ≤ (n : Int) := by omega
      have c3 := HC.out wr HR.out.2.below
      by_cases hkK : (k : Int) < K
      · by_cases hlt : a < n
        · have hltI : (a : Int) < (n : Int) := by omega
          have HNX := keep (HS.out pre a k hkK hlt HR.out.1)
          obtain ⟨hg1, hg2⟩ := HG.out a hlt
          have HII := keep (fun W hW => HI.out a W hlt hW)
          generalize endN (ks l) a = a' at *
          have hkaI : (k : Int) ≤ (a : Int) := by omega
          have HPL : Keep (pre.length ≤ 1000000) := ⟨by
            have h1 := HLEN.out
            rw [HNX.out] at h1
            simp at h1
            have := HNI.out
            omega⟩
          go_wp2_with (at_builtin; refine wpList_append_p rfl _ _ rfl w u pre rfl (HR.out.2.alloc _) HPL.out ⟨wr.heap.size, 0, none⟩ 1 a rfl (cell_new1 wr _ _) ?_; intro v' W' ho; have HO := keep ho; clear ho)
          refine (HII.out W' HO.out.below).mono ?_
          rintro e w' ⟨rfl, rfl⟩
          go_wp2_with fail
          go_roundw
          case rel => exact ⟨a', k + 1, pre ++ [a], v', rfl, rfl, by go_num, by omega, hg2, by omega, ⟨HNX.out, HO.out⟩⟩
          case measure => simp [intOf]; omega
        · have HE := keep (HF2.out pre a k (by omega) HR.out.1)
          have hlt2 : ¬ ((a : Int) < (n : Int)) := by omega
          clear hlt
          go_wp2_with fail
          go_ret
          exact ⟨_, rfl, by rw [HE.out]; exact HR.out.2⟩
      · have HE := keep (HF1.out pre a k (by omega) HR.out.1)
        go_wp2_with fail
        go_ret
        exact ⟨_, rfl, by rw [HE.out]; exact HR.out.2⟩
  · rw [kidsI_out hin]
    obtain ⟨o, cap, rfl, -⟩ := h.form
    by_cases hneg : i < 0
    · clear h hin hn
      go_enter Try.func8, Try.ntmps8
      go_wp2_with fail
      go_ret
      exact ⟨_, rfl, OwnP.nil w⟩
    · have hge : (l.length : Int) ≤ i := by omega
      clear h hin hn
      go_enter Try.func8, Try.ntmps8
      go_wp2_with fail
      go_ret
      exact ⟨_, rfl, OwnP.nil w⟩

theorem kidI_neg {l : List Nd} {i k : Int} (h : k < 0) : kidI l i k = -1 := by unfold kidI; rw [if_neg (by omega)]
theorem kidI_out {l : List Nd} {i k : Int} (h : ((kidsI l i).length : Int) ≤ k) : kidI l i k = -1 := by
  unfold kidI
  rw [if_pos (by omega), List.getElem?_eq_none (by omega)]
theorem kidI_get {l : List Nd} {i : Int} {k x : Nat} (h : (kidsI l i)[k]? = some x) : kidI l i (k : Int) = (x : Int) := by
  unfold kidI
  rw [if_pos (by omega), Int.toNat_natCast, h]
set_option maxHeartbeats 2000000 in
theorem rkid_any (v : Value) (l : List Nd) (i k : Int) (hn : l.length ≤ 1000) (w : World) (h : NdRow w.heap.size w v l) :
    Calls Try.prog 13 #[v, .int .i64 i, .int .i64 k] w fun e w' => e = .returned (.int .i64 (kidI l i k)) ∧ Below w.heap.size w w' := by
  have HK := keep (rkids_any v l i hn w h)
  have HNEG := keep (fun hk => kidI_neg (l := l) (i := i) (k := k) hk)
  have HOUT := keep (fun hk => kidI_out (l := l) (i := i) (k := k) hk)
  have HGET := keep (fun (q x : Nat) (hq : (q : Int) = k) (hk : (kidsI l i)[q]? = some x) => show kidI l i k = (x : Int) by rw [← hq]; exact kidI_get hk)
  obtain ⟨o, cap, rfl, -⟩ := h.form
  generalize kidI l i k = R at *
  generalize kidsI l i = M at *
  clear h hn
  go_enter Try.func13, Try.ntmps13
  go_wp2_with fail
  refine HK.out.mono ?_
  rintro e w1 ⟨u, rfl, ho⟩
  have HO := keep ho
  clear ho HK
  obtain ⟨o', cap', rfl, hr⟩ := HO.out.row.form
  have HR := keep hr
  obtain ⟨n, hnn⟩ : ∃ n, n = M.length := ⟨_, rfl⟩
  have HNN := keep hnn
  rw [← hnn] at HOUT
  clear hr
  by_cases hneg : k < 0
  · have HE := keep (HNEG.out hneg)
    rw [← hnn]
    clear hnn
    go_wp2_with fail
    go_ret
    exact ⟨ret_int HE.out.symm, HO.out.below⟩
  · by_cases hge : (n : Int) ≤ k
    · have HE := keep (HOUT.out hge)
      rw [← hnn]
      clear hnn
      go_wp2_with fail
      go_ret
      exact ⟨ret_int HE.out.symm, HO.out.below⟩
    · obtain ⟨q, rfl⟩ := Int.eq_ofNat_of_zero_le (show 0 ≤ k by omega)
      obtain ⟨x, hx⟩ := get_of_lt (l := M) (i := q) (by omega)
      obtain ⟨b, off, rfl, hb, hc⟩ := HR.out q x hx
      have hcell := hc w1 (Below.refl _ _)
      have HE := keep (HGET.out q x rfl hx)
      rw [← hnn]
      have hltI : (q : Int) < (n : Int) := by omega
      clear hx hb hc hnn
      go_wp2_with fail
      go_ret
      exact ⟨ret_int HE.out.symm, HO.out.below⟩
end Go.Proofs.Ytgodjgbdjgiapaa
