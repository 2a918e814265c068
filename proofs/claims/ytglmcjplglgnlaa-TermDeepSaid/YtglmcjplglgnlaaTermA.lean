/-
  The document's signs: a token's place, the kind of a sign, the sign and the level of a kind; are nodes alike.
-/
import Derived.Test.YtglmcjplglgnlaaTermW
namespace Go.Proofs.Ytglmcjplglgnlaa
open Go.RowKit Go.Joins

set_option maxHeartbeats 2000000 in
theorem rtok_any (tv : Value) (ts : List Tok) (i : Nat) (w : World) (h : TkRow w.heap.size w tv ts) :
    Calls Try.prog 30 #[tv, .int .i64 (i : Int)] w fun e w' => e = .returned (tokAt ts i).agg ∧ Below w.heap.size w w' := by
  obtain ⟨o, cap, rfl, hf⟩ := h.form
  have hr := h.room
  by_cases hlt : i < ts.length
  · obtain ⟨t, htk⟩ : ∃ t, tokAt ts i = t := ⟨_, rfl⟩
    have hti := tok_get hlt
    rw [htk] at hti ⊢
    obtain ⟨tb, off, rfl, htb, hc⟩ := hf i t hti
    obtain ⟨c0, c1, c2, c3⟩ := hc (w.alloc (.cells #[.int .i64 0, .string ⟨#[]⟩, .int .i64 0, .int .i64 0] 51)) ((Below.refl _ w).alloc (Nat.le_refl _) _)
    obtain ⟨n, hn⟩ : ∃ n, n = ts.length := ⟨_, rfl⟩
    rw [← hn] at hlt hr ⊢
    have hltI : (i : Int) < (n : Int) := by omega
    clear hf hc h hti htk hn
    unfold Tok.agg
    go_enter Try.func30, Try.ntmps30
    go_wp2_with fail
    refine bodyPost_ret (v := .agg #[.int .i64 t.K, .string t.S, .int .i64 t.V, .int .i64 t.A]) ?_ rfl ⟨rfl, (Below.refl _ _).alloc (Nat.le_refl _) _⟩
    simp [results, Try.results30, go_sem]
  · have hd : tokAt ts i = zt := tokAt_out (by omega)
    rw [hd]
    obtain ⟨n, hn⟩ : ∃ n, n = ts.length := ⟨_, rfl⟩
    rw [← hn] at hlt hr ⊢
    have hlt' : n ≤ i := by omega
    have hltI : ¬ ((i : Int) < (n : Int)) := by omega
    clear hf h hd hn hlt
    unfold Tok.agg zt
    go_enter Try.func30, Try.ntmps30
    go_wp2_with fail
    refine bodyPost_ret (v := .agg #[.int .i64 0, .string ⟨#[]⟩, .int .i64 0, .int .i64 0]) ?_ rfl ⟨rfl, (Below.refl _ _).alloc (Nat.le_refl _) _⟩
    simp [results, Try.results30, go_sem]

theorem opF_hit : ∀ (l : List (List UInt8)) (k : Nat) (k0 : Int) (y : List UInt8) (s : ByteArray), l[k]? = some y → str y = s → (∀ x ∈ l.take k, str x ≠ s) → opF l k0 s = k0 + k
  | [], k, k0, y, s, h, _, _ => by simp at h
  | x :: l, 0, k0, y, s, h, e, _ => by
    obtain rfl : x = y := by simpa using h
    rw [opF, if_pos e]; simp
  | x :: l, k + 1, k0, y, s, h, e, hn => by
    rw [opF, if_neg (hn x (by simp)), opF_hit l k (k0 + 1) y s (by simpa using h) e (fun z hz => hn z (by simp [hz]))]
    omega

set_option maxHeartbeats 4000000 in
theorem rop_any (s : ByteArray) (w : World) : Calls Try.prog 23 #[.string s] w fun e w' => e = .returned (.int .i64 (opS s)) ∧ Below w.heap.size w w' := by
  have HRW := keep (row_lit w opT 9 (by decide)).form
  have HW : Keep (Below w.heap.size w (w.alloc (.cells #[.string ⟨#[43]⟩, .string ⟨#[45]⟩, .string ⟨#[42]⟩, .string ⟨#[47]⟩, .string ⟨#[37]⟩, .string ⟨#[61, 61]⟩, .string ⟨#[33, 61]⟩, .string ⟨#[60]⟩, .string ⟨#[60, 61]⟩, .string ⟨#[62]⟩, .string ⟨#[62, 61]⟩, .string ⟨#[38, 38]⟩, .string ⟨#[124, 124]⟩] 9))) := keep ((Below.refl _ w).alloc (Nat.le_refl _) _)
  have HC : Keep (∀ (k : Nat) (y : List UInt8), opT[k]? = some y → (w.alloc (.cells #[.string ⟨#[43]⟩, .string ⟨#[45]⟩, .string ⟨#[42]⟩, .string ⟨#[47]⟩, .string ⟨#[37]⟩, .string ⟨#[61, 61]⟩, .string ⟨#[33, 61]⟩, .string ⟨#[60]⟩, .string ⟨#[60, 61]⟩, .string ⟨#[62]⟩, .string ⟨#[62, 61]⟩, .string ⟨#[38, 38]⟩, .string ⟨#[124, 124]⟩] 9)).cell? ⟨w.heap.size, k, none⟩ = some (.string (str y))) := keep (fun k y hk => by
    have := World.cell?_alloc_new w (opT.map SV).toArray 9 k
    refine this.trans ?_
    simp [hk])
  go_enter Try.func23, Try.ntmps23
  go_wp2_with fail
  generalize w.alloc (.cells #[.string ⟨#[43]⟩, .string ⟨#[45]⟩, .string ⟨#[42]⟩, .string ⟨#[47]⟩, .string ⟨#[37]⟩, .string ⟨#[61, 61]⟩, .string ⟨#[33, 61]⟩, .string ⟨#[60]⟩, .string ⟨#[60, 61]⟩, .string ⟨#[62]⟩, .string ⟨#[62, 61]⟩, .string ⟨#[38, 38]⟩, .string ⟨#[124, 124]⟩] 9) = W0 at HC HW ⊢
  go_loop [4] (fun iv => ∃ k : Nat, iv = .int .i64 (k : Int) ∧ k ≤ 13 ∧ Keep (∀ x ∈ opT.take k, str x ≠ s)) (fun iv => 13 - (intOf iv).toNat)
  case atStart => exact ⟨0, rfl, Nat.zero_le _, ⟨by simp⟩⟩
  case round =>
    obtain ⟨k, rfl, hk, HK⟩ := hrel
    by_cases hlt : k < 13
    · obtain ⟨y, hy⟩ := get_of_lt (l := opT) (i := k) hlt
      have hcell := HC.out k y hy
      have hltI : (k : Int) < 13 := by omega
      by_cases hyx : str y = s
      · have HE : Keep (opS s = 5 + (k : Int)) := keep (opF_hit opT k 5 y s hy hyx HK.out)
        have hbq : ((str y).toList == s.toList) = true := beq_yes hyx
        generalize str y = sy at *
        clear hy hyx HK
        go_wp2_with fail
        go_ret
        exact ⟨ret_int HE.out.symm, HW.out⟩
      · have hbq : ((str y).toList == s.toList) = false := beq_no hyx
        have HN : Keep (∀ x ∈ opT.take (k + 1), str x ≠ s) := keep (by
          rw [take_snoc hy]
          intro x hx
          rcases List.mem_append.1 hx with h | h
          · exact HK.out x h
          · rw [List.mem_singleton] at h; rw [h]; exact hyx)
        generalize str y = sy at *
        clear hy hyx HK
        go_wp2_with fail
        go_round
        case rel => exact ⟨k + 1, by go_num, by omega, HN⟩
        case measure => simp [intOf]; omega
    · obtain rfl : k = 13 := by omega
      have HE : Keep (opS s = 0) := keep (opF_none opT 5 s HK.out)
      clear hlt HK
      go_wp2_with fail
      go_ret
      exact ⟨ret_int HE.out.symm, HW.out⟩

set_option maxHeartbeats 4000000 in
theorem rsign_any (op : Int) (ho : (Lit.int .i64 op).wf = true) (w : World) : Calls Try.prog 13 #[.int .i64 op] w fun e w' => e = .returned (.string (sgS op)) ∧ Below w.heap.size w w' := by
  have HW : Keep (Below w.heap.size w (w.alloc (.cells #[.string ⟨#[45]⟩, .string ⟨#[33]⟩, .string ⟨#[43]⟩, .string ⟨#[45]⟩, .string ⟨#[42]⟩, .string ⟨#[47]⟩, .string ⟨#[37]⟩, .string ⟨#[61, 61]⟩, .string ⟨#[33, 61]⟩, .string ⟨#[60]⟩, .string ⟨#[60, 61]⟩, .string ⟨#[62]⟩, .string ⟨#[62, 61]⟩, .string ⟨#[38, 38]⟩, .string ⟨#[124, 124]⟩] 9))) := keep ((Below.refl _ w).alloc (Nat.le_refl _) _)
  have hbd := wf_bounds_i64 ho
  by_cases h3 : op < 3
  · have e := sgS_out (op := op) (.inl h3)
    rw [e, str_nil]
    clear e
    go_enter Try.func13, Try.ntmps13
    go_wp2_with fail
    go_ret
    exact ⟨rfl, HW.out⟩
  · by_cases h17 : 17 < op
    · have e := sgS_out (op := op) (.inr h17)
      rw [e, str_nil]
      clear e
      go_enter Try.func13, Try.ntmps13
      go_wp2_with fail
      go_ret
      exact ⟨rfl, HW.out⟩
    · obtain ⟨x, hx, hs⟩ := all_is (op := op) (by omega) (by omega)
      rw [hs]
      obtain ⟨k, hk⟩ := Int.eq_ofNat_of_zero_le (by omega : 0 ≤ op - 3)
      have hkt : (op - 3).toNat = k := by omega
      rw [hkt] at hx
      have hcell : (w.alloc (.cells #[.string ⟨#[45]⟩, .string ⟨#[33]⟩, .string ⟨#[43]⟩, .string ⟨#[45]⟩, .string ⟨#[42]⟩, .string ⟨#[47]⟩, .string ⟨#[37]⟩, .string ⟨#[61, 61]⟩, .string ⟨#[33, 61]⟩, .string ⟨#[60]⟩, .string ⟨#[60, 61]⟩, .string ⟨#[62]⟩, .string ⟨#[62, 61]⟩, .string ⟨#[38, 38]⟩, .string ⟨#[124, 124]⟩] 9)).cell? ⟨w.heap.size, k, none⟩ = some (.string (str x)) := by
        have := World.cell?_alloc_new w (allT.map SV).toArray 9 k
        refine this.trans ?_
        simp [hx]
      have hk15 : (k : Int) < 15 := by omega
      have h3' : ¬ (op < 3) := h3
      have h17' : ¬ (17 < op) := h17
      clear hs hx hkt ho
      go_enter Try.func13, Try.ntmps13
      go_wp2_with fail
      go_ret
      exact ⟨rfl, HW.out⟩

set_option maxHeartbeats 4000000 in
/-- Nodes are like themselves. -/
theorem rsame_eq (v u : Value) (l : List Nd) (w : World) (h : NRow w.heap.size w v l) (h' : NRow w.heap.size w u l) : Calls Try.prog 18 #[v, u] w fun e w' => e = .returned (.bool true) ∧ Below w.heap.size w w' := by
  obtain ⟨o, cap, rfl, hf⟩ := h.form
  obtain ⟨o', cap', rfl, hf'⟩ := h'.form
  have hr := h.room
  have HF := keep hf
  have HF' := keep hf'
  obtain ⟨n, hn⟩ : ∃ n, n = l.length := ⟨_, rfl⟩
  have HN := keep hn
  rw [← hn] at hr ⊢
  have hnI : (n : Int) ≤ 1000000 := by omega
  clear h h' hf hf' hn
  go_enter Try.func18, Try.ntmps18
  go_wp2_with fail
  go_loopw [5] (fun iv wr => ∃ k : Nat, iv = .int .i64 (k : Int) ∧ k ≤ n ∧ Keep (Below w.heap.size w wr)) (fun iv _ => n - (intOf iv).toNat)
  case atStart => exact ⟨0, rfl, Nat.zero_le _, ⟨Below.refl _ _⟩⟩
  case round =>
    obtain ⟨k, rfl, hk, HB⟩ := hrel
    by_cases hlt : k < n
    · obtain ⟨x, hx⟩ := get_of_lt (l := l) (i := k) (by rw [← HN.out]; exact hlt)
      obtain ⟨b, off, rfl, hb, hc⟩ := HF.out k x hx
      obtain ⟨b', off', rfl, hb', hc'⟩ := HF'.out k x hx
      obtain ⟨c0, c1, c2, c3, c4⟩ := hc wr HB.out
      obtain ⟨d0, d1, d2, d3, d4⟩ := hc' wr HB.out
      have hltI : (k : Int) < (n : Int) := by omega
      clear hx hc hc'
      go_wp2_with fail
      go_quiet (fail)
      go_wp2_with fail
      go_roundw
      case rel => exact ⟨k + 1, by go_num, by omega, ⟨drewN_below HB.out _⟩⟩
      case measure => simp [intOf]; omega
    · obtain rfl : n = k := by omega
      clear hlt
      go_wp2_with fail
      go_ret
      exact ⟨rfl, HB.out⟩
end Go.Proofs.Ytglmcjplglgnlaa
