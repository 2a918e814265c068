/-
  The reader: the next token, of which kind of nodes it is the sign, whether it is a sign.
-/
import Derived.Test.YtglmcjplglgnlaaTermT
import Derived.Test.YtglmcjplglgnlaaTokX
import Derived.Test.YtglmcjplglgnlaaTreeA
import Derived.BigQuiet
namespace Go.Proofs.Ytglmcjplglgnlaa
open Go.RowKit

theorem tok_get {ts : List Tok} {i : Nat} (h : i < ts.length) : ts[i]? = some (tokAt ts i) := by
  obtain ⟨t, ht⟩ : ∃ t, ts[i]? = some t := ⟨ts[i], List.getElem?_eq_getElem h⟩
  rw [tokAt_in ht, ht]

theorem BoxL.drewN {W : World} {B : Nat} {vs : List Value} (h : BoxL W B vs) (n : Nat) : BoxL (W.drewN n) B vs := ⟨h.row, h.free, h.lt⟩
theorem drewN_below {n : Nat} {w W : World} (h : Below n w W) (k : Nat) : Below n w (W.drewN k) := ⟨h.os, h.tape, h.output, h.size, h.block⟩

set_option maxHeartbeats 2000000 in
theorem token_any (b B : Nat) (tv nv kv : Value) (ts : List Tok) (i : Nat) (w : World) (hb : BoxL w b [tv, .int .i64 i, nv, kv]) (ht : TkRow B w tv ts) (hB : B ≤ w.heap.size) :
    Calls Try.prog 26 #[.pointer (some ⟨b, 0, none⟩)] w fun e w' => e = .returned (tokAt ts i).agg ∧ Below w.heap.size w w' := by
  have hb1 := hb.alloc (.cells #[.int .i64 0, .string ⟨#[]⟩, .int .i64 0, .int .i64 0] 51)
  obtain ⟨o, cap, rfl, hf⟩ := ht.form
  have hx0 := hb1.row 0 _ rfl
  have hx1 := hb1.row 1 _ rfl
  have hr := ht.room
  by_cases hlt : i < ts.length
  · obtain ⟨t, htk⟩ : ∃ t, tokAt ts i = t := ⟨_, rfl⟩
    have hti := tok_get hlt
    rw [htk] at hti ⊢
    obtain ⟨tb, off, rfl, htb, hc⟩ := hf i t hti
    obtain ⟨c0, c1, c2, c3⟩ := hc (w.alloc (.cells #[.int .i64 0, .string ⟨#[]⟩, .int .i64 0, .int .i64 0] 51)) ((Below.refl _ w).alloc hB _)
    obtain ⟨n, hn⟩ : ∃ n, n = ts.length := ⟨_, rfl⟩
    rw [← hn] at hx0 hlt hr
    have hbl := hb.lt
    clear hf hc hb1 hb ht hti htk hn
    unfold Tok.agg
    go_enter Try.func26, Try.ntmps26
    go_wp2_with fail
    go_quiet (fail)
    go_wp2_with fail
    go_region
    obtain ⟨hs0, hs1, hs2, hs3⟩ := ((BoxL.new w [.int .i64 0, .string ⟨#[]⟩, .int .i64 0, .int .i64 0] 51).drewN (nq + 1)).put4
    have HP := keep (below_put4 (drewN_below ((Below.refl _ w).alloc (Nat.le_refl _) (.cells #[.int .i64 0, .string ⟨#[]⟩, .int .i64 0, .int .i64 0] 51)) (nq + 1)) (Nat.le_refl w.heap.size))
    go_wp2_with fail
    refine bodyPost_ret (v := .agg #[.int .i64 t.K, .string t.S, .int .i64 t.V, .int .i64 t.A]) ?_ rfl ⟨rfl, HP.out _ _ _ _⟩
    simp [results, Try.results26, go_sem, hs0, hs1, hs2, hs3]
  · have hd : tokAt ts i = zt := tokAt_out (by omega)
    rw [hd]
    obtain ⟨n, hn⟩ : ∃ n, n = ts.length := ⟨_, rfl⟩
    rw [← hn] at hx0 hlt hr
    have hlt' : n ≤ i := by omega
    have hbl := hb.lt
    clear hf hb1 hb ht hd hn hlt
    unfold Tok.agg zt
    go_enter Try.func26, Try.ntmps26
    go_wp2_with fail
    go_quiet (fail)
    obtain ⟨hs0, hs1, hs2, hs3⟩ := ((BoxL.new w [.int .i64 0, .string ⟨#[]⟩, .int .i64 0, .int .i64 0] 51).drewN nq).put4
    have HP := keep (below_put4 (drewN_below ((Below.refl _ w).alloc (Nat.le_refl _) (.cells #[.int .i64 0, .string ⟨#[]⟩, .int .i64 0, .int .i64 0] 51)) nq) (Nat.le_refl w.heap.size))
    go_wp2_with fail
    refine bodyPost_ret (v := .agg #[.int .i64 0, .string ⟨#[]⟩, .int .i64 0, .int .i64 0]) ?_ rfl ⟨rfl, HP.out _ _ _ _⟩
    simp [results, Try.results26, go_sem, hs0, hs1, hs2, hs3]

set_option maxHeartbeats 2000000 in
theorem kind_any (b B km : Nat) (tv nv : Value) (ts : List Tok) (i : Nat) (n : Int) (hn : -1000 ≤ n ∧ n ≤ 1000) (hts : ∀ t ∈ ts, t.S.size ≤ maxLen) (w : World) (hb : BoxL w b [tv, .int .i64 i, nv, .map (some km)]) (ht : TkRow B w tv ts) (hB : B ≤ w.heap.size) (hk : KMap w km) :
    Calls Try.prog 25 #[.pointer (some ⟨b, 0, none⟩), .int .i64 n] w fun e w' => e = .returned (.int .i64 (kd (tokAt ts i) n)) ∧ Below w.heap.size w w' := by
  have HT := keep (token_any b B tv nv (.map (some km)) ts i w hb ht hB)
  have hsz : (tokAt ts i).S.size ≤ maxLen := by
    rcases Nat.lt_or_ge i ts.length with c | c
    · exact hts _ (List.mem_of_getElem? (tok_get c))
    · rw [tokAt_out c]; decide
  obtain ⟨t, htk⟩ : ∃ t, tokAt ts i = t := ⟨_, rfl⟩
  rw [htk] at HT hsz ⊢
  have HL := keep (fun W (h : KMap W km) => look_kind h hsz (wf_small hn.1 hn.2))
  have HKM := keep hk
  have HBX := keep hb
  clear hn hts hb ht hB hk hsz htk
  unfold Tok.agg at HT
  by_cases h4 : t.K = 4
  · have b4 : (t.K == 4) = true := by simpa using h4
    have b4' : (t.K != 4) = false := by simpa using h4
    have HE : Keep (kd t n = knd t.S n) := keep (if_pos h4)
    clear h4
    go_enter Try.func25, Try.ntmps25
    go_wp2_with fail
    refine HT.out.mono ?_
    rintro e w1 ⟨rfl, h1⟩
    have HB := keep h1
    have hb1 := (HBX.out.to h1).alloc (.cells #[.int .i64 t.K, .string t.S, .int .i64 t.V, .int .i64 t.A] 51)
    have hk1 := ((HKM.out.to h1 HKM.out.lt)).to ((Below.refl _ w1).alloc (Nat.le_refl _) (.cells #[.int .i64 t.K, .string t.S, .int .i64 t.V, .int .i64 t.A] 51)) (Nat.lt_of_lt_of_le HKM.out.lt h1.size)
    have hx3 := hb1.row 3 _ rfl
    have hl : ∀ q, (Instr.lookup 43 (.map (some km)) (.agg #[.string t.S, .int .i64 n]) false).run Try.prog ((w1.alloc (.cells #[.int .i64 t.K, .string t.S, .int .i64 t.V, .int .i64 t.A] 51)).drewN q) = .ok (.int .i64 (knd t.S n)) ((w1.alloc (.cells #[.int .i64 t.K, .string t.S, .int .i64 t.V, .int .i64 t.A] 51)).drewN q) := fun q => HL.out _ (hk1.kept rfl)
    clear h1 hb1 hk1 HT HL
    go_wp2_with fail
    go_quiet (fail)
    go_wp2_with fail
    go_ret
    exact ⟨ret_int HE.out.symm, drewN_below (HB.out.alloc HB.out.size _) _⟩
  · have b4 : (t.K == 4) = false := by simpa using h4
    have b4' : (t.K != 4) = true := by simpa using h4
    have HE : Keep (kd t n = 0) := keep (if_neg h4)
    clear h4
    go_enter Try.func25, Try.ntmps25
    go_wp2_with fail
    refine HT.out.mono ?_
    rintro e w1 ⟨rfl, h1⟩
    have HB := keep h1
    clear h1 HT HL
    go_wp2_with fail
    go_ret
    exact ⟨ret_int HE.out.symm, HB.out.alloc HB.out.size _⟩

set_option maxHeartbeats 2000000 in
theorem on_any (b B : Nat) (tv nv kv : Value) (ts : List Tok) (i : Nat) (s : ByteArray) (w : World) (hb : BoxL w b [tv, .int .i64 i, nv, kv]) (ht : TkRow B w tv ts) (hB : B ≤ w.heap.size) :
    Calls Try.prog 39 #[.pointer (some ⟨b, 0, none⟩), .string s] w fun e w' => e = .returned (.bool (isOn (tokAt ts i) s)) ∧ Below w.heap.size w w' := by
  have HT := keep (token_any b B tv nv kv ts i w hb ht hB)
  obtain ⟨t, htk⟩ : ∃ t, tokAt ts i = t := ⟨_, rfl⟩
  rw [htk] at HT ⊢
  clear hb ht hB htk
  unfold Tok.agg at HT
  obtain ⟨r, hr⟩ : ∃ r, isOn t s = r := ⟨_, rfl⟩
  rw [hr]
  by_cases h4 : t.K = 4
  · have b4 : (t.K == 4) = true := by simpa using h4
    by_cases hs : t.S = s
    · have hq : (t.S.toList == s.toList) = true := beq_yes hs
      have HR : Keep (r = true) := keep (by rw [← hr]; simp [isOn, h4, hs])
      clear h4 hs hr
      go_enter Try.func39, Try.ntmps39
      go_wp2_with fail
      refine HT.out.mono ?_
      rintro e w1 ⟨rfl, h1⟩
      have HB := keep h1
      clear h1 HT
      go_wp2_with fail
      go_ret
      exact ⟨ret_bool HR.out.symm, HB.out.alloc HB.out.size _⟩
    · have hq : (t.S.toList == s.toList) = false := beq_no hs
      have HR : Keep (r = false) := keep (by rw [← hr]; simp [isOn, hs])
      clear h4 hs hr
      go_enter Try.func39, Try.ntmps39
      go_wp2_with fail
      refine HT.out.mono ?_
      rintro e w1 ⟨rfl, h1⟩
      have HB := keep h1
      clear h1 HT
      go_wp2_with fail
      go_ret
      exact ⟨ret_bool HR.out.symm, HB.out.alloc HB.out.size _⟩
  · have b4 : (t.K == 4) = false := by simpa using h4
    have HR : Keep (r = false) := keep (by rw [← hr]; simp [isOn, h4])
    clear h4 hr
    go_enter Try.func39, Try.ntmps39
    go_wp2_with fail
    refine HT.out.mono ?_
    rintro e w1 ⟨rfl, h1⟩
    have HB := keep h1
    clear h1 HT
    go_wp2_with fail
    go_ret
    exact ⟨ret_bool HR.out.symm, HB.out.alloc HB.out.size _⟩
end Go.Proofs.Ytglmcjplglgnlaa
