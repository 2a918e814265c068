/-
  The function of the program's kids, whatever a round does; kids itself.
-/
import Derived.Test.YtgodjgbdjgiapaaTreeA
import Derived.Test.YtgodjgbdjgiapaaLoop
namespace Go.Proofs.Ytgodjgbdjgiapaa
open Go.RowKit Go.Shelf
attribute [local go_sem] Oper.semAt_some

theorem kids_any (v : Value) (i : Int) (w : World) (hv : ∃ o n c, v = .slice o n c) : Calls Try.prog 23 #[v, .int .i64 i] w fun e w' => e = .returned (.func (.func 33) #[] #[.pointer (some ⟨w.heap.size, 0, none⟩), .pointer (some ⟨w.heap.size + 1, 0, none⟩)]) ∧ w' = (w.alloc (.cells #[v] 22)).alloc (.cells #[.int .i64 i] 3) := by
  obtain ⟨o, n, c, rfl⟩ := hv
  go_enter Try.func23, Try.ntmps23
  go_wp2_with fail
  go_ret
  exact ⟨rfl, rfl⟩

/-- A place. -/
def encN (x : Nat) : Array Value := #[.int .i64 (x : Int)]
/-- What a round must keep: all blocks below N, and two more. -/
def KpN (N Bl Bi : Nat) (W W' : World) : Prop := (∀ k, k < N → W'.heap[k]? = W.heap[k]?) ∧ W'.heap[Bl]? = W.heap[Bl]? ∧ W'.heap[Bi]? = W.heap[Bi]? ∧ W.heap.size ≤ W'.heap.size
theorem KpN.trans {N Bl Bi : Nat} {A B C : World} (h : KpN N Bl Bi A B) (k : KpN N Bl Bi B C) : KpN N Bl Bi A C := ⟨fun i hi => (k.1 i hi).trans (h.1 i hi), k.2.1.trans h.2.1, k.2.2.1.trans h.2.2.1, Nat.le_trans h.2.2.2 k.2.2.2⟩
theorem KpN.below {N Bl Bi n : Nat} {W W' : World} (h : Below n W W') (hN : N ≤ n) (hl : Bl < n) (hi : Bi < n) : KpN N Bl Bi W W' := ⟨fun k hk => h.block k (by omega), h.block _ hl, h.block _ hi, h.size⟩
theorem NdRow.blocks {N : Nat} {W W' : World} {v : Value} {l : List Nd} (h : NdRow N W v l) (hb : ∀ k, k < N → W'.heap[k]? = W.heap[k]?) : NdRow N W' v l := by
  refine ⟨h.room, h.ok, ?_⟩
  rcases h.out with h | ⟨b, off, cap, h1, h2, h4, h3⟩
  · exact .inl h
  · refine .inr ⟨b, off, cap, h1, h2, h4, fun i x hi => ?_⟩
    have hc : ∀ p, W'.cell? ⟨b, p, none⟩ = W.cell? ⟨b, p, none⟩ := fun p => World.cell?_of_block (hb b h2)
    obtain ⟨c0, c1, c2, c3, c4⟩ := h3 i x hi
    exact ⟨(hc _).trans c0, (hc _).trans c1, (hc _).trans c2, (hc _).trans c3, (hc _).trans c4⟩

/-- Between two rounds of kids' function: so many kids are gone over; the place of the last one; what is to come. -/
structure KidAt (l : List Nd) (i : Int) (N Bl Bi : Nat) (v : Value) (J : List Nat → World → Prop) (K : Int) (k a : Nat) (W : World) : Prop where
  out : ∃ pre, pre.length = k ∧ kidsI l i = pre ++ kp (ks l) (K.toNat - k) (if k = 0 then a else endN (ks l) a) ∧ (0 < k → a < l.length) ∧ J pre W
  row : NdRow N W v l
  hN : N ≤ W.heap.size
  hl : W.heap[Bl]? = some (.cells #[v] 22 (0, 0))
  hi : W.heap[Bi]? = some (.cells #[.int .i64 i] 3 (0, 0))

theorem KidAt.to {l : List Nd} {i : Int} {N Bl Bi : Nat} {v : Value} {J : List Nat → World → Prop} {K : Int} {k a : Nat} {W : World} (h : KidAt l i N Bl Bi v J K k a W) : W.cell? ⟨Bl, 0, none⟩ = some v ∧ W.cell? ⟨Bi, 0, none⟩ = some (.int .i64 i) :=
  ⟨by rw [cell_of_row W Bl 0 _ _ _ h.hl]; rfl, by rw [cell_of_row W Bi 0 _ _ _ h.hi]; rfl⟩

set_option maxRecDepth 100000 in
set_option maxHeartbeats 4000000 in
theorem kids1_in (n L Bl Bi N : Nat) (v : Value) (l : List Nd) (i : Int) (hn : l.length ≤ 1000) (J Jx : List Nat → World → Prop) (W0 : World) (hJ : AbidesFrom W0.heap.size J)
    (hY : ∀ pre x W, J pre W → pre.length < (kidsI l i).length → YieldAt Fence.wide (n - 1) Try.prog L (encN x) W fun e W' =>
      (e = .returned (.bool true) ∧ J (pre ++ [x]) W' ∧ KpN N Bl Bi W W') ∨ (e = .returned (.bool false) ∧ Jx (pre ++ [x]) W'))
    (hrow : NdRow N W0 v l) (hN : N ≤ W0.heap.size) (hBl : W0.heap[Bl]? = some (.cells #[v] 22 (0, 0))) (hBi : W0.heap[Bi]? = some (.cells #[.int .i64 i] 3 (0, 0))) (h0 : J [] W0) :
    CallsIn Fence.wide n Try.prog 33 #[.func (.yield L) #[] #[], .pointer (some ⟨Bl, 0, none⟩), .pointer (some ⟨Bi, 0, none⟩)] W0 fun e W' => (∃ v, e = .returned v) ∧
      ((∃ zs, zs = kidsI l i ∧ J zs W') ∨ (∃ pre, pre <+: kidsI l i ∧ Jx pre W')) := by
  have hcl : W0.cell? ⟨Bl, 0, none⟩ = some v := by rw [cell_of_row W0 Bl 0 _ _ _ hBl]; rfl
  have hci : W0.cell? ⟨Bi, 0, none⟩ = some (.int .i64 i) := by rw [cell_of_row W0 Bi 0 _ _ _ hBi]; rfl
  have HJ := keep hJ
  have HY := keep hY
  have H0 := keep h0
  have HROW := keep hrow
  have HN := keep hN
  have HBl := keep hBl
  have HBi := keep hBi
  have HLN := keep hn
  have HT := keep (there_any v l i W0 (hrow.mono hN))
  have hdd : ∀ k : Nat, (Fence.wide.depth.isSome = true → 1 ≤ k) := fun k h => by cases h
  obtain ⟨o, cap, rfl, hf⟩ := hrow.form
  have HF := keep hf
  clear hn hJ hY h0 hBl hBi hN hrow hf
  refine callsIn_of_wp Try.func33 rfl trivial ?_ rfl
  simp only [Try.ntmps33, List.size_toArray, List.length_cons, List.length_nil, Nat.reduceAdd, Nat.reduceSub, Array.replicate_succ, Array.replicate_zero, List.push_toArray, List.append_toArray, List.nil_append, List.cons_append]
  by_cases hin : 0 ≤ i ∧ i < l.length
  · obtain ⟨i, rfl⟩ := Int.eq_ofNat_of_zero_le hin.1
    have hil : i < l.length := by omega
    rw [decide_eq_true hin] at HT
    obtain ⟨x, hx⟩ := get_of_lt hil
    obtain ⟨hok, b, off, rfl, hb, hc⟩ := HF.out i x hx
    obtain ⟨c0, c1, c2, c3, c4⟩ := hc W0 (Below.refl _ _)
    have hk2 := hok.k2
    have HK := keep (kidsI_in hx)
    have HNL : Keep ((l.length : Int) ≤ 1000) := ⟨by have := HLN.out; omega⟩
    obtain ⟨m, hm⟩ : ∃ m, m = l.length := ⟨_, rfl⟩
    have HM := keep hm
    rw [← hm] at HT HROW hcl HBl hil HNL
    have hmI := HNL.out
    have hilI : (i : Int) < (m : Int) := by omega
    generalize x.K = K at *
    clear hin hx hok hc hb hm HF
    gi_wp2_with (refine ⟨trivial, hdd _, ?_⟩; gi_at_call 24; refine (callsIn_wide.2 HT.out).mono ?_; rintro e w' ⟨rfl, rfl⟩; clear HT)
    have HS : Keep (KidAt l (i : Int) N Bl Bi (.slice (some ⟨b, off, none⟩) m cap) J K 0 (i + 1) W0) := ⟨⟨⟨[], rfl, by rw [HK.out]; simp, fun h => absurd h (by omega), H0.out⟩, HROW.out, HN.out, HBl.out, HBi.out⟩⟩
    clear hcl hci c0 c1 c2 c3 c4
    gi_loopw [4, 17] (fun av kv wr => ∃ a k : Nat, av = .int .i64 (a : Int) ∧ kv = .int .i64 (k : Int) ∧ (a : Int) ≤ 1001 ∧ Keep (KidAt l (i : Int) N Bl Bi (.slice (some ⟨b, off, none⟩) m cap) J K k a wr)) (fun _ kv _ => K.toNat - (intOf kv).toNat)
    case atStart => exact ⟨i + 1, 0, by go_num, rfl, by omega, HS⟩
    case round =>
      obtain ⟨a, k, rfl, rfl, haI, HA⟩ := hrel
      clear HS
      obtain ⟨hcl, hci⟩ := HA.out.to
      by_cases hkK : (k : Int) < K
      · have HKK : Keep (K.toNat - k = (K.toNat - (k + 1)) + 1) := ⟨by omega⟩
        have hkI : (k : Int) < 9223372036854775807 := by omega
        have HSTEP : Keep (∀ a', a' = (if k = 0 then a else endN (ks l) a) → a' < l.length → (∃ pre, pre.length = k ∧ pre.length < (kidsI l (i : Int)).length ∧ J pre wr ∧ kidsI l (i : Int) = (pre ++ [a']) ++ kp (ks l) (K.toNat - (k + 1)) (endN (ks l) a'))) := ⟨fun a' ha' hlt => by
          obtain ⟨pre, h1, h2, _, h4⟩ := HA.out.out
          rw [← ha', HKK.out, kp_in (by rw [ks_len]; exact hlt)] at h2
          exact ⟨pre, h1, by rw [h2]; simp, h4, by rw [h2]; simp⟩⟩
        have HENDS : Keep (∀ a', a' = (if k = 0 then a else endN (ks l) a) → l.length ≤ a' → ∃ zs, zs = kidsI l (i : Int) ∧ J zs wr) := ⟨fun a' ha' hge => by
          obtain ⟨pre, h1, h2, _, h4⟩ := HA.out.out
          rw [← ha', kp_out (by rw [ks_len]; exact hge), List.append_nil] at h2
          exact ⟨pre, h2.symm, h4⟩⟩
        have HNEXT : Keep (∀ (a' : Nat) (pre : List Nat) W1, pre.length = k → kidsI l (i : Int) = (pre ++ [a']) ++ kp (ks l) (K.toNat - (k + 1)) (endN (ks l) a') → a' < l.length → J (pre ++ [a']) W1 → KpN N Bl Bi wr W1 → KidAt l (i : Int) N Bl Bi (.slice (some ⟨b, off, none⟩) m cap) J K (k + 1) a' W1) := ⟨fun a' pre W1 h1 h2 h3 h4 h5 =>
          ⟨⟨pre ++ [a'], by simp [h1], by rw [if_neg (by omega)]; exact h2, fun _ => h3, h4⟩, HA.out.row.blocks h5.1, Nat.le_trans HA.out.hN h5.2.2.2, h5.2.1.trans HA.out.hl, h5.2.2.1.trans HA.out.hi⟩⟩
        by_cases hk0 : k = 0
        · subst hk0
          by_cases halt : a < l.length
          · have hage' : decide (m ≤ a) = false := decide_eq_false (by have := HM.out; omega)
            obtain ⟨pre, hp1, hp2, hp3, hp4⟩ := HSTEP.out a (by simp) halt
            obtain ⟨fn, tmps, assign, body, hy, hR⟩ := HY.out pre a wr hp3 hp2
            have HR := keep hR
            have HN1 := keep (fun W1 => HNEXT.out a pre W1 hp1 hp4 halt)
            have HPX : Keep (pre ++ [a] <+: kidsI l (i : Int)) := ⟨by rw [hp4]; exact List.prefix_append _ _⟩
            dsimp only [encN] at hy
            clear hR hp1 hp2 hp3 hp4 halt HSTEP HENDS HNEXT
            gi_wp2
            (try refine ⟨hdd _, ?_⟩)
            refine HR.out.mono ?_
            rintro e W2 (⟨rfl, hj2, hk2⟩ | ⟨rfl, hx2⟩)
            · have HA2 := keep (HN1.out W2 hj2 hk2)
              clear hj2 hk2
              gi_wp2
              go_roundw
              case rel => exact ⟨a, 0 + 1, rfl, by go_num, by omega, HA2⟩
              case measure => simp [intOf]; omega
            · have HX2 := keep hx2
              clear hx2
              gi_wp2
              refine bodyPost_ret (results_none rfl _ _ _) rfl ?_
              exact ⟨⟨_, rfl⟩, .inr ⟨_, HPX.out, HX2.out⟩⟩
          · have hage' : decide (m ≤ a) = true := decide_eq_true (by have := HM.out; omega)
            have HE := keep (HENDS.out a (by simp) (by omega))
            clear HSTEP HENDS HNEXT halt
            gi_wp2
            refine ⟨fun _ h => (by cases h), ?_⟩
            gi_wp2
            refine bodyPost_ret (results_none rfl _ _ _) rfl ?_
            obtain ⟨_, rfl, hE⟩ := HE.out
            exact ⟨⟨_, rfl⟩, .inl (by first | exact hE | exact ⟨_, rfl, hE⟩)⟩
        · have hk0N : 0 < k := by omega
          have hal : a < l.length := by obtain ⟨pre, _, _, h3, _⟩ := HA.out.out; exact h3 (by omega)
          have HC := keep (end_any _ l (a : Int) HLN.out wr (HA.out.row.mono HA.out.hN))
          rw [endI_in hal] at HC
          obtain ⟨a', ha'⟩ : ∃ a', a' = endN (ks l) a := ⟨_, rfl⟩
          have HAE : Keep (a' = (if k = 0 then a else endN (ks l) a)) := ⟨by rw [if_neg hk0]; exact ha'⟩
          rw [← ha'] at HC
          have haI2 : (a' : Int) ≤ 1001 := by have := endN_le (ks l) (i := a) (by rw [ks_len]; omega); rw [ks_len] at this; have := HLN.out; omega
          clear hal ha' hk0
          by_cases halt : a' < l.length
          · have hage' : decide (m ≤ a') = false := decide_eq_false (by have := HM.out; omega)
            obtain ⟨pre, hp1, hp2, hp3, hp4⟩ := HSTEP.out a' (by exact HAE.out) halt
            obtain ⟨fn, tmps, assign, body, hy, hR⟩ := HY.out pre a' wr hp3 hp2
            have HR := keep hR
            have HN1 := keep (fun W1 => HNEXT.out a' pre W1 hp1 hp4 halt)
            have HPX : Keep (pre ++ [a'] <+: kidsI l (i : Int)) := ⟨by rw [hp4]; exact List.prefix_append _ _⟩
            dsimp only [encN] at hy
            clear hR hp1 hp2 hp3 hp4 halt HSTEP HENDS HNEXT
            gi_wp2_with (refine ⟨trivial, hdd _, ?_⟩; gi_at_call 10; refine (callsIn_wide.2 HC.out).mono ?_; rintro e w' ⟨rfl, rfl⟩; clear HC)
            (try refine ⟨hdd _, ?_⟩)
            refine HR.out.mono ?_
            rintro e W2 (⟨rfl, hj2, hk2⟩ | ⟨rfl, hx2⟩)
            · have HA2 := keep (HN1.out W2 hj2 hk2)
              clear hj2 hk2
              gi_wp2
              go_roundw
              case rel => exact ⟨a', k + 1, rfl, by go_num, by omega, HA2⟩
              case measure => simp [intOf]; omega
            · have HX2 := keep hx2
              clear hx2
              gi_wp2
              refine bodyPost_ret (results_none rfl _ _ _) rfl ?_
              exact ⟨⟨_, rfl⟩, .inr ⟨_, HPX.out, HX2.out⟩⟩
          · have hage' : decide (m ≤ a') = true := decide_eq_true (by have := HM.out; omega)
            have HE := keep (HENDS.out a' (by exact HAE.out) (by omega))
            clear HSTEP HENDS HNEXT halt haI haI2 HAE
            clear HKK hkI hk2
            gi_wp2_with (refine ⟨trivial, ?_⟩; refine ⟨hdd _, ?_⟩; gi_at_call 10; refine (callsIn_wide.2 HC.out).mono ?_; rintro e w' ⟨rfl, rfl⟩; clear HC)
            refine ⟨fun _ h => (by cases h), ?_⟩
            gi_wp2
            refine bodyPost_ret (results_none rfl _ _ _) rfl ?_
            obtain ⟨_, rfl, hE⟩ := HE.out
            exact ⟨⟨_, rfl⟩, .inl (by first | exact hE | exact ⟨_, rfl, hE⟩)⟩
      · have HE : Keep (∃ zs, zs = kidsI l (i : Int) ∧ J zs wr) := ⟨by
          obtain ⟨pre, h1, h2, _, h4⟩ := HA.out.out
          rw [show K.toNat - k = 0 by omega] at h2
          exact ⟨pre, by rw [h2]; simp [kp], h4⟩⟩
        gi_wp2
        refine bodyPost_end (results_none rfl _ _ _) rfl ?_
        obtain ⟨_, rfl, hE⟩ := HE.out
        exact ⟨⟨_, rfl⟩, .inl (by first | exact hE | exact ⟨_, rfl, hE⟩)⟩
  · rw [decide_eq_false hin] at HT
    have HK := keep (kidsI_out hin)
    clear hin
    gi_wp2_with (refine ⟨trivial, hdd _, ?_⟩; gi_at_call 24; refine (callsIn_wide.2 HT.out).mono ?_; rintro e w' ⟨rfl, rfl⟩; clear HT)
    refine bodyPost_ret (results_none rfl _ _ _) rfl ?_
    exact ⟨⟨_, rfl⟩, .inl ⟨[], HK.out.symm, H0.out⟩⟩
end Go.Proofs.Ytgodjgbdjgiapaa
