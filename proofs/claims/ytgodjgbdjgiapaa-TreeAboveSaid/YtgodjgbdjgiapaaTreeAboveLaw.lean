/-
  For every list of nodes retracelaw09.TreeAbove answers true, and what it is given reads as before. No condition.
-/
import Derived.Test.YtgodjgbdjgiapaaRows
import Derived.Test.YtgodjgbdjgiapaaTreeXL
import Derived.Test.YtgodjgbdjgiapaaTreeXQ
import Derived.Test.YtgodjgbdjgiapaaTreeXR
import Derived.Below
import Derived.ChangeOld
namespace Go.Proofs.Ytgodjgbdjgiapaa.treeAbove
open Go.ChangeShapes Go.WideShapes Go.ChangeAt Go.RowKit Go.Joins

theorem take_sum {k : List Nat} {i : Nat} (h : i < k.length) : (k.take (i + 1)).sum = (k.take i).sum + k[i] := by
  rw [List.take_succ_eq_append_getElem h, List.sum_append]; simp
theorem take_sum_le (k : List Nat) (i : Nat) : (k.take i).sum ≤ k.sum := by
  conv => rhs; rw [← List.take_append_drop i k, List.sum_append]
  omega
theorem le_sum {k : List Nat} {i : Nat} (h : i < k.length) : k[i] ≤ k.sum := by
  have h1 := take_sum h
  have h2 := take_sum_le k (i + 1)
  omega

set_option maxRecDepth 100000 in
set_option maxHeartbeats 16000000 in
theorem walk_tree (v : Value) (l : List Nd) (w : World) (h : NdRow w.heap.size w v l) (hl : l.length ≤ 120) (hfull : full 1 (ks l)) (hck : (checkP l).2 = 0) :
    Calls Try.prog 6 #[v] w fun e w' => e = .returned (.bool true) ∧ Below w.heap.size w w' := by
  have HL := keep live_any
  have HFULL := keep hfull
  have hn : l.length ≤ 1000 := by omega
  have hsum := full_sum _ _ hfull
  rw [ks_len] at hsum
  have HSUM := keep hsum
  have HC := keep (check_any v l hn w h)
  rw [hck] at HC
  have HUP := keep (fun (i : Int) W (hW : Below w.heap.size w W) => up_any v l i hn W (h.to hW))
  have HEN := keep (fun (i : Nat) (hi : i < l.length) W (hW : Below w.heap.size w W) => show Calls Try.prog 10 #[v, .int .i64 (i : Int)] W fun e w' => e = .returned (.int .i64 (endN (ks l) i : Int)) ∧ W = w' by
    have := end_any v l (i : Int) hn W (h.to hW)
    rwa [endI_in hi] at this)
  have HKD := keep (fun (i k : Nat) (hk : (k : Int) ≤ 1000) W (hW : Below w.heap.size w W) => kid_any v l (i : Int) (k : Int) (by omega) (by omega) hn W (h.to hW))
  have HEB : Keep (∀ i, i < l.length → i < endN (ks l) i ∧ endN (ks l) i ≤ l.length) := ⟨fun i hi => ⟨endN_gt (by rw [ks_len]; exact hi), by have := endN_le (ks l) (i := i) (by rw [ks_len]; omega); rwa [ks_len] at this⟩⟩
  have HE0 : Keep (endN (ks l) 0 = l.length) := ⟨by unfold endN; rw [List.drop_zero, full_all _ _ hfull, ks_len]; omega⟩
  have HU1 := keep (fun (i : Nat) (r : Int) (hi : i < l.length) (hr : UpIs l (i : Int) r) => full_upIs hfull hi hr)
  have HKID : Keep (∀ (i k : Nat) (x : Nd), l[i]? = some x → (k : Int) < x.K → ∃ p : Nat, kidI l (i : Int) (k : Int) = (p : Int) ∧ i < p ∧ p < l.length ∧ ∀ r, UpIs l (p : Int) r → r = (i : Int)) := ⟨fun i k x hx hk => by
    obtain ⟨hi, e⟩ := ks_get hx
    obtain ⟨p, h1, h2, h3⟩ := full_kid HFULL.out hi (j := k) (by rw [e]; omega)
    refine ⟨p, kidI_get (by rw [kidsI_nat]; exact h1), h2, by rw [ks_len] at h3; exact h3, fun r hr => hr.uniq (.inr ⟨i, p, rfl, rfl, List.mem_of_getElem? h1⟩)⟩⟩
  have HST : Keep (∀ (i : Nat) (x : Nd), l[i]? = some x → ((ks l).take (i + 1)).sum = ((ks l).take i).sum + x.K.toNat ∧ x.K.toNat ≤ l.length) := ⟨fun i x hx => by
    obtain ⟨hi, e⟩ := ks_get hx
    have h1 := take_sum hi
    have h2 := le_sum hi
    rw [e] at h1 h2
    exact ⟨h1, by have := HSUM.out; omega⟩⟩
  have HALL : Keep (((ks l).take l.length).sum = (ks l).sum) := ⟨by rw [List.take_of_length_le (by rw [ks_len]; exact Nat.le_refl _)]⟩
  have HTL : Keep (∀ i, ((ks l).take i).sum ≤ 120) := ⟨fun i => by have := take_sum_le (ks l) i; have := HSUM.out; omega⟩
  obtain ⟨o, cap, rfl, hf⟩ := h.form
  have HF := keep hf
  have HLE := keep hl
  obtain ⟨n, hnn⟩ : ∃ n, n = l.length := ⟨_, rfl⟩
  have HNN := keep hnn
  rw [← hnn] at HC HUP HEN HKD HEB HE0 HU1 HST HALL HSUM ⊢
  have HKID2 : Keep (∀ (i k : Nat) (x : Nd), l[i]? = some x → (k : Int) < x.K → ∃ p : Nat, kidI l (i : Int) (k : Int) = (p : Int) ∧ i < p ∧ p < n ∧ ∀ r, UpIs l (p : Int) r → r = (i : Int)) := ⟨by rw [hnn]; exact HKID.out⟩
  have hd : (n : Int) ≤ 120 := by omega
  have hd3 : decide ((120 : Int) < (n : Int)) = false := decide_eq_false (by omega)
  have hn1 : 1 ≤ n := by have := HSUM.out; omega
  have H0 : Keep (Below w.heap.size w w) := ⟨Below.refl _ _⟩
  generalize ((checkP l).1 : Int) = p0 at *
  clear h hl hfull hck hn hsum hf hnn HKID HFULL
  go_enter Try.func6, Try.ntmps6
  go_wp2_with fail
  refine HC.out.mono ?_
  rintro e w1 ⟨rfl, hb⟩
  have HB1 := keep hb
  clear hb HC H0
  go_wp2_with fail
  go_loopw [5, 6] (fun sv iv wr => ∃ i s : Nat, sv = .int .i64 (s : Int) ∧ iv = .int .i64 (i : Int) ∧ i ≤ n ∧ s ≤ 120 ∧ Keep (s = ((ks l).take i).sum ∧ Below w.heap.size w wr)) (fun _ iv _ => n - (intOf iv).toNat)
  case atStart => exact ⟨0, 0, rfl, rfl, Nat.zero_le _, by omega, ⟨by simp, HB1.out⟩⟩
  case round =>
    obtain ⟨i, s, rfl, rfl, hi, hs, HA⟩ := hrel
    clear HB1
    by_cases hlt : i < n
    · have hltI : (i : Int) < (n : Int) := by omega
      obtain ⟨x, hx⟩ := get_of_lt (l := l) (i := i) (by rw [← HNN.out]; exact hlt)
      obtain ⟨hok, b, off, rfl, hb, hc⟩ := HF.out i x hx
      have HC3 : Keep (∀ W, Below w.heap.size w W → W.cell? ⟨b, off + i * 5 + 3, none⟩ = some (.int .i64 x.K)) := ⟨fun W hW => (hc W hW).2.2.2.1⟩
      have HX := keep hx
      have hst := HST.out i x hx
      have HSTP := keep hst
      have HUI := keep (HUP.out (i : Int) wr HA.out.2)
      have HEI := keep (HEN.out i hlt wr HA.out.2)
      obtain ⟨he1, he2⟩ := HEB.out i hlt
      have HU2 := keep (fun r => HU1.out i r hlt)
      generalize endN (ks l) i = E at *
      have he1I : (i : Int) < (E : Int) := by omega
      have he2I : (E : Int) ≤ (n : Int) := by omega
      have hE1 : decide (n < E) = false := decide_eq_false (by omega)
      have hE2 : decide (E ≤ i) = false := decide_eq_false (by omega)
      have hk2 := hok.k2
      obtain ⟨K, hK⟩ : ∃ K, K = x.K := ⟨_, rfl⟩
      have HKK := keep hK
      rw [← hK] at HC3 HSTP hk2 hst
      have hKn : K ≤ (n : Int) := by omega
      clear hx hok hb hc hst hK he1 he2
      go_wp2_with fail
      refine HUI.out.mono ?_
      rintro e w' ⟨r, rfl, hr, rfl⟩
      obtain ⟨hr1, hr2⟩ := HU2.out r hr
      have hrd : decide ((i : Int) ≤ r) = false := decide_eq_false (by omega)
      obtain ⟨z, hz1, hz2⟩ : ∃ z, decide (r < 0) = z ∧ ((i : Int) == 0) = z := ⟨_, rfl, by
        by_cases h0 : i = 0
        · rw [decide_eq_true (hr2.2 h0), h0]; rfl
        · rw [decide_eq_false (fun c => h0 (hr2.1 c)), show ((i : Int) == 0) = false by simp; omega]⟩
      clear hr hr2 HUI HU2
      go_wp2_with fail
      refine HEI.out.mono ?_
      rintro e w' ⟨rfl, rfl⟩
      go_wp2_with fail
      refine HEI.out.mono ?_
      rintro e w' ⟨rfl, rfl⟩
      clear HEI
      have H1 : Keep (s = s + 0 ∧ Below w.heap.size w wr) := ⟨rfl, HA.out.2⟩
      have hs2 : (s : Int) ≤ 120 := by omega
      go_wp2_with fail
      go_loopw [5, 8] (fun sv kv wj => ∃ k t : Nat, sv = .int .i64 (t : Int) ∧ kv = .int .i64 (k : Int) ∧ k ≤ K.toNat ∧ t ≤ 240 ∧ Keep (t = s + k ∧ Below w.heap.size w wj)) (fun _ kv _ => K.toNat - (intOf kv).toNat)
      case atStart => exact ⟨0, s, rfl, rfl, Nat.zero_le _, by omega, H1⟩
      case round =>
        obtain ⟨k, t, rfl, rfl, hk, ht, HJ⟩ := hrel
        clear H1
        have c3 := HC3.out wr HJ.out.2
        by_cases hkK : (k : Int) < K
        · have hkn : (k : Int) ≤ (n : Int) := by omega
          have hkI : (k : Int) ≤ 1000 := by omega
          have HKC := keep (HKD.out i k hkI wr HJ.out.2)
          obtain ⟨p, hp, hp1, hp2, hp3⟩ := HKID2.out i k x HX.out (by rw [← HKK.out]; exact hkK)
          rw [hp] at HKC
          have HP3 := keep hp3
          have hp1I : (i : Int) < (p : Int) := by omega
          have hp2I : (p : Int) < (n : Int) := by omega
          have hP1 : decide (p ≤ i) = false := decide_eq_false (by omega)
          have hP2 : decide (n ≤ p) = false := decide_eq_false (by omega)
          have htI : (t : Int) ≤ 240 := by omega
          clear hp hp3
          go_wp2_with fail
          refine HKC.out.mono ?_
          rintro e w2 ⟨rfl, hb⟩
          have HB2 := keep (HJ.out.2.trans (hb.mono HJ.out.2.size))
          clear hb HKC
          go_wp2_with fail
          refine (HUP.out (p : Int) w2 HB2.out).mono ?_
          rintro e w' ⟨r', rfl, hr', rfl⟩
          obtain rfl := HP3.out r' hr'
          have hii : ((i : Int) != (i : Int)) = false := by simp
          clear hr'
          go_wp2_with fail
          go_roundw
          case rel => exact ⟨k + 1, t + 1, by go_num, by go_num, by omega, by have := HJ.out.1; have h2 := HSTP.out.2; omega, ⟨by have := HJ.out.1; omega, HB2.out⟩⟩
          case measure => simp [intOf]; omega
        · have HNX : Keep (t = ((ks l).take (i + 1)).sum) := ⟨by rw [HSTP.out.1, ← HA.out.1, HJ.out.1]; omega⟩
          have ht2 : t ≤ 120 := by rw [HNX.out]; exact HTL.out _
          go_wp2_with fail
          go_roundw
          case rel => exact ⟨i + 1, t, rfl, by go_num, by omega, ht2, ⟨HNX.out, HJ.out.2⟩⟩
          case measure => simp [intOf]; omega
    · have hin : n = i := by omega
      have hsn : (s : Int) = (n : Int) - 1 := by
        have h1 := HA.out.1
        rw [← hin, HALL.out] at h1
        have := HSUM.out; omega
      have HSN := keep hsn
      have HEZ := keep (HEN.out 0 (by omega) wr HA.out.2)
      rw [HE0.out] at HEZ
      have hz0 : ((0 : Nat) : Int) = 0 := rfl
      rw [hz0] at HEZ
      have hw1 : IntKind.i64.wrap ((n : Int) - 1) = (n : Int) - 1 := IntWalk.i64_in _ ⟨by omega, by omega⟩
      have hseq : ((s : Int) == (n : Int) - 1) = true := by simp [hsn]
      have hnn : ((n : Int) == (n : Int)) = true := by simp
      have hlt2 : ¬ ((i : Int) < (n : Int)) := by omega
      clear hlt hsn hz0 hin
      go_wp2_with fail
      refine HEZ.out.mono ?_
      rintro e w' ⟨rfl, rfl⟩
      clear HEZ
      go_wp2_with fail
      refine (HL.out _).mono ?_
      rintro e w3 ⟨rfl, hb⟩
      have HB3 := keep (HA.out.2.trans (hb.mono HA.out.2.size))
      clear hb
      go_wp2_with fail
      go_ret
      exact ⟨rfl, HB3.out⟩

set_option maxHeartbeats 4000000 in
theorem walk (v : Value) (l : List Nd) (w : World) (h : NdRow w.heap.size w v l) :
    Calls Try.prog 6 #[v] w fun e w' => e = .returned (.bool true) ∧ Below w.heap.size w w' := by
  by_cases hlong : 120 < l.length
  · have HL := keep live_any
    obtain ⟨o, cap, rfl, -⟩ := h.form
    have hd : (120 : Int) < (l.length : Int) := by omega
    clear h hlong
    go_enter Try.func6, Try.ntmps6
    go_wp2_with fail
    refine (HL.out _).mono ?_
    rintro e w1 ⟨rfl, hb⟩
    have HB := keep hb
    clear hb
    go_wp2_with fail
    go_ret
    exact ⟨rfl, HB.out⟩
  · by_cases hck : (checkP l).2 = 0
    · exact walk_tree v l w h (by omega) (check_full hck) hck
    · have HL := keep live_any
      have hn : l.length ≤ 1000 := by omega
      have HC := keep (check_any v l hn w h)
      have HI := keep (fun W (hW : Below w.heap.size w W) => is_any v l hn W (h.to hW))
      obtain ⟨o, cap, rfl, -⟩ := h.form
      have hd : (l.length : Int) ≤ 120 := by omega
      generalize ((checkP l).1 : Int) = p at *
      generalize (checkP l).2 = q at *
      have hq1 : (q != 0) = true := by simpa using hck
      have hq2 : (q == 0) = false := by simpa using hck
      rw [hq2] at HI
      clear h hlong hn hck
      go_enter Try.func6, Try.ntmps6
      go_wp2_with fail
      refine HC.out.mono ?_
      rintro e w1 ⟨rfl, hb⟩
      have HB1 := keep hb
      clear hb HC
      go_wp2_with fail
      refine (HI.out _ HB1.out).mono ?_
      rintro e w2 ⟨rfl, hb⟩
      have HB2 := keep (HB1.out.trans (hb.mono HB1.out.size))
      clear hb HI
      go_wp2_with fail
      refine (HL.out _).mono ?_
      rintro e w3 ⟨rfl, hb⟩
      have HB3 := keep (HB2.out.trans (hb.mono HB2.out.size))
      clear hb
      go_wp2_with fail
      go_ret
      exact ⟨rfl, HB3.out⟩
theorem own : ownKnob Try.prog.godebug = none := by kernel_rfl
theorem laid : laidOutB Try.prog = true := by kernel_rfl

set_option maxRecDepth 100000 in
theorem lifted (os : Os) (started : os.Started) (H : Type) (enc : TypeId × Value → H) :
    ReturnsInHanded {} Try.checked os 6 .any (Rows.treeAboveSpec.pre6 enc Try.prog Try.f6 Rows.treeAboveRow.domain false) (Rows.treeAboveSpec.post enc Try.prog Try.f6 false true false false) := by
  refine returnsInHanded_of_change (C := Try.checked) own started (by kernel_rfl) Try.func6
    (ChangeSpec.witness6 (enc := enc) (C := Try.checked) false ⟨#[], #[.slice none 0 0], []⟩ 8 (by kernel_rfl) (by kernel_rfl) (by kernel_rfl) (by kernel_rfl)) ?_
  intro W base args ds gs before hval0 hW hcnd _
  have hval : ∀ (j : Nat) t v, Try.f6.params[j]? = some t → args[j]? = some v → Value.okWide Try.prog W .any base t v := hval0
  have hW' := hW
  obtain ⟨p, q, hA0, hV, rfl, hfz, hnd⟩ := hW
  have hA : DataW.TrodAll enc Try.prog W 0 (fun _ => true) true Try.f6.params.toList args.toList ds p := hA0
  rw [Try.params6] at hA hval
  obtain ⟨v0, vs0, d0, ds0, p0, q0, hargs, rfl, rfl, h0, r0⟩ := trodAll_cons hA
  obtain ⟨rfl, rfl, rfl⟩ := trodAll_nil r0
  obtain rfl : args = #[v0] := by cases args; simp_all
  obtain ⟨rfl, rfl⟩ := trodVars_none hV
  obtain ⟨a0, w0⟩ := nds_of (enc := enc) h0 (hval 0 22 v0 rfl rfl)
  clear hA0 hval0
  simp only [List.append_nil] at hW'
  have hlt0 : ∀ x ∈ p0, x.block < W.heap.size := fun x hx => by
    have := hW'.lt x (by simp [hx])
    simpa using this
  refine (walk v0 a0 W w0).mono fun e W' ⟨he, hg⟩ => ?_
  subst he
  exact ⟨_, rfl, _, _, _, [], _, [], hW', (trodAll_cons_mk (shut_bool Try.underlying4 _) trodAll_mk0), (trodAll_cons_mk (Below.trod laid (by kernel_rfl) (of_decide_eq_true (by kernel_rfl)) h0 hg hlt0) trodAll_mk0), rfl, hg.frame _, fun h => by cases h⟩

theorem over : Rows.treeAboveRow.holds Try.pinned (OpenSpec.ofChange Rows.treeAboveSpec) :=
  OpenClaim.holds_of_wide 6 Try.f6 rfl rfl rfl rfl rfl rfl rfl ⟨rfl, rfl, rfl, rfl, rfl⟩ rfl rfl rfl rfl rfl (by kernel_rfl) Try.func6 (by kernel_rfl)
    (of_decide_eq_true (by kernel_rfl)) (by unfold Func.isWrapper; first | (rw [if_pos (by decide +kernel)]; kernel_rfl) | (rw [if_neg (by decide +kernel)]; exact ⟨rfl, rfl⟩))
    (fun os started H enc _ => lifted os started H enc)

/-- The statement. -/
theorem proved : Rows.TreeAboveSaid :=
  over
#print axioms proved
end Go.Proofs.Ytgodjgbdjgiapaa.treeAbove
