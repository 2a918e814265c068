/-
  The node above: the program's Up, and the document's.
-/
import Derived.Test.YtgodjgbdjgiapaaTreeC
namespace Go.Proofs.Ytgodjgbdjgiapaa
open Go.RowKit Go.Joins

/-- Between two rounds of the program's Up: so many are free, and nobody from the next place on is the one. -/
structure UpAt (l : List Nd) (i f c : Nat) : Prop where
  ends : Ends (ks l) i c f
  none : NoUp (ks l) i c
  le : c ≤ i
theorem UpAt.hit {l : List Nd} {i f c : Nat} {x : Nd} (h : UpAt l i f (c + 1)) (hi : i < l.length) (hx : l[c]? = some x) (hlt : (f : Int) < x.K) : UpIs l (i : Int) (c : Int) := by
  obtain ⟨hl, e⟩ := ks_get hx
  exact .inr ⟨c, i, rfl, rfl, h.ends.kid h.le (by rw [ks_len]; exact hi) (by rw [e]; omega)⟩
theorem UpAt.next {l : List Nd} {i f c : Nat} {x : Nd} (h : UpAt l i f (c + 1)) (hi : i < l.length) (hx : l[c]? = some x) (hge : x.K ≤ (f : Int)) : UpAt l i (f + 1 - x.K.toNat) c := by
  obtain ⟨hl, e⟩ := ks_get hx
  have hle := h.le
  have hm : (ks l)[c] ≤ f := by rw [e]; omega
  have h1 := h.ends.on (by omega) (by rw [ks_len]; exact hi) hm
  rw [e] at h1
  exact ⟨h1, h.none.cons (h.ends.not_kid (by omega) (by rw [ks_len]; exact hi) hm), by omega⟩

set_option maxHeartbeats 4000000 in
theorem up_any (v : Value) (l : List Nd) (i : Int) (hn : l.length ≤ 1000) (w : World) (h : NdRow w.heap.size w v l) :
    Calls Try.prog 14 #[v, .int .i64 i] w fun e w' => ∃ r, e = .returned (.int .i64 r) ∧ UpIs l i r ∧ w = w' := by
  have HT := keep (there_any v l i w h)
  by_cases hin : 0 ≤ i ∧ i < l.length
  · obtain ⟨i, rfl⟩ := Int.eq_ofNat_of_zero_le hin.1
    have hil : i < l.length := by omega
    rw [decide_eq_true hin] at HT
    have H0 : Keep (UpAt l i 0 i) := ⟨⟨by unfold Ends; rw [tk_zero]; rfl, NoUp.start _ _, Nat.le_refl _⟩⟩
    have HHIT := keep (fun f c x (h : UpAt l i f (c + 1)) (hx : l[c]? = some x) => h.hit hil hx)
    have HNX := keep (fun f c x (h : UpAt l i f (c + 1)) (hx : l[c]? = some x) => h.next hil hx)
    have HALL : Keep (∀ f, UpAt l i f 0 → UpIs l (i : Int) (-1)) := ⟨fun f h => h.none.all⟩
    obtain ⟨o, cap, rfl, hf⟩ := h.form
    have HF := keep hf
    obtain ⟨n, hnn⟩ : ∃ n, n = l.length := ⟨_, rfl⟩
    have HNN := keep hnn
    rw [← hnn] at HT hil ⊢
    have hnI : (n : Int) ≤ 1000 := by omega
    have hilI : (i : Int) < (n : Int) := by omega
    have hi0 : (i : Int) ≤ 1000 := by omega
    generalize UpIs l (i : Int) = R at *
    clear h hf hin hn hnn
    go_enter Try.func14, Try.ntmps14
    go_wp2_with fail
    refine HT.out.mono ?_
    rintro e w' ⟨rfl, rfl⟩
    clear HT
    go_wp2_with fail
    go_loop [5, 6] (fun fv av => ∃ f c : Nat, fv = .int .i64 (f : Int) ∧ av = .int .i64 ((c : Int) - 1) ∧ c ≤ i ∧ f ≤ 1000000 ∧ f + c ≤ 1000 ∧ Keep (UpAt l i f c)) (fun _ av => (intOf av + 1).toNat)
    case atStart => exact ⟨0, i, rfl, by go_num, Nat.le_refl _, by omega, by omega, H0⟩
    case round =>
      obtain ⟨f, c, rfl, rfl, hci, hf1, hfc, HU⟩ := hrel
      clear H0
      cases c with
      | zero =>
        have HE := keep (HALL.out f HU.out)
        have hz : ¬ ((0 : Int) ≤ ((0 : Nat) : Int) - 1) := by omega
        go_wp2_with fail
        go_ret
        exact ⟨_, rfl, HE.out, rfl⟩
      | succ c =>
        have hcc : ((c + 1 : Nat) : Int) - 1 = (c : Int) := by omega
        rw [hcc]
        clear hcc
        obtain ⟨x, hx⟩ := get_of_lt (l := l) (i := c) (by rw [← HNN.out]; omega)
        obtain ⟨hok, b, off, rfl, hb, hc⟩ := HF.out c x hx
        obtain ⟨c0, c1, c2, c3, c4⟩ := hc w (Below.refl _ _)
        have HH := keep (HHIT.out f c x HU.out hx)
        have HN := keep (HNX.out f c x HU.out hx)
        have hk2 := hok.k2
        have hltI : (c : Int) < (n : Int) := by omega
        have hfI : (f : Int) ≤ 1000 := by omega
        have hcI : (c : Int) ≤ 1000 := by omega
        have hfcI : (f : Int) + (c : Int) ≤ 999 := by omega
        obtain ⟨K, hK⟩ : ∃ K, K = x.K := ⟨_, rfl⟩
        rw [← hK] at HH HN c3 hk2
        clear hx hok hc hb hK
        by_cases hneg : K < 0
        · have HN1 := keep (HN.out (by omega))
          rw [show K.toNat = 0 by omega] at HN1
          have hff : ¬ ((f : Int) < 0) := by omega
          go_wp2_with fail
          go_round
          case rel => exact ⟨f + 1 - 0, c, by go_num, by go_num, by omega, by omega, by omega, HN1⟩
          case measure => simp [intOf] <;> omega
        · by_cases hgt : (f : Int) < K
          · have HE := keep (HH.out hgt)
            go_wp2_with fail
            go_ret
            exact ⟨_, rfl, HE.out, rfl⟩
          · have HN1 := keep (HN.out (by omega))
            have hKf : K ≤ (f : Int) := by omega
            have hK0 : 0 ≤ K := by omega
            go_wp2_with fail
            go_round
            case rel => exact ⟨f + 1 - K.toNat, c, by go_num, by go_num, by omega, by omega, by omega, HN1⟩
            case measure => simp [intOf] <;> omega
  · have HE := keep (UpIs.out hin)
    rw [decide_eq_false hin] at HT
    obtain ⟨o, cap, rfl, -⟩ := h.form
    clear h hin hn
    go_enter Try.func14, Try.ntmps14
    go_wp2_with fail
    refine HT.out.mono ?_
    rintro e w' ⟨rfl, rfl⟩
    clear HT
    go_wp2_with fail
    go_ret
    exact ⟨_, rfl, HE.out, rfl⟩

set_option maxRecDepth 100000 in
set_option maxHeartbeats 4000000 in
theorem rup_any (v : Value) (l : List Nd) (i : Int) (hn : l.length ≤ 1000) (w : World) (h : NdRow w.heap.size w v l) :
    Calls Try.prog 15 #[v, .int .i64 i] w fun e w' => ∃ r, e = .returned (.int .i64 r) ∧ UpIs l i r ∧ Below w.heap.size w w' := by
  have HK := keep (fun (c : Nat) W (hW : Below w.heap.size w W) => rkids_any v l (c : Int) hn W ((h.below hW).mono hW.size))
  have HKL := keep (fun (c : Nat) => kidsI_len l (c : Int))
  have HMEM : Keep (∀ (c : Nat) (j : Nat), (j : Int) = i → j ∈ kidsI l (c : Int) → UpIs l i (c : Int)) := ⟨fun c j hj hm => .inr ⟨c, j, rfl, hj, by rwa [kidsI_nat] at hm⟩⟩
  have HNO : Keep (∀ c : Nat, (i ≤ (c : Int) ∨ (l.length : Int) ≤ (c : Int)) → (∀ d : Nat, d < c → ∀ j : Nat, (j : Int) = i → j ∉ kidsI l (d : Int)) → UpIs l i (-1)) := ⟨fun c hc hno => .inl ⟨rfl, fun d j hj hm => by
    have h1 := kids_lt hm
    rw [ks_len] at h1
    by_cases hd : d < c
    · exact hno d hd j hj (by rw [kidsI_nat]; exact hm)
    · omega⟩⟩
  obtain ⟨o, cap, rfl, -⟩ := h.form
  obtain ⟨n, hnn⟩ : ∃ n, n = l.length := ⟨_, rfl⟩
  rw [← hnn] at HK HNO HKL ⊢
  have hnI : (n : Int) ≤ 1000 := by omega
  have HNI : Keep (n ≤ 1000) := ⟨by omega⟩
  have HB0 := keep (Below.refl w.heap.size w)
  generalize UpIs l i = R at *
  generalize hKD : (fun c : Nat => kidsI l (c : Int)) = Q at *
  have HQ : ∀ c : Nat, kidsI l (c : Int) = Q c := fun c => by rw [← hKD]
  simp only [HQ] at HK HKL HMEM HNO
  clear h hn hnn hKD HQ
  go_enter Try.func15, Try.ntmps15
  go_wp2_with fail
  go_loopw [5] (fun kv wr => ∃ k : Nat, kv = .int .i64 (k : Int) ∧ k ≤ n ∧ Keep (Below w.heap.size w wr ∧ ∀ d : Nat, d < k → ∀ j : Nat, (j : Int) = i → j ∉ Q d)) (fun kv _ => n - (intOf kv).toNat)
  case atStart => exact ⟨0, rfl, Nat.zero_le _, ⟨HB0.out, fun d hd => by omega⟩⟩
  case round =>
    obtain ⟨k, rfl, hk, HR⟩ := hrel
    clear HB0
    have hkI : (k : Int) ≤ (n : Int) := by omega
    by_cases hki : (k : Int) < i
    · by_cases hkn : k < n
      · have hknI : (k : Int) < (n : Int) := by omega
        have HC := keep (HK.out k wr HR.out.1)
        have HL := keep (HKL.out k)
        have HM := keep (HMEM.out k)
        have HNOX : Keep ((∀ j : Nat, (j : Int) = i → j ∉ Q k) → ∀ d : Nat, d < k + 1 → ∀ j : Nat, (j : Int) = i → j ∉ Q d) := ⟨fun hq d hd => by
          rcases Nat.lt_or_ge d k with h | h
          · exact HR.out.2 d h
          · obtain rfl : d = k := by omega
            exact hq⟩
        generalize Q k = M at *
        go_wp2_with fail
        refine HC.out.mono ?_
        rintro e w1 ⟨u, rfl, ho⟩
        have HO := keep ho
        clear ho HC
        obtain ⟨o', cap', rfl, hr⟩ := HO.out.row.form
        have HRW := keep hr
        obtain ⟨m, hmm⟩ : ∃ m, m = M.length := ⟨_, rfl⟩
        have HMM := keep hmm
        rw [← hmm]
        have hmI : (m : Int) ≤ 1000 := by have := HL.out; have := HNI.out; omega
        have HB1 := keep (HR.out.1.trans (HO.out.below.mono HR.out.1.size))
        have HJ0 : Keep (∀ j : Nat, (j : Int) = i → j ∉ M.take 0) := ⟨by simp⟩
        clear hr hmm
        go_wp2_with fail
        go_loopw [7] (fun jv wj => w1 = wj ∧ ∃ q : Nat, jv = .int .i64 (q : Int) ∧ q ≤ m ∧ Keep (∀ j : Nat, (j : Int) = i → j ∉ M.take q)) (fun jv _ => m - (intOf jv).toNat)
        case atStart => exact ⟨rfl, 0, rfl, Nat.zero_le _, HJ0⟩
        case round =>
          obtain ⟨rfl, q, rfl, hq, HJ⟩ := hrel
          clear HJ0
          by_cases hqm : q < m
          · obtain ⟨x, hx⟩ := get_of_lt (l := M) (i := q) (by rw [← HMM.out]; exact hqm)
            obtain ⟨b, off, rfl, hb, hc⟩ := HRW.out q x hx
            have hcell := hc w1 (Below.refl _ _)
            have hqmI : (q : Int) < (m : Int) := by omega
            by_cases hxi : (x : Int) = i
            · have hb' : ((x : Int) == i) = true := by simp [hxi]
              have HE := keep (HM.out x hxi (List.mem_of_getElem? hx))
              clear hx hb hc hxi
              go_wp2_with fail
              go_ret
              exact ⟨_, rfl, HE.out, HB1.out⟩
            · have hb' : ((x : Int) == i) = false := by simpa using hxi
              have HJ1 : Keep (∀ j : Nat, (j : Int) = i → j ∉ M.take (q + 1)) := ⟨fun j hj => by
                rw [take_snoc hx, List.mem_append, List.mem_singleton]
                rintro (h | h)
                · exact HJ.out j hj h
                · exact hxi (by rw [← h]; exact hj)⟩
              clear hx hb hc hxi
              go_wp2_with fail
              go_roundw
              case rel => exact ⟨trivial, q + 1, by go_num, by omega, HJ1⟩
              case measure => simp [intOf]; omega
          · have hqm' : m = q := by omega
            subst hqm'
            have hdn : decide (m < m) = false := by simp
            have HJ1 := keep (HNOX.out (fun j hj => by have := HJ.out j hj; rwa [List.take_of_length_le (by rw [← HMM.out]; exact Nat.le_refl _)] at this))
            clear hqm
            go_wp2_with fail
            go_roundw
            case rel => exact ⟨k + 1, by go_num, by omega, ⟨HB1.out, HJ1.out⟩⟩
            case measure => simp [intOf]; omega
      · have HE := keep (HNO.out k (.inr (by omega)) HR.out.2)
        have hkn2 : ¬ ((k : Int) < (n : Int)) := by omega
        clear hkn
        go_wp2_with fail
        go_ret
        exact ⟨_, rfl, HE.out, HR.out.1⟩
    · have HE := keep (HNO.out k (.inl (by omega)) HR.out.2)
      go_wp2_with fail
      go_ret
      exact ⟨_, rfl, HE.out, HR.out.1⟩
end Go.Proofs.Ytgodjgbdjgiapaa
