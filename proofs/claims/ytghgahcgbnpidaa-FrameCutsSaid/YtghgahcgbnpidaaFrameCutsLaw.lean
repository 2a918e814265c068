/-
  For every list of frames and every int, retracelaw04.FrameCuts answers true, and what it is given reads as before. No condition.
-/
import Derived.Test.YtghgahcgbnpidaaRows
import Derived.Test.YtghgahcgbnpidaaFrameQ
import Derived.Test.YtghgahcgbnpidaaFrameN
namespace Go.Proofs.Ytghgahcgbnpidaa.frameCuts
open Go.ChangeShapes Go.WideShapes Go.ChangeAt Go.RowKit Go.Joins
open Go.ChangeMaps (open_string shut_string)

theorem small_ok {fs : List Fr} (h : Small fs) (hk : Kinds fs) : (∀ f ∈ fs, f.ok) ∧ (cat fs).length ≤ 7000 := by
  refine ⟨fun f hf => ⟨(hk f hf).1, (hk f hf).2, by have := h.2 f hf; omega⟩, ?_⟩
  have : ∀ l : List Fr, (∀ f ∈ l, f.S.size ≤ 300) → (cat l).length ≤ 316 * l.length := fun l => by
    induction l with
    | nil => intro _; simp [cat]
    | cons f r ih =>
      intro hl
      have h1 := ih (fun g hg => hl g (by simp [hg]))
      have h2 := hl f (by simp)
      have h3 := ln_bd f
      rw [cat, List.length_append, frB_len, List.length_cons]; omega
  have h1 := this fs h.2
  have h2 := h.1
  omega

set_option maxHeartbeats 4000000 in
theorem walk_some (b off cap : Nat) (fs : List Fr) (cut : Int) (w : World) (h : FrRow w.heap.size w (.slice (some ⟨b, off, none⟩) fs.length cap) fs) (hb : b < w.heap.size) (hcap : fs.length ≤ cap) :
    Calls Try.prog 7 #[.slice (some ⟨b, off, none⟩) fs.length cap, .int .i64 cut] w fun e w' => e = .returned (.bool true) ∧ Below w.heap.size w w' := by
  have HL := keep (large_any _ _ fs w h)
  have HRG := keep (right_any _ _ fs w h)
  have hm := h.room
  have HROW := keep h
  obtain ⟨n, hn⟩ : ∃ n, n = fs.length := ⟨_, rfl⟩
  have HN := keep hn
  have HCAP := keep hcap
  have HJN := fun h1 h2 => joined_any _ fs w h h1 h2
  rw [← hn] at HL HRG HROW HCAP HJN hm ⊢
  have HJ0 := keep HJN
  have hmI : (n : Int) ≤ 9223372036854775807 := by omega
  clear h hn hcap hm HJN
  go_enter Try.func7, Try.ntmps7
  go_wp2_with fail
  refine HL.out.mono ?_
  rintro e w' ⟨x, rfl, hx, rfl⟩
  cases x
  · have HSM := keep (hx rfl)
    clear hx
    go_wp2_with fail
    refine HRG.out.mono ?_
    rintro e w' ⟨y, rfl, hy, rfl⟩
    cases y
    · clear hy

      go_wp2_with fail
      refine (live_any _).mono ?_
      rintro e w4 ⟨rfl, hb⟩
      have HB4 := keep (hb)
      clear hb
      go_wp2_with fail
      go_ret
      exact ⟨rfl, HB4.out⟩
    · have HOKZ := small_ok HSM.out (hy rfl)
      have HOK := keep HOKZ.1
      have HZ := keep HOKZ.2
      have HJ := keep (HJ0.out HOK.out (by have := HZ.out; omega))
      clear hy HOKZ
      go_wp2_with fail
      refine HJ.out.mono ?_
      rintro e w1 ⟨pv, rfl, hnum, hb1⟩
      rw [← HN.out] at hnum
      obtain ⟨pb, po, pc, rfl, hpb, hpc⟩ := hnum.out
      have HB1 := keep hb1
      have HPB := keep hpb
      have HPC0 := keep hpc
      obtain ⟨s0, hs0⟩ : ∃ s0, s0 = str (cat fs) := ⟨_, rfl⟩
      have HS0 := keep hs0
      rw [← hs0]
      have HSL : Keep (s0.size = (cat fs).length) := ⟨by rw [hs0, str_size]⟩
      have HSZ : Keep (s0.size ≤ 7000) := ⟨by rw [HSL.out]; exact HZ.out⟩
      have hszI : (s0.size : Int) ≤ 7000 := by have := HSZ.out; omega
      have HPC : Keep (∀ i, i < n + 1 → w1.cell? ⟨pb, po + i, none⟩ = some (.int .i64 (pl fs i))) := ⟨HPC0.out⟩
      have hn20 : (n : Int) ≤ 20 := by have := HSM.out.1; have := HN.out; omega
      clear hnum hb1 hpb hpc hs0
      by_cases hc0 : cut < 0
      · clear HPC

        go_wp2_with fail
        refine (live_any _).mono ?_
        rintro e w4 ⟨rfl, hb⟩
        have HB4 := keep (HB1.out.trans (hb.mono HB1.out.size))
        clear hb
        go_wp2_with fail
        go_ret
        exact ⟨rfl, HB4.out⟩
      · by_cases hc1 : (s0.size : Int) < cut
        · clear HPC

          go_wp2_with fail
          refine (live_any _).mono ?_
          rintro e w4 ⟨rfl, hb⟩
          have HB4 := keep (HB1.out.trans (hb.mono HB1.out.size))
          clear hb
          go_wp2_with fail
          go_ret
          exact ⟨rfl, HB4.out⟩
        · obtain ⟨c, rfl⟩ := Int.eq_ofNat_of_zero_le (show 0 ≤ cut by omega)
          have HCL : Keep (c ≤ (cat fs).length) := ⟨by rw [← HSL.out]; omega⟩
          have hcz : (c : Int) ≤ (s0.size : Int) := by omega
          clear hc0 hc1
          go_wp2_with fail
          go_loop [7] (fun i => ∃ k : Nat, i = .int .i64 k ∧ k ≤ n ∧ Keep (pl fs k ≤ c)) (fun i => n - (intOf i).toNat)
          case atStart => exact ⟨0, rfl, Nat.zero_le _, ⟨Nat.zero_le _⟩⟩
          case round =>
            obtain ⟨k, rfl, hk, HP⟩ := hrel
            by_cases hlt : k < n
            · have hpc := HPC.out (k + 1) (by omega)
              have hltI : (k : Int) < n := by omega
              by_cases hgo : pl fs (k + 1) ≤ c
              · have HGO := keep hgo
                have hgoI : (pl fs (k + 1) : Int) ≤ c := by omega
                clear hgo
                generalize hq : pl fs (k + 1) = q at *
                have HQ := keep hq
                clear hq
                go_wp2_with fail
                go_round
                case rel => exact ⟨k + 1, by go_num, by omega, ⟨by rw [HQ.out]; exact HGO.out⟩⟩
                case measure => simp [intOf]; omega
              · have HEX : Keep (k = fs.length ∨ c < pl fs (k + 1)) := ⟨.inr (by omega)⟩
                have hgoI : ¬ (pl fs (k + 1) : Int) ≤ c := by omega
                clear hgo
                have HWH0 := cut_whole fs HOK.out k c (by have := HN.out; omega) HP.out HCL.out HEX.out
                rw [← HS0.out] at HWH0
                have HWH := keep HWH0
                clear HWH0
                have HA0 := fun W => all_any (s0.extract 0 c) _ _ W (by rw [ByteArray.size_extract]; have := HSZ.out; omega) HWH.out
                have HER : Keep ((c = pl fs k ∧ lastE (s0.extract 0 c) (pl fs k) = 0) ∨ (c ≠ pl fs k ∧ lastE (s0.extract 0 c) (pl fs k) ≠ 0)) := ⟨by
                  have hz : (s0.extract 0 c).size = c := by rw [ByteArray.size_extract]; have := HSZ.out; have := HCL.out; omega
                  by_cases e : c = pl fs k
                  · exact .inl ⟨e, lastE_end (by omega)⟩
                  · exact .inr ⟨e, lastE_mid HWH.out (by omega)⟩⟩
                have HPK := keep (HPC.out k (by omega))
                have hpz : (pl fs k : Int) ≤ 100000 := by have := HP.out; have := HCL.out; have := HZ.out; omega
                have HTK : Keep (FrRow w.heap.size w (.slice (some ⟨b, off, none⟩) k cap) (fs.take k)) := ⟨HROW.out.take (by have := HN.out; omega) hb⟩
                have hkn : (k : Int) ≤ (n : Int) := by omega
                have hnc : (n : Int) ≤ (cap : Int) := by have := HCAP.out; omega
                clear hlt
                generalize hQ : pl fs k = Q at *
                generalize lastE (s0.extract 0 c) Q = er at *
                have HA := keep HA0
                clear HA0
                obtain ⟨E, hE⟩ : ∃ E : Int, E = (er : Int) := ⟨_, rfl⟩
                have HE := keep hE
                obtain ⟨bb, hb1, hb2⟩ : ∃ bb : Bool, (E == 0) = bb ∧ ((c : Int) == (Q : Int)) = bb := by
                  rcases HER.out with ⟨h1, h2⟩ | ⟨h1, h2⟩
                  · exact ⟨true, by simp; omega, by simp; omega⟩
                  · exact ⟨false, by simp; omega, by simp; omega⟩
                clear hE hQ
                go_wp2_with fail
                refine (HA.out _).mono ?_
                rintro e w2 ⟨v2, rfl, hfr, hb⟩
                rw [zp_take] at hfr
                rw [← HE.out]
                have HB2 := keep (HB1.out.trans (hb.mono HB1.out.size))
                have HF2 := keep hfr
                have HT2 := keep ((HTK.out.below HB2.out).mono HB2.out.size)
                have HP2 := keep ((hb.cell (p := ⟨pb, po + k, none⟩) HPB.out).trans HPK.out)
                have HLT2 : Keep (pb < w2.heap.size) := ⟨Nat.lt_of_lt_of_le HPB.out hb.size⟩
                clear hfr hb
                go_wp2_with fail
                refine (fsame_any _ _ _ w2 HF2.out HT2.out).mono ?_
                rintro e w3 ⟨rfl, hb⟩
                have HB3 := keep (HB2.out.trans (hb.mono HB2.out.size))
                have hp3 := (hb.cell (p := ⟨pb, po + k, none⟩) HLT2.out).trans HP2.out
                clear hb
                go_wp2_with fail
                refine (live_any _).mono ?_
                rintro e w4 ⟨rfl, hb⟩
                have HB4 := keep (HB3.out.trans (hb.mono HB3.out.size))
                clear hb
                go_wp2_with fail
                go_ret
                exact ⟨rfl, HB4.out⟩
            · have HEX : Keep (k = fs.length ∨ c < pl fs (k + 1)) := ⟨.inl (by have := HN.out; omega)⟩
              have hltI : ¬ (k : Int) < n := by omega
              have hpc := HPC.out k (by omega)
              have HWH0 := cut_whole fs HOK.out k c (by have := HN.out; omega) HP.out HCL.out HEX.out
              rw [← HS0.out] at HWH0
              have HWH := keep HWH0
              clear HWH0
              have HA0 := fun W => all_any (s0.extract 0 c) _ _ W (by rw [ByteArray.size_extract]; have := HSZ.out; omega) HWH.out
              have HER : Keep ((c = pl fs k ∧ lastE (s0.extract 0 c) (pl fs k) = 0) ∨ (c ≠ pl fs k ∧ lastE (s0.extract 0 c) (pl fs k) ≠ 0)) := ⟨by
                have hz : (s0.extract 0 c).size = c := by rw [ByteArray.size_extract]; have := HSZ.out; have := HCL.out; omega
                by_cases e : c = pl fs k
                · exact .inl ⟨e, lastE_end (by omega)⟩
                · exact .inr ⟨e, lastE_mid HWH.out (by omega)⟩⟩
              have HPK := keep (HPC.out k (by omega))
              have hpz : (pl fs k : Int) ≤ 100000 := by have := HP.out; have := HCL.out; have := HZ.out; omega
              have HTK : Keep (FrRow w.heap.size w (.slice (some ⟨b, off, none⟩) k cap) (fs.take k)) := ⟨HROW.out.take (by have := HN.out; omega) hb⟩
              have hkn : (k : Int) ≤ (n : Int) := by omega
              have hnc : (n : Int) ≤ (cap : Int) := by have := HCAP.out; omega
              clear hlt
              generalize hQ : pl fs k = Q at *
              generalize lastE (s0.extract 0 c) Q = er at *
              have HA := keep HA0
              clear HA0
              obtain ⟨E, hE⟩ : ∃ E : Int, E = (er : Int) := ⟨_, rfl⟩
              have HE := keep hE
              obtain ⟨bb, hb1, hb2⟩ : ∃ bb : Bool, (E == 0) = bb ∧ ((c : Int) == (Q : Int)) = bb := by
                rcases HER.out with ⟨h1, h2⟩ | ⟨h1, h2⟩
                · exact ⟨true, by simp; omega, by simp; omega⟩
                · exact ⟨false, by simp; omega, by simp; omega⟩
              clear hE hQ
              go_wp2_with fail
              refine (HA.out _).mono ?_
              rintro e w2 ⟨v2, rfl, hfr, hb⟩
              rw [zp_take] at hfr
              rw [← HE.out]
              have HB2 := keep (HB1.out.trans (hb.mono HB1.out.size))
              have HF2 := keep hfr
              have HT2 := keep ((HTK.out.below HB2.out).mono HB2.out.size)
              have HP2 := keep ((hb.cell (p := ⟨pb, po + k, none⟩) HPB.out).trans HPK.out)
              have HLT2 : Keep (pb < w2.heap.size) := ⟨Nat.lt_of_lt_of_le HPB.out hb.size⟩
              clear hfr hb
              go_wp2_with fail
              refine (fsame_any _ _ _ w2 HF2.out HT2.out).mono ?_
              rintro e w3 ⟨rfl, hb⟩
              have HB3 := keep (HB2.out.trans (hb.mono HB2.out.size))
              have hp3 := (hb.cell (p := ⟨pb, po + k, none⟩) HLT2.out).trans HP2.out
              clear hb
              go_wp2_with fail
              refine (live_any _).mono ?_
              rintro e w4 ⟨rfl, hb⟩
              have HB4 := keep (HB3.out.trans (hb.mono HB3.out.size))
              clear hb
              go_wp2_with fail
              go_ret
              exact ⟨rfl, HB4.out⟩
  · clear hx

    go_wp2_with fail
    refine (live_any _).mono ?_
    rintro e w4 ⟨rfl, hb⟩
    have HB4 := keep (hb)
    clear hb
    go_wp2_with fail
    go_ret
    exact ⟨rfl, HB4.out⟩

set_option maxHeartbeats 4000000 in
theorem walk_none (o : Option Addr) (cap : Nat) (cut : Int) (w : World) (h : FrRow w.heap.size w (.slice o 0 cap) []) :
    Calls Try.prog 7 #[.slice o 0 cap, .int .i64 cut] w fun e w' => e = .returned (.bool true) ∧ Below w.heap.size w w' := by
  have HL := keep (large_any _ _ [] w h)
  have HRG := keep (right_any _ _ [] w h)
  have HROW := keep h
  have HJ := keep (joined_any _ [] w h (by simp) (by simp [cat]))
  clear h
  go_enter Try.func7, Try.ntmps7
  go_wp2_with fail
  refine HL.out.mono ?_
  rintro e w' ⟨x, rfl, hx, rfl⟩
  cases x
  · clear hx
    go_wp2_with fail
    refine HRG.out.mono ?_
    rintro e w' ⟨y, rfl, hy, rfl⟩
    cases y
    · clear hy

      go_wp2_with fail
      refine (live_any _).mono ?_
      rintro e w4 ⟨rfl, hb⟩
      have HB4 := keep (hb)
      clear hb
      go_wp2_with fail
      go_ret
      exact ⟨rfl, HB4.out⟩
    · clear hy
      go_wp2_with fail
      refine HJ.out.mono ?_
      rintro e w1 ⟨pv, rfl, hnum, hb1⟩
      obtain ⟨pb, po, pc, rfl, hpb, hpc⟩ := hnum.out
      have HB1 := keep hb1
      have HPB := keep hpb
      have hp0 : w1.cell? ⟨pb, po, none⟩ = some (.int .i64 0) := by have := hpc 0 (by simp); simpa [pl_zero] using this
      have HP0 := keep hp0
      clear hnum hb1 hpb hpc
      simp only [cat, str_nil, List.length_nil, Nat.zero_add]
      by_cases hc0 : cut < 0
      · clear hp0

        go_wp2_with fail
        refine (live_any _).mono ?_
        rintro e w4 ⟨rfl, hb⟩
        have HB4 := keep (HB1.out.trans (hb.mono HB1.out.size))
        clear hb
        go_wp2_with fail
        go_ret
        exact ⟨rfl, HB4.out⟩
      · by_cases hc1 : 0 < cut
        · clear hp0

          go_wp2_with fail
          refine (live_any _).mono ?_
          rintro e w4 ⟨rfl, hb⟩
          have HB4 := keep (HB1.out.trans (hb.mono HB1.out.size))
          clear hb
          go_wp2_with fail
          go_ret
          exact ⟨rfl, HB4.out⟩
        · obtain rfl : cut = 0 := by omega
          have HA := keep (fun W => all_any ⟨#[]⟩ [] 0 W (by decide) ⟨rfl, Nat.zero_le _, by unfold nx; rw [if_pos (show 0 = (⟨#[]⟩ : ByteArray).size from rfl)]; simp⟩)
          have hle : lastE ⟨#[]⟩ 0 = 0 := by unfold lastE; rw [if_pos (show 0 = (⟨#[]⟩ : ByteArray).size from rfl)]
          rw [hle] at HA
          clear hc0 hc1 hle
          go_wp2_with fail
          refine wp_loop_rounds 1 ?_
          rw [rounds_succ]
          go_wp2_with fail
          refine (HA.out _).mono ?_
          rintro e w2 ⟨v2, rfl, hfr, hb⟩
          have HB2 := keep (HB1.out.trans (hb.mono HB1.out.size))
          have HF2 := keep hfr
          have HP2 := keep ((hb.cell (p := ⟨pb, po, none⟩) HPB.out).trans HP0.out)
          have HLT2 : Keep (pb < w2.heap.size) := ⟨Nat.lt_of_lt_of_le HPB.out hb.size⟩
          clear hfr hb
          rcases o with _ | a
          all_goals
            go_wp2_with fail
            refine (fsame_any _ _ [] w2 HF2.out ⟨by simp, by simp, .inl ⟨rfl, _, _, rfl⟩⟩).mono ?_
            rintro e w3 ⟨rfl, hb⟩
            have HB3 := keep (HB2.out.trans (hb.mono HB2.out.size))
            have hp3 := (hb.cell (p := ⟨pb, po, none⟩) HLT2.out).trans HP2.out
            clear hb
            go_wp2_with fail
            refine (live_any _).mono ?_
            rintro e w4 ⟨rfl, hb⟩
            have HB4 := keep (HB3.out.trans (hb.mono HB3.out.size))
            clear hb
            go_wp2_with fail
            go_ret
            exact ⟨rfl, HB4.out⟩
  · clear hx

    go_wp2_with fail
    refine (live_any _).mono ?_
    rintro e w4 ⟨rfl, hb⟩
    have HB4 := keep (hb)
    clear hb
    go_wp2_with fail
    go_ret
    exact ⟨rfl, HB4.out⟩

theorem walk (v : Value) (fs : List Fr) (cut : Int) (w : World) (h : FrRow w.heap.size w v fs) (_ : (Lit.int .i64 cut).wf = true) :
    Calls Try.prog 7 #[v, .int .i64 cut] w fun e w' => e = .returned (.bool true) ∧ Below w.heap.size w w' := by
  rcases h.out with ⟨rfl, o, cap, rfl⟩ | ⟨b, off, cap, rfl, hb, hc, _⟩
  · exact walk_none o cap cut w h
  · exact walk_some b off cap fs cut w h hb hc
theorem own : ownKnob Try.prog.godebug = none := by kernel_rfl
theorem laid : laidOutB Try.prog = true := by kernel_rfl

set_option maxRecDepth 100000 in
theorem lifted (os : Os) (started : os.Started) (H : Type) (enc : TypeId × Value → H) :
    ReturnsInHanded {} Try.checked os 7 .any (Rows.frameCutsSpec.pre6 enc Try.prog Try.f7 Rows.frameCutsRow.domain false) (Rows.frameCutsSpec.post enc Try.prog Try.f7 false true false false) := by
  refine returnsInHanded_of_change (C := Try.checked) own started (by kernel_rfl) Try.func7
    (ChangeSpec.witness6 (enc := enc) (C := Try.checked) false ⟨#[], #[.slice none 0 0, .int .i64 0], []⟩ 8 (by kernel_rfl) (by kernel_rfl) (by kernel_rfl) (by kernel_rfl)) ?_
  intro W base args ds gs before hval0 hW hcnd _
  have hval : ∀ (j : Nat) t v, Try.f7.params[j]? = some t → args[j]? = some v → Value.okWide Try.prog W .any base t v := hval0
  have hW' := hW
  obtain ⟨p, q, hA0, hV, rfl, hfz, hnd⟩ := hW
  have hA : DataW.TrodAll enc Try.prog W 0 (fun _ => true) true Try.f7.params.toList args.toList ds p := hA0
  rw [Try.params7] at hA hval
  obtain ⟨v0, vs0, d0, ds0, p0, q0, hargs, rfl, rfl, h0, r0⟩ := trodAll_cons hA
  obtain ⟨v1, vs1, d1, ds1, p1, q1, rfl, rfl, rfl, h1, r1⟩ := trodAll_cons r0
  obtain ⟨rfl, rfl, rfl⟩ := trodAll_nil r1
  obtain rfl : args = #[v0, v1] := by cases args; simp_all
  obtain ⟨rfl, rfl⟩ := trodVars_none hV
  obtain ⟨a0, w0⟩ := frs_of (enc := enc) h0 (hval 0 38 v0 rfl rfl)
  obtain ⟨a1, rfl, rfl, rfl, w1⟩ := open_int Try.underlying3 (hval 1 3 v1 rfl rfl) h1
  clear hA0 hval0
  simp only [List.append_nil] at hW'
  have hlt0 : ∀ x ∈ p0, x.block < W.heap.size := fun x hx => by
    have := hW'.lt x (by simp [hx])
    simpa using this
  refine (walk v0 a0 a1 W w0 w1).mono fun e W' ⟨he, hg⟩ => ?_
  subst he
  exact ⟨_, rfl, _, _, _, [], _, [], hW', (trodAll_cons_mk (shut_bool Try.underlying4 _) trodAll_mk0), (trodAll_cons_mk (Below.trod laid (by kernel_rfl) (of_decide_eq_true (by kernel_rfl)) h0 hg hlt0) (trodAll_cons_mk (shut_int Try.underlying3 w1) trodAll_mk0)), rfl, hg.frame _, fun h => by cases h⟩

theorem over : Rows.frameCutsRow.holds Try.pinned (OpenSpec.ofChange Rows.frameCutsSpec) :=
  OpenClaim.holds_of_wide 7 Try.f7 rfl rfl rfl rfl rfl rfl rfl ⟨rfl, rfl, rfl, rfl, rfl⟩ rfl rfl rfl rfl rfl (by kernel_rfl) Try.func7 (by kernel_rfl)
    (of_decide_eq_true (by kernel_rfl)) (by unfold Func.isWrapper; first | (rw [if_pos (by decide +kernel)]; kernel_rfl) | (rw [if_neg (by decide +kernel)]; exact ⟨rfl, rfl⟩))
    (fun os started H enc _ => lifted os started H enc)

/-- The statement. -/
theorem proved : Rows.FrameCutsSaid :=
  over
#print axioms proved
end Go.Proofs.Ytghgahcgbnpidaa.frameCuts
