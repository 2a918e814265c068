/-
  For every list of ints, every list of acts and every int, retracelaw06.SetPlays answers true, and what it is given reads as before. No condition.
-/
import Derived.Test.YtjfgnmkgljljbaaRows
import Derived.Test.YtjfgnmkgljljbaaSetP
namespace Go.Proofs.Ytjfgnmkgljljbaa.setPlays
open Go.ChangeShapes Go.WideShapes Go.ChangeAt Go.RowKit
open Go.ChangeMaps (open_string shut_string)

set_option maxRecDepth 100000 in
set_option maxHeartbeats 8000000 in
theorem walk (v0 : Value) (a0 : List Int) (v1 : Value) (a1 : List (Int × Int)) (place : Int) (w : World) (h0 : RowAt EV w.heap.size w v0 a0) (h1 : AcRow w.heap.size w v1 a1) (_ : (Lit.int .i64 place).wf = true) :
    Calls Try.prog 3 #[v0, v1, .int .i64 place] w fun e w' => e = .returned (.bool true) ∧ Below w.heap.size w w' := by
  have HROW := keep h0
  obtain ⟨o0, c0, rfl, -⟩ := h0.form
  obtain ⟨o1, c1, rfl, hr1⟩ := h1.form
  have HR1 := keep hr1
  have hm0 := h0.room
  have hm1 := h1.room
  obtain ⟨n, hn⟩ : ∃ n, n = a0.length := ⟨_, rfl⟩
  obtain ⟨q, hq⟩ : ∃ q, q = a1.length := ⟨_, rfl⟩
  have HN := keep hn
  have HQ := keep hq
  rw [← hn] at HROW hm0 ⊢
  rw [← hq] at hm1 ⊢
  have hnI : (n : Int) ≤ 9223372036854775807 := by omega
  have hqI : (q : Int) ≤ 9223372036854775807 := by omega
  clear h0 h1 hr1 hm0 hm1 hn hq
  by_cases hbig : (100 : Int) < (n : Int)
  · go_enter Try.func3, Try.ntmps3
    go_wp2_with fail
    refine (live_any _).mono ?_
    rintro e w1 ⟨rfl, hb⟩
    have HB := keep hb
    clear hb
    go_wp2_with fail
    go_ret
    exact ⟨rfl, HB.out⟩
  · have hn1 : (n : Int) ≤ 100 := by omega
    clear hbig hnI
    by_cases hbig : (100 : Int) < (q : Int)
    · go_enter Try.func3, Try.ntmps3
      go_wp2_with fail
      refine (live_any _).mono ?_
      rintro e w1 ⟨rfl, hb⟩
      have HB := keep hb
      clear hb
      go_wp2_with fail
      go_ret
      exact ⟨rfl, HB.out⟩
    · have hq1 : (q : Int) ≤ 100 := by omega
      clear hbig hqI
      have HOF : Keep (Calls Try.prog 8 #[.slice o0 n c0] w fun e w' => (∃ d, e = .returned (.pointer (some ⟨d, 0, none⟩)) ∧ w.heap.size ≤ d ∧ SAt d (rowOf lt' a0) w') ∧ Below w.heap.size w w') := keep (of_any HROW.out (by rw [← HN.out]; omega))
      go_enter Try.func3, Try.ntmps3
      go_wp2_with fail
      refine HOF.out.mono ?_
      rintro e w1 ⟨⟨d, rfl, hd, hs⟩, hb⟩
      have HS1 := keep hs
      have HD := keep hd
      have HB1 := keep hb
      have HROF := keep (rof_any ((HROW.out.below hb).mono hb.size) (by rw [← HN.out]; omega))
      clear hs hd hb HOF
      go_wp2_with fail
      refine HROF.out.mono ?_
      rintro e w2 ⟨hv, rfl, hr, hb⟩
      have H0 : Keep ((rowOf lt' a0).length ≤ n + 0 ∧ PAt w d (rowOf lt' a0) hv (rowOf lt' a0) w2) := ⟨by rw [HN.out]; exact rowOf_length a0, HS1.out.below hb, hr, HB1.out.trans (hb.mono HB1.out.size), HD.out⟩
      clear hr hb HROF HS1 HB1 HROW
      go_wp2_with fail
      go_loopw [8, 9] (fun ov iv W => ∃ (k : Nat) (m : List Int), iv = .int .i64 (k : Int) ∧ k ≤ q ∧ Keep (m.length ≤ n + k ∧ PAt w d m ov m W)) (fun _ iv _ => q - (intOf iv).toNat)
      case atStart => exact ⟨0, _, rfl, Nat.zero_le _, H0⟩
      case round =>
        clear H0
        obtain ⟨k, m, rfl, hk, HK⟩ := hrel
        by_cases hlt : k < q
        · obtain ⟨⟨K, x⟩, ha⟩ := get_of_lt (l := a1) (i := k) (by rw [← HQ.out]; exact hlt)
          obtain ⟨b, off, rfl, hb, hc⟩ := HR1.out k _ ha
          obtain ⟨f0, f1⟩ := hc _ HK.out.2.below
          have hltI : (k : Int) < (q : Int) := by omega
          have HML : Keep (m.length ≤ 200) := ⟨by have := HK.out.1; omega⟩
          have HU := keep HK.out.2.s.up
          have HHAD := keep (rhas_any x HK.out.2.r)
          dsimp only at f0 f1
          clear hc hb ha
          by_cases hK0 : K = 0
          · subst hK0
            have HADD := keep (HK.out.2.add x (by have := HML.out; omega))
            generalize decide (x ∈ m) = had at *
            have hbn : ((!had) == had) = false := by cases had <;> rfl
            go_wp2_with fail
            refine HHAD.out.mono ?_
            rintro e w' ⟨rfl, rfl⟩
            clear HHAD
            go_wp2_with fail
            refine HADD.out.mono ?_
            rintro e w3 ⟨rfl, hp⟩
            have HP3 := keep hp
            clear hp f0 f1 HADD
            go_wp2_with fail
            refine (HP3.out.radd x HU.out (by have := HML.out; omega)).mono ?_
            rintro e w4 ⟨v', rfl, hp⟩
            have HP4 := keep hp
            have HLE : Keep ((ins lt' x m).length ≤ n + (k + 1)) := ⟨by have h1 := ins_length (lt := lt') (x := x) (l := m); have := HK.out.1; omega⟩
            clear hp
            go_wp2_with fail
            go_roundw
            case rel => exact ⟨k + 1, _, by go_num, by omega, ⟨HLE.out, HP4.out⟩⟩
            case measure => simp [intOf]; omega
          · have hn0 : (K == 0) = false := by simpa using hK0
            by_cases hK1 : K = 1
            · subst hK1
              have HDEL := keep (HK.out.2.del x (by have := HML.out; omega))
              generalize decide (x ∈ m) = had at *
              go_wp2_with fail
              refine HHAD.out.mono ?_
              rintro e w' ⟨rfl, rfl⟩
              clear HHAD
              go_wp2_with fail
              refine HDEL.out.mono ?_
              rintro e w3 ⟨rfl, hp⟩
              have HP3 := keep hp
              clear hp f0 f1 HDEL
              go_wp2_with fail
              refine (HP3.out.rdel x (by have := HML.out; omega)).mono ?_
              rintro e w4 ⟨v', rfl, hp⟩
              have HP4 := keep hp
              have HLE : Keep ((del lt' x m).length ≤ n + (k + 1)) := ⟨by have h1 := del_length (lt := lt') (x := x) (l := m); have := HK.out.1; omega⟩
              clear hp
              go_wp2_with fail
              go_roundw
              case rel => exact ⟨k + 1, _, by go_num, by omega, ⟨HLE.out, HP4.out⟩⟩
              case measure => simp [intOf]; omega
            · have hn1 : (K == 1) = false := by simpa using hK1
              have HLE : Keep (m.length ≤ n + (k + 1)) := ⟨by have := HK.out.1; omega⟩
              by_cases hK2 : K = 2
              · subst hK2
                have HHAS := keep (HK.out.2.has x (by have := HML.out; omega))
                generalize decide (x ∈ m) = had at *
                go_wp2_with fail
                refine HHAD.out.mono ?_
                rintro e w' ⟨rfl, rfl⟩
                clear HHAD
                go_wp2_with fail
                refine HHAS.out.mono ?_
                rintro e w' ⟨rfl, rfl⟩
                go_wp2_with fail
                go_roundw
                case rel => exact ⟨k + 1, m, by go_num, by omega, ⟨HLE.out, HK.out.2⟩⟩
                case measure => simp [intOf]; omega
              · have hn2 : (K == 2) = false := by simpa using hK2
                have HF := keep (HK.out.2.from x (by have := HML.out; omega))
                have HRF := keep (rfrom_any x HK.out.2.r)
                go_wp2_with fail
                refine HHAD.out.mono ?_
                rintro e w' ⟨rfl, rfl⟩
                clear HHAD
                go_wp2_with fail
                refine HF.out.mono ?_
                rintro e w' ⟨rfl, rfl⟩
                go_wp2_with fail
                refine HRF.out.mono ?_
                rintro e w' ⟨rfl, rfl⟩
                go_wp2_with fail
                go_roundw
                case rel => exact ⟨k + 1, m, by go_num, by omega, ⟨HLE.out, HK.out.2⟩⟩
                case measure => simp [intOf]; omega
        · have hqk : q = k := by omega
          subst hqk
          have hdq : decide (q < q) = false := by simp
          have HP := keep HK.out.2
          have HML : Keep (m.length ≤ 200) := ⟨by have := HK.out.1; omega⟩
          have HAL := keep (alike_any HK.out.2.s HK.out.2.r (by have := HML.out; omega))
          obtain ⟨o, c, rfl, hr⟩ := HK.out.2.r.form
          have HR := keep hr
          clear hlt HK hk hr
          by_cases hin : 0 ≤ place ∧ place < (m.length : Int)
          · obtain ⟨j, rfl⟩ := Int.eq_ofNat_of_zero_le hin.1
            have hj : j < m.length := by omega
            obtain ⟨y, hy⟩ := get_of_lt hj
            have HA := keep (at_in j y HP.out.s.sv (by have := HML.out; omega) hy)
            obtain ⟨b, off, rfl, hb, hc⟩ := HR.out j y hy
            have hcell := hc _ (Below.refl _ _)
            have hjm : (j : Int) < (m.length : Int) := by omega
            have hj0 : decide ((j : Int) < 0) = false := by simp
            have hjd : decide (m.length ≤ j) = false := by simpa using hj
            have hml : (m.length : Int) ≤ 200 := by have := HML.out; omega
            clear hy hc hb hin hj
            generalize m.length = ml at *
            go_wp2_with fail
            refine HA.out.mono ?_
            rintro e w' ⟨rfl, rfl⟩
            go_wp2_with fail
            refine HAL.out.mono ?_
            rintro e w' ⟨rfl, rfl⟩
            go_wp2_with fail
            refine (live_any _).mono ?_
            rintro e w4 ⟨rfl, hb⟩
            have HB4 := keep (HP.out.below.trans (hb.mono HP.out.below.size))
            clear hb
            go_wp2_with fail
            go_ret
            exact ⟨rfl, HB4.out⟩
          · have HO : Keep (place < 0 ∨ (m.length : Int) ≤ place) := ⟨by omega⟩
            have HA := keep (at_out place HP.out.s.sv HO.out)
            have hml : (m.length : Int) ≤ 200 := by have := HML.out; omega
            clear hin
            rcases Int.lt_or_le place 0 with hp0 | hp0
            · go_wp2_with fail
              refine HA.out.mono ?_
              rintro e w' ⟨rfl, rfl⟩
              go_wp2_with fail
              refine HAL.out.mono ?_
              rintro e w' ⟨rfl, rfl⟩
              go_wp2_with fail
              refine (live_any _).mono ?_
              rintro e w4 ⟨rfl, hb⟩
              have HB4 := keep (HP.out.below.trans (hb.mono HP.out.below.size))
              clear hb
              go_wp2_with fail
              go_ret
              exact ⟨rfl, HB4.out⟩
            · have hle : (m.length : Int) ≤ place := by have := HO.out; omega
              have hd0 : decide (place < 0) = false := by simpa using hp0
              go_wp2_with fail
              refine HA.out.mono ?_
              rintro e w' ⟨rfl, rfl⟩
              go_wp2_with fail
              refine HAL.out.mono ?_
              rintro e w' ⟨rfl, rfl⟩
              go_wp2_with fail
              refine (live_any _).mono ?_
              rintro e w4 ⟨rfl, hb⟩
              have HB4 := keep (HP.out.below.trans (hb.mono HP.out.below.size))
              clear hb
              go_wp2_with fail
              go_ret
              exact ⟨rfl, HB4.out⟩
theorem own : ownKnob Try.prog.godebug = none := by kernel_rfl
theorem laid : laidOutB Try.prog = true := by kernel_rfl

set_option maxRecDepth 100000 in
theorem lifted (os : Os) (started : os.Started) (H : Type) (enc : TypeId × Value → H) :
    ReturnsInHanded {} Try.checked os 3 .any (Rows.setPlaysSpec.pre6 enc Try.prog Try.f3 Rows.setPlaysRow.domain false) (Rows.setPlaysSpec.post enc Try.prog Try.f3 false true false false) := by
  refine returnsInHanded_of_change (C := Try.checked) own started (by kernel_rfl) Try.func3
    (ChangeSpec.witness6 (enc := enc) (C := Try.checked) false ⟨#[], #[.slice none 0 0, .slice none 0 0, .int .i64 0], []⟩ 8 (by kernel_rfl) (by kernel_rfl) (by kernel_rfl) (by kernel_rfl)) ?_
  intro W base args ds gs before hval0 hW hcnd _
  have hval : ∀ (j : Nat) t v, Try.f3.params[j]? = some t → args[j]? = some v → Value.okWide Try.prog W .any base t v := hval0
  have hW' := hW
  obtain ⟨p, q, hA0, hV, rfl, hfz, hnd⟩ := hW
  have hA : DataW.TrodAll enc Try.prog W 0 (fun _ => true) true Try.f3.params.toList args.toList ds p := hA0
  rw [Try.params3] at hA hval
  obtain ⟨v0, vs0, d0, ds0, p0, q0, hargs, rfl, rfl, h0, r0⟩ := trodAll_cons hA
  obtain ⟨v1, vs1, d1, ds1, p1, q1, rfl, rfl, rfl, h1, r1⟩ := trodAll_cons r0
  obtain ⟨v2, vs2, d2, ds2, p2, q2, rfl, rfl, rfl, h2, r2⟩ := trodAll_cons r1
  obtain ⟨rfl, rfl, rfl⟩ := trodAll_nil r2
  obtain rfl : args = #[v0, v1, v2] := by cases args; simp_all
  obtain ⟨rfl, rfl⟩ := trodVars_none hV
  obtain ⟨a0, w0⟩ := ints_of (enc := enc) h0 (hval 0 22 v0 rfl rfl)
  obtain ⟨a1, w1⟩ := acs_of (enc := enc) h1 (hval 1 23 v1 rfl rfl)
  obtain ⟨a2, rfl, rfl, rfl, w2⟩ := open_int Try.underlying3 (hval 2 3 v2 rfl rfl) h2
  clear hA0 hval0
  simp only [List.append_nil] at hW'
  have hlt0 : ∀ x ∈ p0, x.block < W.heap.size := fun x hx => by
    have := hW'.lt x (by simp [hx])
    simpa using this
  have hlt1 : ∀ x ∈ p1, x.block < W.heap.size := fun x hx => by
    have := hW'.lt x (by simp [hx])
    simpa using this
  refine (walk v0 a0 v1 a1 a2 W w0 w1 w2).mono fun e W' ⟨he, hg⟩ => ?_
  subst he
  exact ⟨_, rfl, _, _, _, [], _, [], hW', (trodAll_cons_mk (shut_bool Try.underlying4 _) trodAll_mk0), (trodAll_cons_mk (Below.trod laid (by kernel_rfl) (of_decide_eq_true (by kernel_rfl)) h0 hg hlt0) (trodAll_cons_mk (Below.trod laid (by kernel_rfl) (of_decide_eq_true (by kernel_rfl)) h1 hg hlt1) (trodAll_cons_mk (shut_int Try.underlying3 w2) trodAll_mk0))), rfl, hg.frame _, fun h => by cases h⟩

theorem over : Rows.setPlaysRow.holds Try.pinned (OpenSpec.ofChange Rows.setPlaysSpec) :=
  OpenClaim.holds_of_wide 3 Try.f3 rfl rfl rfl rfl rfl rfl rfl ⟨rfl, rfl, rfl, rfl, rfl⟩ rfl rfl rfl rfl rfl (by kernel_rfl) Try.func3 (by kernel_rfl)
    (of_decide_eq_true (by kernel_rfl)) (by unfold Func.isWrapper; first | (rw [if_pos (by decide +kernel)]; kernel_rfl) | (rw [if_neg (by decide +kernel)]; exact ⟨rfl, rfl⟩))
    (fun os started H enc _ => lifted os started H enc)

/-- The statement. -/
theorem proved : Rows.SetPlaysSaid :=
  over
#print axioms proved
end Go.Proofs.Ytjfgnmkgljljbaa.setPlays
