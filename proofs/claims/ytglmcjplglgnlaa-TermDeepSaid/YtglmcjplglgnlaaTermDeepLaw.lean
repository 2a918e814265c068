/-
  For every two uint8 and every bool retracelaw10.TermDeep answers true. No condition.
-/
import Derived.Test.YtglmcjplglgnlaaRows
import Derived.Test.YtglmcjplglgnlaaTermDM
import Derived.Below
import Derived.ChangeOld
namespace Go.Proofs.Ytglmcjplglgnlaa.termDeep
open Go.ChangeShapes Go.WideShapes Go.ChangeAt Go.RowKit
open Go.ChangeMaps (open_string shut_string)

theorem rep_snoc (i : Nat) (c : UInt8) : List.replicate (i + 1) c = List.replicate i c ++ [c] := List.replicate_succ'
theorem str_more {s : ByteArray} {l : List UInt8} (h : s = str l) (t : ByteArray) : s ++ t = str (l ++ t.data.toList) := by rw [h]; exact str_cat l t

set_option maxRecDepth 100000 in
set_option maxHeartbeats 16000000 in
theorem walk_nat (n m : Nat) (o : Bool) (w : World) (hn : n ≤ 255) (hm : m ≤ 255) : Calls Try.prog 5 #[.int .u8 (n : Int), .int .u8 (m : Int), .bool o] w fun e w' => e = .returned (.bool true) ∧ Below w.heap.size w w' := by
  have HLIVE := keep live_any
  have hnI : (n : Int) ≤ 255 := by omega
  have hmI : (m : Int) ≤ 255 := by omega
  obtain ⟨k, hk⟩ : ∃ k, k = if o = true then 0 else n := ⟨_, rfl⟩
  have hkn : k ≤ n := by rw [hk]; split <;> omega
  obtain ⟨ts, r, htk, hsh⟩ := toks_deep n m k
  have hlen := ts_len hsh
  have hdl : (deepL n m k).length ≤ 65536 := by simp [deepL, mins_len]; omega
  have HA := keep (fun W => all_to (deepL n m k) ts (r, 0) hdl htk W)
  have htold : told ts (r, 0) = ts := if_pos rfl
  unfold AllTo at HA
  rw [htold] at HA
  have HP := keep (fun W (v : Value) (h : TkRow W.heap.size W v ts) => parse_to ts v 0 (by omega) (ts_sizes hsh) (by omega) W h)
  have HD := keep (deep_parse hsh)
  generalize parseI ts 0 = R at HP HD
  obtain ⟨l, p, E⟩ := R
  have hfd := fld_list
  obtain ⟨tn, htn⟩ : ∃ tn, tn = ts.length := ⟨_, rfl⟩
  rw [← htn] at HA
  have HK := keep hk
  have HKN := keep hkn
  clear htk hsh hlen hdl htold htn hk hkn
  go_enter Try.func5, Try.ntmps5
  go_wp2_with fail
  go_loop [7, 8] (fun sv iv => ∃ (i : Nat) (s : ByteArray), sv = .string s ∧ iv = .int .i64 (i : Int) ∧ i ≤ n ∧ s.size ≤ 2000 ∧ Keep (s = str (List.replicate i 40))) (fun _ iv => n - (intOf iv).toNat)
  case atStart => exact ⟨0, ⟨#[]⟩, rfl, rfl, Nat.zero_le _, by decide, ⟨rfl⟩⟩
  case round =>
    obtain ⟨i, s, rfl, rfl, hi, hsz, HS⟩ := hrel
    have hszI : (s.size : Int) ≤ 2000 := by omega
    by_cases hlt : i < n
    · have hltI : (i : Int) < (n : Int) := by omega
      have HS2 : Keep (s ++ ⟨#[40]⟩ = str (List.replicate (i + 1) 40)) := keep (by rw [str_more HS.out, rep_snoc])
      clear hsz
      go_wp2_with fail
      go_round
      case rel => exact ⟨i + 1, s ++ ⟨#[40]⟩, rfl, by go_num, by omega, by rw [HS2.out, str_size, List.length_replicate]; omega, HS2⟩
      case measure => simp [intOf]; omega
    · obtain rfl : i = n := by omega
      clear hlt hsz
      go_wp2_with fail
      go_loop [7, 9] (fun sv iv => ∃ (j : Nat) (s : ByteArray), sv = .string s ∧ iv = .int .i64 (j : Int) ∧ j ≤ m ∧ s.size ≤ 2000 ∧ Keep (s = str (List.replicate i 40 ++ mins j))) (fun _ iv => m - (intOf iv).toNat)
      case atStart => exact ⟨0, s, rfl, rfl, Nat.zero_le _, by omega, ⟨by rw [HS.out, mins, List.append_nil]⟩⟩
      case round =>
        obtain ⟨j, s, rfl, rfl, hj, hsz, HS⟩ := hrel
        have hszI : (s.size : Int) ≤ 2000 := by omega
        by_cases hlt : j < m
        · have hltI : (j : Int) < (m : Int) := by omega
          have HS2 : Keep (s ++ ⟨#[45, 32]⟩ = str (List.replicate i 40 ++ mins (j + 1))) := keep (by rw [str_more HS.out, mins_snoc, List.append_assoc])
          clear hsz
          go_wp2_with fail
          go_round
          case rel => exact ⟨j + 1, s ++ ⟨#[45, 32]⟩, rfl, by go_num, by omega, by rw [HS2.out, str_size, List.length_append, List.length_replicate, mins_len]; omega, HS2⟩
          case measure => simp [intOf]; omega
        · obtain rfl : j = m := by omega
          have HS3 : Keep (s ++ ⟨#[120]⟩ = str (List.replicate i 40 ++ (mins j ++ 120 :: List.replicate 0 41))) := keep (by rw [str_more HS.out, List.append_assoc]; rfl)
          have hz3 : (s ++ ⟨#[120]⟩ : ByteArray).size ≤ 2000 := by rw [HS3.out, str_size]; simp [mins_len]; omega
          clear hlt hsz
          go_wp2_with fail
          go_loop [7, 10] (fun sv iv => ∃ (q : Nat) (s : ByteArray), sv = .string s ∧ iv = .int .i64 (q : Int) ∧ q ≤ k ∧ s.size ≤ 2000 ∧ Keep (s = str (List.replicate i 40 ++ (mins j ++ 120 :: List.replicate q 41)))) (fun _ iv => i - (intOf iv).toNat)
          case atStart => exact ⟨0, _, rfl, rfl, Nat.zero_le _, hz3, HS3⟩
          case round =>
            obtain ⟨q, s, rfl, rfl, hq, hsz, HS⟩ := hrel
            have hszI : (s.size : Int) ≤ 2000 := by omega
            clear hz3
            by_cases hlt : q < k
            · have hof : o = false := by
                have := HK.out
                cases o
                · rfl
                · rw [if_pos rfl] at this; omega
              subst hof
              have hqi : q < i := by have := HKN.out; omega
              have hltI : (q : Int) < (i : Int) := by omega
              have HS2 : Keep (s ++ ⟨#[41]⟩ = str (List.replicate i 40 ++ (mins j ++ 120 :: List.replicate (q + 1) 41))) := keep (by rw [str_more HS.out, rep_snoc]; simp)
              clear hsz
              go_wp2_with fail
              go_round
              case rel => exact ⟨q + 1, s ++ ⟨#[41]⟩, rfl, by go_num, by omega, by rw [HS2.out, str_size]; simp [mins_len]; omega, HS2⟩
              case measure => simp [intOf]; omega
            · obtain rfl : q = k := by omega
              have hsd : s = str (deepL i j q) := HS.out
              subst hsd
              clear hlt hsz hszI HS
              cases o with
              | true =>
                have hq0 : q = 0 := by have := HK.out; rwa [if_pos rfl] at this
                subst hq0
                by_cases h0 : 0 < i
                · have h0I : (0 : Int) < (i : Int) := by omega
                  by_cases hT : 24 < i + j
                  · skip
                    have hR := HD.out.1 hT
                    obtain ⟨rfl, hR2⟩ := Prod.mk.inj hR
                    obtain ⟨rfl, rfl⟩ := Prod.mk.inj hR2
                    have hTI : (24 : Int) < (i : Int) + (j : Int) := by omega
                    clear HD hR hR2 hT
                    go_wp2_with fail
                    refine (HA.out _).mono ?_
                    rintro e w1 ⟨o1, c1, rfl, ht1, h1⟩
                    have HB1 := keep h1
                    have HPW := keep (HP.out w1 _ ht1)
                    clear ht1 h1 HA HP
                    go_wp2_with fail
                    refine HPW.out.mono ?_
                    rintro e w2 ⟨o2, c2, rfl, hn2, h2⟩
                    have HB2 := keep (HB1.out.trans (h2.mono HB1.out.size))
                    clear hn2 h2 HPW hfd
                    go_wp2_with fail
                    refine (HLIVE.out _).mono ?_
                    rintro e w3 ⟨rfl, h3⟩
                    have HB3 := keep (HB2.out.trans (h3.mono HB2.out.size))
                    clear h3
                    go_wp2_with fail
                    go_ret
                    exact ⟨rfl, HB3.out⟩
                  · skip
                    have hR := HD.out.2.1 (by omega) rfl h0
                    obtain ⟨rfl, hR2⟩ := Prod.mk.inj hR
                    obtain ⟨hp, rfl⟩ := Prod.mk.inj hR2
                    have hTI : ¬ ((24 : Int) < (i : Int) + (j : Int)) := by omega
                    have hpq : ((p : Int) == (i : Int) + (j : Int) + 1) = true := by rw [beq_iff_eq]; omega
                    clear HD hR hR2 hT hp
                    go_wp2_with fail
                    refine (HA.out _).mono ?_
                    rintro e w1 ⟨o1, c1, rfl, ht1, h1⟩
                    have HB1 := keep h1
                    have HPW := keep (HP.out w1 _ ht1)
                    clear ht1 h1 HA HP
                    go_wp2_with fail
                    refine HPW.out.mono ?_
                    rintro e w2 ⟨o2, c2, rfl, hn2, h2⟩
                    have HB2 := keep (HB1.out.trans (h2.mono HB1.out.size))
                    clear hn2 h2 HPW hfd
                    go_wp2_with fail
                    refine (HLIVE.out _).mono ?_
                    rintro e w3 ⟨rfl, h3⟩
                    have HB3 := keep (HB2.out.trans (h3.mono HB2.out.size))
                    clear h3
                    go_wp2_with fail
                    go_ret
                    exact ⟨rfl, HB3.out⟩
                · obtain rfl : i = 0 := by omega
                  by_cases hT : 24 < 0 + j
                  · skip
                    have hR := HD.out.1 hT
                    obtain ⟨rfl, hR2⟩ := Prod.mk.inj hR
                    obtain ⟨rfl, rfl⟩ := Prod.mk.inj hR2
                    have hTI : (24 : Int) < ((0 : Nat) : Int) + (j : Int) := by omega
                    clear HD hR hR2 hT
                    go_wp2_with fail
                    refine (HA.out _).mono ?_
                    rintro e w1 ⟨o1, c1, rfl, ht1, h1⟩
                    have HB1 := keep h1
                    have HPW := keep (HP.out w1 _ ht1)
                    clear ht1 h1 HA HP
                    go_wp2_with fail
                    refine HPW.out.mono ?_
                    rintro e w2 ⟨o2, c2, rfl, hn2, h2⟩
                    have HB2 := keep (HB1.out.trans (h2.mono HB1.out.size))
                    clear hn2 h2 HPW hfd
                    go_wp2_with fail
                    refine (HLIVE.out _).mono ?_
                    rintro e w3 ⟨rfl, h3⟩
                    have HB3 := keep (HB2.out.trans (h3.mono HB2.out.size))
                    clear h3
                    go_wp2_with fail
                    go_ret
                    exact ⟨rfl, HB3.out⟩
                  · skip
                    obtain ⟨l', hR, hll⟩ := HD.out.2.2 (by omega) rfl
                    obtain ⟨rfl, hR2⟩ := Prod.mk.inj hR
                    obtain ⟨hp, rfl⟩ := Prod.mk.inj hR2
                    have hTI : ¬ ((24 : Int) < ((0 : Nat) : Int) + (j : Int)) := by omega
                    obtain ⟨ln, hln⟩ : ∃ ln, ln = l.length := ⟨_, rfl⟩
                    have hlq : ((ln : Int) == (j : Int) + 1) = true := by rw [beq_iff_eq]; omega
                    have hpq : ((p : Int) == (j : Int) + 1) = true := by rw [beq_iff_eq]; omega
                    unfold ParseTo at HP
                    simp only at HP
                    rw [← hln] at HP
                    clear HD hR hR2 hT hp hll hln
                    go_wp2_with fail
                    refine (HA.out _).mono ?_
                    rintro e w1 ⟨o1, c1, rfl, ht1, h1⟩
                    have HB1 := keep h1
                    have HPW := keep (HP.out w1 _ ht1)
                    clear ht1 h1 HA HP
                    go_wp2_with fail
                    refine HPW.out.mono ?_
                    rintro e w2 ⟨o2, c2, rfl, hn2, h2⟩
                    have HB2 := keep (HB1.out.trans (h2.mono HB1.out.size))
                    clear hn2 h2 HPW hfd
                    go_wp2_with fail
                    refine (HLIVE.out _).mono ?_
                    rintro e w3 ⟨rfl, h3⟩
                    have HB3 := keep (HB2.out.trans (h3.mono HB2.out.size))
                    clear h3
                    go_wp2_with fail
                    go_ret
                    exact ⟨rfl, HB3.out⟩
              | false =>
                have hqi : q = i := by have := HK.out; rwa [if_neg (by simp)] at this
                subst hqi
                have hdq : decide (q < q) = false := by simp
                by_cases hT : 24 < q + j
                · skip
                  have hR := HD.out.1 hT
                  obtain ⟨rfl, hR2⟩ := Prod.mk.inj hR
                  obtain ⟨rfl, rfl⟩ := Prod.mk.inj hR2
                  have hTI : (24 : Int) < (q : Int) + (j : Int) := by omega
                  clear HD hR hR2 hT
                  go_wp2_with fail
                  refine (HA.out _).mono ?_
                  rintro e w1 ⟨o1, c1, rfl, ht1, h1⟩
                  have HB1 := keep h1
                  have HPW := keep (HP.out w1 _ ht1)
                  clear ht1 h1 HA HP
                  go_wp2_with fail
                  refine HPW.out.mono ?_
                  rintro e w2 ⟨o2, c2, rfl, hn2, h2⟩
                  have HB2 := keep (HB1.out.trans (h2.mono HB1.out.size))
                  clear hn2 h2 HPW hfd
                  go_wp2_with fail
                  refine (HLIVE.out _).mono ?_
                  rintro e w3 ⟨rfl, h3⟩
                  have HB3 := keep (HB2.out.trans (h3.mono HB2.out.size))
                  clear h3
                  go_wp2_with fail
                  go_ret
                  exact ⟨rfl, HB3.out⟩
                · skip
                  obtain ⟨l', hR, hll⟩ := HD.out.2.2 (by omega) rfl
                  obtain ⟨rfl, hR2⟩ := Prod.mk.inj hR
                  obtain ⟨hp, rfl⟩ := Prod.mk.inj hR2
                  have hTI : ¬ ((24 : Int) < (q : Int) + (j : Int)) := by omega
                  obtain ⟨ln, hln⟩ : ∃ ln, ln = l.length := ⟨_, rfl⟩
                  have hlq : ((ln : Int) == (j : Int) + 1) = true := by rw [beq_iff_eq]; omega
                  have hpq : ((p : Int) == (q : Int) * 2 + (j : Int) + 1) = true := by rw [beq_iff_eq]; omega
                  unfold ParseTo at HP
                  simp only at HP
                  rw [← hln] at HP
                  clear HD hR hR2 hT hp hll hln
                  go_wp2_with fail
                  refine (HA.out _).mono ?_
                  rintro e w1 ⟨o1, c1, rfl, ht1, h1⟩
                  have HB1 := keep h1
                  have HPW := keep (HP.out w1 _ ht1)
                  clear ht1 h1 HA HP
                  go_wp2_with fail
                  refine HPW.out.mono ?_
                  rintro e w2 ⟨o2, c2, rfl, hn2, h2⟩
                  have HB2 := keep (HB1.out.trans (h2.mono HB1.out.size))
                  clear hn2 h2 HPW hfd
                  go_wp2_with fail
                  refine (HLIVE.out _).mono ?_
                  rintro e w3 ⟨rfl, h3⟩
                  have HB3 := keep (HB2.out.trans (h3.mono HB2.out.size))
                  clear h3
                  go_wp2_with fail
                  go_ret
                  exact ⟨rfl, HB3.out⟩

theorem walk (a0 a1 : Int) (a2 : Bool) (w : World) (h0 : (Lit.int .u8 a0).wf = true) (h1 : (Lit.int .u8 a1).wf = true) : Calls Try.prog 5 #[.int .u8 a0, .int .u8 a1, .bool a2] w fun e w' => e = .returned (.bool true) ∧ Below w.heap.size w w' := by
  have b0 := bounds_u8 h0
  have b1 := bounds_u8 h1
  obtain ⟨n, rfl⟩ := Int.eq_ofNat_of_zero_le b0.1
  obtain ⟨m, rfl⟩ := Int.eq_ofNat_of_zero_le b1.1
  exact walk_nat n m a2 w (by omega) (by omega)
theorem own : ownKnob Try.prog.godebug = none := by kernel_rfl
theorem laid : laidOutB Try.prog = true := by kernel_rfl

set_option maxRecDepth 100000 in
theorem lifted (os : Os) (started : os.Started) (H : Type) (enc : TypeId × Value → H) :
    ReturnsInHanded {} Try.checked os 5 .any (Rows.termDeepSpec.pre6 enc Try.prog Try.f5 Rows.termDeepRow.domain false) (Rows.termDeepSpec.post enc Try.prog Try.f5 false true false false) := by
  refine returnsInHanded_of_change (C := Try.checked) own started (by kernel_rfl) Try.func5
    (ChangeSpec.witness6 (enc := enc) (C := Try.checked) false ⟨#[], #[.int .u8 0, .int .u8 0, .bool false], []⟩ 8 (by kernel_rfl) (by kernel_rfl) (by kernel_rfl) (by kernel_rfl)) ?_
  intro W base args ds gs before hval0 hW hcnd _
  have hval : ∀ (j : Nat) t v, Try.f5.params[j]? = some t → args[j]? = some v → Value.okWide Try.prog W .any base t v := hval0
  have hW' := hW
  obtain ⟨p, q, hA0, hV, rfl, hfz, hnd⟩ := hW
  have hA : DataW.TrodAll enc Try.prog W 0 (fun _ => true) true Try.f5.params.toList args.toList ds p := hA0
  rw [Try.params5] at hA hval
  obtain ⟨v0, vs0, d0, ds0, p0, q0, hargs, rfl, rfl, h0, r0⟩ := trodAll_cons hA
  obtain ⟨v1, vs1, d1, ds1, p1, q1, rfl, rfl, rfl, h1, r1⟩ := trodAll_cons r0
  obtain ⟨v2, vs2, d2, ds2, p2, q2, rfl, rfl, rfl, h2, r2⟩ := trodAll_cons r1
  obtain ⟨rfl, rfl, rfl⟩ := trodAll_nil r2
  obtain rfl : args = #[v0, v1, v2] := by cases args; simp_all
  obtain ⟨rfl, rfl⟩ := trodVars_none hV
  obtain ⟨a0, rfl, rfl, rfl, w0⟩ := open_int Try.underlying5 (hval 0 5 v0 rfl rfl) h0
  obtain ⟨a1, rfl, rfl, rfl, w1⟩ := open_int Try.underlying5 (hval 1 5 v1 rfl rfl) h1
  obtain ⟨a2, rfl, rfl, rfl⟩ := open_bool Try.underlying4 (hval 2 4 v2 rfl rfl) h2
  clear hA0 hval0
  simp only [List.append_nil] at hW'
  refine (walk a0 a1 a2 W w0 w1).mono fun e W' ⟨he, hg⟩ => ?_
  subst he
  exact ⟨_, rfl, _, _, _, [], _, [], hW', (trodAll_cons_mk (shut_bool Try.underlying4 _) trodAll_mk0), (trodAll_cons_mk (shut_int Try.underlying5 w0) (trodAll_cons_mk (shut_int Try.underlying5 w1) (trodAll_cons_mk (shut_bool Try.underlying4 a2) trodAll_mk0))), rfl, hg.frame _, fun h => by cases h⟩

theorem over : Rows.termDeepRow.holds Try.pinned (OpenSpec.ofChange Rows.termDeepSpec) :=
  OpenClaim.holds_of_wide 5 Try.f5 rfl rfl rfl rfl rfl rfl rfl ⟨rfl, rfl, rfl, rfl, rfl⟩ rfl rfl rfl rfl rfl (by kernel_rfl) Try.func5 (by kernel_rfl)
    (of_decide_eq_true (by kernel_rfl)) (by unfold Func.isWrapper; first | (rw [if_pos (by decide +kernel)]; kernel_rfl) | (rw [if_neg (by decide +kernel)]; exact ⟨rfl, rfl⟩))
    (fun os started H enc _ => lifted os started H enc)

/-- The statement. -/
theorem proved : Rows.TermDeepSaid :=
  over
#print axioms proved
end Go.Proofs.Ytglmcjplglgnlaa.termDeep
