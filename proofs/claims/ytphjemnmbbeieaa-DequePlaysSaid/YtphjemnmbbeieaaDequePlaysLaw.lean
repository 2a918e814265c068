/-
  For every list of acts, retracelaw05.DequePlays answers true, and what it is given reads as before. No condition.
-/
import Derived.Test.YtphjemnmbbeieaaRows
import Derived.Test.YtphjemnmbbeieaaDequeP
namespace Go.Proofs.Ytphjemnmbbeieaa.dequePlays
open Go.ChangeShapes Go.WideShapes Go.ChangeAt Go.RowKit
open Go.ChangeMaps (open_string shut_string)

theorem cons_or (m : List ByteArray) : m = [] ∨ ∃ x m2, m = x :: m2 := by cases m with | nil => exact .inl rfl | cons x r => exact .inr ⟨x, r, rfl⟩
theorem snoc_or (m : List ByteArray) : m = [] ∨ ∃ x m2, m = m2 ++ [x] := by
  rcases List.eq_nil_or_concat m with h | ⟨r, x, h⟩
  · exact .inl h
  · exact .inr ⟨x, r, by rw [h, List.concat_eq_append]⟩

set_option maxRecDepth 100000 in
set_option maxHeartbeats 8000000 in
theorem walk (v0 : Value) (a0 : List Ac) (w : World) (h0 : AcRow w.heap.size w v0 a0) :
    Calls Try.prog 3 #[v0] w fun e w' => e = .returned (.bool true) ∧ Below w.heap.size w w' := by
  obtain ⟨o0, c0, rfl, hr0⟩ := h0.form
  have HR0 := keep hr0
  have HLONG := keep (long_any _ a0 w h0)
  have hm0 := h0.room
  generalize a0.length = n at *
  have hnI : (n : Int) ≤ 9223372036854775807 := by omega
  clear h0 hr0 hm0
  go_enter Try.func3, Try.ntmps3
  go_wp2_with fail
  refine HLONG.out.mono ?_
  rintro e w' ⟨⟨x, rfl, hx⟩, rfl⟩
  cases x
  · have HN2 := keep (hx rfl)
    clear hx hnI
    have hnI : (n : Int) ≤ 200 := by have := HN2.out; omega
    go_wp2_with fail
    refine (live_any _).mono ?_
    rintro e w1 ⟨rfl, hb⟩
    have HB1 := keep hb
    have HP0 := keep (LawP.new w hb)
    clear hb
    go_wp2_with fail
    obtain ⟨Bg, hB⟩ : ∃ Bg, Bg = w1.heap.size + 1 := ⟨_, rfl⟩
    obtain ⟨d, hd⟩ : ∃ d, d = w1.heap.size := ⟨_, rfl⟩
    rw [← hB, ← hd] at HP0 ⊢
    have HD := keep hd
    have HBG := keep hB
    clear hd hB
    go_loopw [4, 6] (fun hv i wr => ∃ (k : Nat) (m : List ByteArray) (o : Option Addr) (c : Nat), hv = .slice o m.length c ∧ i = .int .i64 k ∧ k ≤ n ∧ Keep (m.length ≤ k ∧ LawP w d Bg m (.slice o m.length c) m wr)) (fun _ i _ => n - (intOf i).toNat)
    case atStart => exact ⟨0, [], none, 0, rfl, rfl, Nat.zero_le _, ⟨Nat.le_refl _, HP0.out⟩⟩
    case round =>
      obtain ⟨k, m, o, c, rfl, rfl, hk, HK⟩ := hrel
      by_cases hlt : k < n
      · obtain ⟨b, off, rfl, hb, hc⟩ := HR0.out k hlt
        obtain ⟨f0, f1, f2⟩ := hc wr HK.out.2.below
        clear hc hb
        generalize (ac a0 k).K = K at *
        generalize (ac a0 k).X = X at *
        generalize (ac a0 k).N = N at *
        have hltI : (k : Int) < n := by omega
        have HML : Keep (m.length ≤ 200) := ⟨by have := HK.out.1; have := HN2.out; omega⟩
        have HP1 := keep (HK.out.2.to ((Below.refl _ wr).alloc (Nat.le_refl _) (.cells #[.int .i64 K, .string X, .int .i64 N] 31)))
        have HA1 : Keep (ABox (wr.alloc (.cells #[.int .i64 K, .string X, .int .i64 N] 31)) wr.heap.size K X N) := ⟨heap_alloc_new wr _⟩
        obtain ⟨e0, e1, e2⟩ := HA1.out.cells
        by_cases hK0 : K = 0
        · subst hK0
          go_wp2_with fail
          generalize wr.alloc (.cells #[.int .i64 0, .string X, .int .i64 N] 31) = W1 at *
          generalize wr.heap.size = Ba at *
          obtain ⟨m', hm'⟩ : ∃ m', m' = m ++ [X] := ⟨_, rfl⟩
          have HM' := keep hm'
          have HLE : Keep (m'.length ≤ k + 1) := ⟨by rw [hm', List.length_append, List.length_singleton]; have := HK.out.1; omega⟩
          clear hm'
          refine (HP1.out.push X (by have := HML.out; omega)).mono ?_
          rintro e w2 ⟨rfl, hp, ht⟩
          rw [← HM'.out] at hp
          have HP2 := keep hp
          obtain ⟨_, q1, _⟩ := (HA1.out.kept ht).cells
          clear hp ht e0 e1 e2 f0 f1 f2
          go_wp2_with (at_builtin; refine wpList_append_p rfl _ _ rfl rfl (HP2.out.to ((Below.refl _ w2).alloc (Nat.le_refl _) (.cells #[.string X] 9))) (by have := HML.out; omega) ⟨w2.heap.size, 0, none⟩ 1 X rfl (cell_new1 w2 _ _) ?_; intro v' w3 hp; rw [← HM'.out] at hp; obtain ⟨o', c', rfl⟩ := hp.form; have HP3 := keep hp; clear hp)
          have HL : Keep (Calls Try.prog 19 #[.pointer (some ⟨d, 0, none⟩)] w3 fun e w' => e = .returned (.int .i64 (m'.length : Int)) ∧ w3 = w') := keep (HP3.out.len)
          refine HL.out.mono ?_
          rintro e w' ⟨rfl, rfl⟩
          go_wp2_with fail
          go_roundw
          case rel => exact ⟨k + 1, m', o', c', rfl, by go_num, by omega, ⟨HLE.out, HP3.out⟩⟩
          case measure => simp [intOf]; omega
        · have hn0 : (K == 0) = false := by simpa using hK0
          by_cases hK1 : K = 1
          · subst hK1
            go_wp2_with fail
            generalize wr.alloc (.cells #[.int .i64 1, .string X, .int .i64 N] 31) = W1 at *
            generalize wr.heap.size = Ba at *
            obtain ⟨m', hm'⟩ : ∃ m', m' = X :: m := ⟨_, rfl⟩
            have HM' := keep hm'
            have HLE : Keep (m'.length ≤ k + 1) := ⟨by rw [hm', List.length_cons]; have := HK.out.1; omega⟩
            clear hm'
            refine (HP1.out.shove X (by have := HML.out; omega)).mono ?_
            rintro e w2 ⟨rfl, hp, ht⟩
            rw [← HM'.out] at hp
            have HP2 := keep hp
            obtain ⟨_, q1, _⟩ := (HA1.out.kept ht).cells
            clear hp ht e0 e1 e2 f0 f1 f2
            go_wp2_with fail
            refine (HP2.out.ahead X (by have := HML.out; omega)).mono ?_
            rintro e w3 ⟨v', rfl, hp, -⟩
            rw [← HM'.out] at hp
            obtain ⟨o', c', rfl⟩ := hp.form
            have HP3 := keep hp
            clear hp q1
            go_wp2_with fail
            have HL : Keep (Calls Try.prog 19 #[.pointer (some ⟨d, 0, none⟩)] w3 fun e w' => e = .returned (.int .i64 (m'.length : Int)) ∧ w3 = w') := keep (HP3.out.len)
            refine HL.out.mono ?_
            rintro e w' ⟨rfl, rfl⟩
            go_wp2_with fail
            go_roundw
            case rel => exact ⟨k + 1, m', o', c', rfl, by go_num, by omega, ⟨HLE.out, HP3.out⟩⟩
            case measure => simp [intOf]; omega
          · have hn1 : (K == 1) = false := by simpa using hK1
            by_cases hK2 : K = 2
            · subst hK2
              rcases cons_or m with hm0 | ⟨x, m2, hm⟩
              · have HM0 := keep hm0
                clear hm0
                go_wp2_with fail
                generalize wr.alloc (.cells #[.int .i64 2, .string X, .int .i64 N] 31) = W1 at *
                generalize wr.heap.size = Ba at *
                refine (HP1.out.pop0 HM0.out).mono ?_
                rintro e w' ⟨rfl, rfl⟩
                clear e0 e1 e2 f0 f1 f2
                go_wp2_with fail
                refine (HP1.out.first0 HM0.out).mono ?_
                rintro e w3 ⟨rfl, hp, -⟩
                rw [HM0.out] at hp
                have HP3 := keep hp
                clear hp
                obtain ⟨gx, gy, g0, g1, z0, z1⟩ := HP3.out.cells
                obtain ⟨hg, hgb⟩ := HP3.out.got ⟨#[]⟩ false
                have HG := keep hg
                have g0' : (((w3.setCell ⟨Bg, 0, none⟩ (.string ⟨#[]⟩)).setCell ⟨Bg, 1, none⟩ (.bool false))).cell? ⟨Bg, 0, none⟩ = some (.string ⟨#[]⟩) := by rw [cell_of_row _ Bg _ _ _ _ hgb]; rfl
                have g1' : (((w3.setCell ⟨Bg, 0, none⟩ (.string ⟨#[]⟩)).setCell ⟨Bg, 1, none⟩ (.bool false))).cell? ⟨Bg, 1, none⟩ = some (.bool false) := by rw [cell_of_row _ Bg _ _ _ _ hgb]; rfl
                clear hg hgb
                go_wp2_with fail
                refine (took_same ⟨#[]⟩ false _).mono ?_
                rintro e w4 ⟨rfl, hb⟩
                have HP4 := keep (HG.out.to hb)
                clear hb g0 g1 z0 z1 g0' g1'
                go_wp2_with fail
                have HL : Keep (Calls Try.prog 19 #[.pointer (some ⟨d, 0, none⟩)] w4 fun e w' => e = .returned (.int .i64 0) ∧ w4 = w') := keep (HP4.out.len)
                refine HL.out.mono ?_
                rintro e w' ⟨rfl, rfl⟩
                go_wp2_with fail
                go_roundw
                case rel => exact ⟨k + 1, [], none, 0, rfl, by go_num, by omega, ⟨Nat.zero_le _, HP4.out⟩⟩
                case measure => simp [intOf]; omega
              · have HM := keep hm
                have HLE : Keep (m2.length ≤ k + 1) := ⟨by have := HK.out.1; rw [hm] at this; simp at this; omega⟩
                clear hm
                go_wp2_with fail
                generalize wr.alloc (.cells #[.int .i64 2, .string X, .int .i64 N] 31) = W1 at *
                generalize wr.heap.size = Ba at *
                refine (HP1.out.pop HM.out).mono ?_
                rintro e w2 ⟨rfl, hp, -⟩
                have HP2 := keep hp
                clear hp e0 e1 e2 f0 f1 f2
                go_wp2_with fail
                refine (HP2.out.first HM.out (by have := HLE.out; omega)).mono ?_
                rintro e w3 ⟨v', rfl, hp, -⟩
                obtain ⟨o', c', rfl⟩ := hp.form
                have HP3 := keep hp
                clear hp
                obtain ⟨gx, gy, g0, g1, z0, z1⟩ := HP3.out.cells
                obtain ⟨hg, hgb⟩ := HP3.out.got x true
                have HG := keep hg
                have g0' : (((w3.setCell ⟨Bg, 0, none⟩ (.string x)).setCell ⟨Bg, 1, none⟩ (.bool true))).cell? ⟨Bg, 0, none⟩ = some (.string x) := by rw [cell_of_row _ Bg _ _ _ _ hgb]; rfl
                have g1' : (((w3.setCell ⟨Bg, 0, none⟩ (.string x)).setCell ⟨Bg, 1, none⟩ (.bool true))).cell? ⟨Bg, 1, none⟩ = some (.bool true) := by rw [cell_of_row _ Bg _ _ _ _ hgb]; rfl
                clear hg hgb
                go_wp2_with fail
                refine (took_same x true _).mono ?_
                rintro e w4 ⟨rfl, hb⟩
                have HP4 := keep (HG.out.to hb)
                clear hb g0 g1 z0 z1 g0' g1'
                go_wp2_with fail
                have HL : Keep (Calls Try.prog 19 #[.pointer (some ⟨d, 0, none⟩)] w4 fun e w' => e = .returned (.int .i64 (m2.length : Int)) ∧ w4 = w') := keep (HP4.out.len)
                refine HL.out.mono ?_
                rintro e w' ⟨rfl, rfl⟩
                go_wp2_with fail
                go_roundw
                case rel => exact ⟨k + 1, m2, o', c', rfl, by go_num, by omega, ⟨HLE.out, HP4.out⟩⟩
                case measure => simp [intOf]; omega
            · have hn2 : (K == 2) = false := by simpa using hK2
              by_cases hK3 : K = 3
              · subst hK3
                rcases snoc_or m with hm0 | ⟨x, m2, hm⟩
                · have HM0 := keep hm0
                  clear hm0
                  go_wp2_with fail
                  generalize wr.alloc (.cells #[.int .i64 3, .string X, .int .i64 N] 31) = W1 at *
                  generalize wr.heap.size = Ba at *
                  refine (HP1.out.drop0 HM0.out).mono ?_
                  rintro e w' ⟨rfl, rfl⟩
                  clear e0 e1 e2 f0 f1 f2
                  go_wp2_with fail
                  refine (HP1.out.last0 HM0.out).mono ?_
                  rintro e w3 ⟨rfl, hp, -⟩
                  rw [HM0.out] at hp
                  have HP3 := keep hp
                  clear hp
                  obtain ⟨gx, gy, g0, g1, z0, z1⟩ := HP3.out.cells
                  obtain ⟨hg, hgb⟩ := HP3.out.got ⟨#[]⟩ false
                  have HG := keep hg
                  have g0' : (((w3.setCell ⟨Bg, 0, none⟩ (.string ⟨#[]⟩)).setCell ⟨Bg, 1, none⟩ (.bool false))).cell? ⟨Bg, 0, none⟩ = some (.string ⟨#[]⟩) := by rw [cell_of_row _ Bg _ _ _ _ hgb]; rfl
                  have g1' : (((w3.setCell ⟨Bg, 0, none⟩ (.string ⟨#[]⟩)).setCell ⟨Bg, 1, none⟩ (.bool false))).cell? ⟨Bg, 1, none⟩ = some (.bool false) := by rw [cell_of_row _ Bg _ _ _ _ hgb]; rfl
                  clear hg hgb
                  go_wp2_with fail
                  refine (took_same ⟨#[]⟩ false _).mono ?_
                  rintro e w4 ⟨rfl, hb⟩
                  have HP4 := keep (HG.out.to hb)
                  clear hb g0 g1 z0 z1 g0' g1'
                  go_wp2_with fail
                  have HL : Keep (Calls Try.prog 19 #[.pointer (some ⟨d, 0, none⟩)] w4 fun e w' => e = .returned (.int .i64 0) ∧ w4 = w') := keep (HP4.out.len)
                  refine HL.out.mono ?_
                  rintro e w' ⟨rfl, rfl⟩
                  go_wp2_with fail
                  go_roundw
                  case rel => exact ⟨k + 1, [], none, 0, rfl, by go_num, by omega, ⟨Nat.zero_le _, HP4.out⟩⟩
                  case measure => simp [intOf]; omega
                · have HM := keep hm
                  have HLE : Keep (m2.length ≤ k + 1) := ⟨by have := HK.out.1; rw [hm] at this; simp at this; omega⟩
                  clear hm
                  go_wp2_with fail
                  generalize wr.alloc (.cells #[.int .i64 3, .string X, .int .i64 N] 31) = W1 at *
                  generalize wr.heap.size = Ba at *
                  refine (HP1.out.drop HM.out).mono ?_
                  rintro e w2 ⟨rfl, hp, -⟩
                  have HP2 := keep hp
                  clear hp e0 e1 e2 f0 f1 f2
                  go_wp2_with fail
                  refine (HP2.out.last HM.out (by have := HLE.out; omega)).mono ?_
                  rintro e w3 ⟨v', rfl, hp, -⟩
                  obtain ⟨o', c', rfl⟩ := hp.form
                  have HP3 := keep hp
                  clear hp
                  obtain ⟨gx, gy, g0, g1, z0, z1⟩ := HP3.out.cells
                  obtain ⟨hg, hgb⟩ := HP3.out.got x true
                  have HG := keep hg
                  have g0' : (((w3.setCell ⟨Bg, 0, none⟩ (.string x)).setCell ⟨Bg, 1, none⟩ (.bool true))).cell? ⟨Bg, 0, none⟩ = some (.string x) := by rw [cell_of_row _ Bg _ _ _ _ hgb]; rfl
                  have g1' : (((w3.setCell ⟨Bg, 0, none⟩ (.string x)).setCell ⟨Bg, 1, none⟩ (.bool true))).cell? ⟨Bg, 1, none⟩ = some (.bool true) := by rw [cell_of_row _ Bg _ _ _ _ hgb]; rfl
                  clear hg hgb
                  go_wp2_with fail
                  refine (took_same x true _).mono ?_
                  rintro e w4 ⟨rfl, hb⟩
                  have HP4 := keep (HG.out.to hb)
                  clear hb g0 g1 z0 z1 g0' g1'
                  go_wp2_with fail
                  have HL : Keep (Calls Try.prog 19 #[.pointer (some ⟨d, 0, none⟩)] w4 fun e w' => e = .returned (.int .i64 (m2.length : Int)) ∧ w4 = w') := keep (HP4.out.len)
                  refine HL.out.mono ?_
                  rintro e w' ⟨rfl, rfl⟩
                  go_wp2_with fail
                  go_roundw
                  case rel => exact ⟨k + 1, m2, o', c', rfl, by go_num, by omega, ⟨HLE.out, HP4.out⟩⟩
                  case measure => simp [intOf]; omega
              · have hn3 : (K == 3) = false := by simpa using hK3
                have HLE : Keep (m.length ≤ k + 1) := ⟨by have := HK.out.1; omega⟩
                by_cases hN : 0 ≤ N ∧ N < (m.length : Int)
                · obtain ⟨j, rfl⟩ := Int.eq_ofNat_of_zero_le hN.1
                  have HJ : Keep (j < m.length) := ⟨by omega⟩
                  clear hN
                  go_wp2_with fail
                  generalize wr.alloc (.cells #[.int .i64 K, .string X, .int .i64 (j : Int)] 31) = W1 at *
                  generalize wr.heap.size = Ba at *
                  refine (HP1.out.at j HJ.out).mono ?_
                  rintro e w2 ⟨rfl, hp, ht⟩
                  have HP2 := keep hp
                  obtain ⟨_, _, q2⟩ := (HA1.out.kept ht).cells
                  clear hp ht e0 e1 e2 f0 f1 f2
                  go_wp2_with fail
                  refine (HP2.out.ref j HJ.out).mono ?_
                  rintro e w3 ⟨rfl, hp⟩
                  have HP3 := keep hp
                  clear hp q2
                  generalize tx m j = x at *
                  go_wp2_with fail
                  refine (took_same x true _).mono ?_
                  rintro e w4 ⟨rfl, hb⟩
                  have HP4 := keep (HP3.out.to hb)
                  clear hb
                  go_wp2_with fail
                  have HL : Keep (Calls Try.prog 19 #[.pointer (some ⟨d, 0, none⟩)] w4 fun e w' => e = .returned (.int .i64 (m.length : Int)) ∧ w4 = w') := keep (HP4.out.len)
                  refine HL.out.mono ?_
                  rintro e w' ⟨rfl, rfl⟩
                  go_wp2_with fail
                  go_roundw
                  case rel => exact ⟨k + 1, m, o, c, rfl, by go_num, by omega, ⟨HLE.out, HP4.out⟩⟩
                  case measure => simp [intOf]; omega
                · have HO : Keep (N < 0 ∨ (m.length : Int) ≤ N) := ⟨by omega⟩
                  clear hN
                  go_wp2_with fail
                  generalize wr.alloc (.cells #[.int .i64 K, .string X, .int .i64 N] 31) = W1 at *
                  generalize wr.heap.size = Ba at *
                  refine (HP1.out.at0 N HO.out).mono ?_
                  rintro e w' ⟨rfl, rfl⟩
                  go_wp2_with fail
                  refine (HP1.out.ref0 N HO.out).mono ?_
                  rintro e w3 ⟨rfl, hp⟩
                  have HP3 := keep hp
                  clear hp e0 e1 e2 f0 f1 f2
                  go_wp2_with fail
                  refine (took_same ⟨#[]⟩ false _).mono ?_
                  rintro e w4 ⟨rfl, hb⟩
                  have HP4 := keep (HP3.out.to hb)
                  clear hb
                  go_wp2_with fail
                  have HL : Keep (Calls Try.prog 19 #[.pointer (some ⟨d, 0, none⟩)] w4 fun e w' => e = .returned (.int .i64 (m.length : Int)) ∧ w4 = w') := keep (HP4.out.len)
                  refine HL.out.mono ?_
                  rintro e w' ⟨rfl, rfl⟩
                  go_wp2_with fail
                  go_roundw
                  case rel => exact ⟨k + 1, m, o, c, rfl, by go_num, by omega, ⟨HLE.out, HP4.out⟩⟩
                  case measure => simp [intOf]; omega
      · obtain rfl : n = k := by omega
        have HK1 := keep HK.out.2
        have HML : Keep (m.length ≤ 200) := ⟨by have := HK.out.1; have := HN2.out; omega⟩
        have hmI : (m.length : Int) ≤ 200 := by have := HML.out; omega
        clear HK hk hlt
        go_wp2_with fail
        go_loopw [14] (fun i wr => ∃ j : Nat, i = .int .i64 j ∧ j ≤ m.length ∧ Keep (LawP w d Bg m (.slice o m.length c) m wr)) (fun i _ => m.length - (intOf i).toNat)
        case atStart => exact ⟨0, rfl, Nat.zero_le _, HK1⟩
        case round =>
          clear HK1
          obtain ⟨j, rfl, hj, HK⟩ := hrel
          by_cases hlt : j < m.length
          · have hltI : (j : Int) < (m.length : Int) := by omega
            have HJ := keep hlt
            clear hlt
            go_wp2_with fail
            refine (HK.out.at j HJ.out).mono ?_
            rintro e w2 ⟨rfl, hp, -⟩
            obtain ⟨b, off, cap, hv, hcell⟩ := hp.at_ j HJ.out
            obtain ⟨rfl, rfl⟩ : o = some ⟨b, off, none⟩ ∧ c = cap := by injection hv with h1 _ h2; exact ⟨h1, h2⟩
            have HP2 := keep hp
            clear hp hv
            generalize tx m j = x at *
            go_wp2_with fail
            go_roundw
            case rel => exact ⟨j + 1, by go_num, by have := HJ.out; omega, HP2⟩
            case measure => have := HJ.out; simp [intOf]; omega
          · have hjm : m.length = j := by omega
            have hd : decide (m.length < m.length) = false := by simp
            subst hjm
            clear hlt
            go_wp2_with fail
            refine (live_any _).mono ?_
            rintro e w4 ⟨rfl, hb⟩
            have HB4 := keep (HK.out.below.trans (hb.mono HK.out.below.size))
            clear hb
            go_wp2_with fail
            go_ret
            exact ⟨rfl, HB4.out⟩
  · clear hx
    go_wp2_with fail
    refine (live_any _).mono ?_
    rintro e w4 ⟨rfl, hb⟩
    have HB4 := keep hb
    clear hb
    go_wp2_with fail
    go_ret
    exact ⟨rfl, HB4.out⟩
theorem own : ownKnob Try.prog.godebug = none := by kernel_rfl
theorem laid : laidOutB Try.prog = true := by kernel_rfl

set_option maxRecDepth 100000 in
theorem lifted (os : Os) (started : os.Started) (H : Type) (enc : TypeId × Value → H) :
    ReturnsInHanded {} Try.checked os 3 .any (Rows.dequePlaysSpec.pre6 enc Try.prog Try.f3 Rows.dequePlaysRow.domain false) (Rows.dequePlaysSpec.post enc Try.prog Try.f3 false true false false) := by
  refine returnsInHanded_of_change (C := Try.checked) own started (by kernel_rfl) Try.func3
    (ChangeSpec.witness6 (enc := enc) (C := Try.checked) false ⟨#[], #[.slice none 0 0], []⟩ 8 (by kernel_rfl) (by kernel_rfl) (by kernel_rfl) (by kernel_rfl)) ?_
  intro W base args ds gs before hval0 hW hcnd _
  have hval : ∀ (j : Nat) t v, Try.f3.params[j]? = some t → args[j]? = some v → Value.okWide Try.prog W .any base t v := hval0
  have hW' := hW
  obtain ⟨p, q, hA0, hV, rfl, hfz, hnd⟩ := hW
  have hA : DataW.TrodAll enc Try.prog W 0 (fun _ => true) true Try.f3.params.toList args.toList ds p := hA0
  rw [Try.params3] at hA hval
  obtain ⟨v0, vs0, d0, ds0, p0, q0, hargs, rfl, rfl, h0, r0⟩ := trodAll_cons hA
  obtain ⟨rfl, rfl, rfl⟩ := trodAll_nil r0
  obtain rfl : args = #[v0] := by cases args; simp_all
  obtain ⟨rfl, rfl⟩ := trodVars_none hV
  obtain ⟨a0, w0⟩ := acs_of (enc := enc) h0 (hval 0 22 v0 rfl rfl)
  clear hA0 hval0
  simp only [List.append_nil] at hW'
  have hlt0 : ∀ x ∈ p0, x.block < W.heap.size := fun x hx => by
    have := hW'.lt x (by simp [hx])
    simpa using this
  refine (walk v0 a0 W w0).mono fun e W' ⟨he, hg⟩ => ?_
  subst he
  exact ⟨_, rfl, _, _, _, [], _, [], hW', (trodAll_cons_mk (shut_bool Try.underlying4 _) trodAll_mk0), (trodAll_cons_mk (Below.trod laid (by kernel_rfl) (of_decide_eq_true (by kernel_rfl)) h0 hg hlt0) trodAll_mk0), rfl, hg.frame _, fun h => by cases h⟩

theorem over : Rows.dequePlaysRow.holds Try.pinned (OpenSpec.ofChange Rows.dequePlaysSpec) :=
  OpenClaim.holds_of_wide 3 Try.f3 rfl rfl rfl rfl rfl rfl rfl ⟨rfl, rfl, rfl, rfl, rfl⟩ rfl rfl rfl rfl rfl (by kernel_rfl) Try.func3 (by kernel_rfl)
    (of_decide_eq_true (by kernel_rfl)) (by unfold Func.isWrapper; first | (rw [if_pos (by decide +kernel)]; kernel_rfl) | (rw [if_neg (by decide +kernel)]; exact ⟨rfl, rfl⟩))
    (fun os started H enc _ => lifted os started H enc)

/-- The statement. -/
theorem proved : Rows.DequePlaysSaid :=
  over
#print axioms proved
end Go.Proofs.Ytphjemnmbbeieaa.dequePlays
