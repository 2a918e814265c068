/-
  The walk of TokenBack.
-/
import Derived.Test.YtekonndjanaoaaaDoorTokL
import Derived.Test.YtekonndjanaoaaaDoorTokN
import Derived.Test.YtekonndjanaoaaaDoorArgs
import Derived.Below
import Derived.ChangeOld
namespace Go.Proofs.YtekonndjanaoaaaDoor.tokenBack
open Go.ChangeShapes Go.WideShapes Go.ChangeAt Go.RowKit Go.Joins
open Go.ChangeMaps (open_string shut_string)
set_option linter.unusedVariables false

theorem cc_next {bl x : List UInt8} {ls : List (List UInt8)} {k : Nat} {a1 : ByteArray} (ha : a1.data.toList = bl) (hx : ls[k]? = some x) : str (cc bl (ls.take k)) ++ str x ++ ⟨#[32]⟩ ++ a1 = str (cc bl (ls.take (k + 1))) := by
  rw [take_snoc hx, cc_snoc, str_cat, str_cat, str_cat, ha]
  congr 1
  simp [str_data]

set_option maxRecDepth 100000 in
set_option maxHeartbeats 16000000 in
theorem walk (v : Value) (ls : List (List UInt8)) (a1 : ByteArray) (w : World) (h0 : RowAt SV w.heap.size w v ls) (w1 : a1.size ≤ maxLen) :
    Calls Tryd.prog 6 #[v, .string a1] w fun e w' => e = .returned (.bool true) ∧ Below w.heap.size w w' := by
  have HLIVE := keep live_any
  obtain ⟨o, cap, rfl, hform⟩ := h0.form
  have HFORM := keep hform
  have hroom := h0.room
  obtain ⟨n, hn⟩ : ∃ n, n = ls.length := ⟨_, rfl⟩
  have HN := keep hn
  rw [← hn] at hroom ⊢
  have hnI : (n : Int) ≤ 9223372036854775807 := by omega
  clear h0 hform hn w1 hroom
  by_cases hlen : (100 : Int) < (n : Int)
  · go_enter Tryd.func6, Tryd.ntmps6
    go_wp2_with fail
    refine (HLIVE.out _).mono ?_
    rintro e w' ⟨rfl, hb⟩
    have HB := keep hb
    clear hb
    go_wp2_with fail
    go_ret
    exact ⟨rfl, HB.out⟩
  · have hn100 : (n : Int) ≤ 100 := by omega
    by_cases hb50 : (50 : Int) < (a1.size : Int)
    · clear hlen
      go_enter Tryd.func6, Tryd.ntmps6
      go_wp2_with fail
      refine (HLIVE.out _).mono ?_
      rintro e w' ⟨rfl, hb⟩
      have HB := keep hb
      clear hb
      go_wp2_with fail
      go_ret
      exact ⟨rfl, HB.out⟩
    · have hz50 : (a1.size : Int) ≤ 50 := by omega
      have hdat : a1.data.toList = a1.data.toList := rfl
      obtain ⟨bl, hbl⟩ : ∃ bl, bl = a1.data.toList := ⟨_, rfl⟩
      have HBL := keep hbl
      have HBLN : Keep (bl.length ≤ 50) := ⟨by rw [hbl, ← size_list]; omega⟩
      clear hlen hb50 hdat hbl
      go_enter Tryd.func6, Tryd.ntmps6
      go_wp2_with fail
      go_loop [5] (fun iv => ∃ k : Nat, iv = .int .i64 (k : Int) ∧ k ≤ a1.size ∧ Keep (∀ b ∈ bl.take k, blk (ob b) = true)) (fun iv => a1.size - (intOf iv).toNat)
      case atStart => exact ⟨0, rfl, Nat.zero_le _, ⟨by simp⟩⟩
      case round =>
        obtain ⟨k, rfl, hk, HK⟩ := hrel
        by_cases hlt : k < a1.size
        · obtain ⟨b, hb1, hb2⟩ := drop_bt a1 hlt
          have hltI : (k : Int) < (a1.size : Int) := by omega
          have hgb := get_bt a1
          have HT : Keep (bl.take (k + 1) = bl.take k ++ [b]) := ⟨by
            rw [HBL.out, List.take_add_one, ← List.head?_drop, hb1]; rfl⟩
          have HB2 := keep (show ob b = bt a1 k from hb2)
          clear hb1 hb2
          rcases blk_ways (bt a1 k) with hw4 | ⟨hbn, n9, n10, n13, n32⟩
          · have HNX : Keep (∀ c ∈ bl.take (k + 1), blk (ob c) = true) := ⟨fun c hc => by
              rw [HT.out] at hc
              rcases List.mem_append.1 hc with h | h
              · exact HK.out c h
              · rw [List.mem_singleton.1 h, HB2.out]; exact blk_is hw4⟩
            rcases hw4 with hbt | hbt | hbt | hbt
            all_goals
              go_wp2_with fail
              go_round
              case rel => exact ⟨k + 1, by go_num, by omega, HNX⟩
              case measure => simp [intOf]; omega
          · have f9 : (bt a1 k != 9) = true := by simpa using n9
            have f10 : (bt a1 k != 10) = true := by simpa using n10
            have f13 : (bt a1 k != 13) = true := by simpa using n13
            have f32 : (bt a1 k != 32) = true := by simpa using n32
            clear hbn
            go_wp2_with fail
            refine (HLIVE.out _).mono ?_
            rintro e w' ⟨rfl, hb⟩
            have HB := keep hb
            clear hb
            go_wp2_with fail
            go_ret
            exact ⟨rfl, HB.out⟩
        · have hke : k = a1.size := by omega
          subst hke
          have HBLK : Keep (∀ b ∈ bl, blk (ob b) = true) := ⟨by
            have h := HK.out
            rw [HBL.out, List.take_of_length_le (by rw [size_list]; exact Nat.le_refl _), ← HBL.out] at h
            exact h⟩
          have hdn : decide (a1.size < a1.size) = false := by simp
          clear hlt HK hk
          go_wp2_with fail
          go_loopw [6, 7] (fun sv iv wr => ∃ (k : Nat) (s0 : ByteArray), iv = .int .i64 (k : Int) ∧ sv = .string s0 ∧ k ≤ n ∧ Keep (s0 = str (cc bl (ls.take k)) ∧ (∀ x ∈ ls.take k, Piece x ∧ x.length ≤ 100) ∧ Below w.heap.size w wr)) (fun _ iv _ => n - (intOf iv).toNat)
          case atStart => exact ⟨0, ⟨#[]⟩, rfl, rfl, Nat.zero_le _, ⟨rfl, by simp, Below.refl _ _⟩⟩
          case round =>
            obtain ⟨k, s0, rfl, rfl, hk, HK⟩ := hrel
            by_cases hlt : k < n
            · obtain ⟨x, hx⟩ := get_of_lt (l := ls) (i := k) (by rw [← HN.out]; exact hlt)
              obtain ⟨b, off, rfl, hbb, hc⟩ := HFORM.out k x hx
              have hcell : wr.cell? ⟨b, off + k, none⟩ = some (.string (str x)) := hc wr HK.out.2.2
              have HC := keep hc
              have hltI : (k : Int) < (n : Int) := by omega
              have hzx : (str x).size = x.length := str_size x
              have HX := keep hx
              have HBB := keep hbb
              clear hc hx
              by_cases h100 : (100 : Int) < ((str x).size : Int)
              · generalize str x = sx at *
                clear hzx
                go_wp2_with fail
                refine (HLIVE.out _).mono ?_
                rintro e w' ⟨rfl, hb⟩
                have HB := keep (HK.out.2.2.trans (hb.mono HK.out.2.2.size))
                clear hb
                go_wp2_with fail
                go_ret
                exact ⟨rfl, HB.out⟩
              · have hx100 : ((str x).size : Int) ≤ 100 := by omega
                have hl100 : x.length ≤ 100 := by omega
                have hsx := toList_str x
                have HR := keep (fun w => rnext_any x 0 (by omega) w)
                rw [show nxtI x 0 = nxt x 0 from nxtI_in (a := 0) (Nat.zero_le _)] at HR
                have HPIECE := keep (fun t p h0 h hS => piece_of (x := x) (t := t) (p := p) h0 h hS)
                have HL100 := keep hl100
                obtain ⟨X, hX⟩ : ∃ X, X = nxt x 0 := ⟨_, rfl⟩
                rw [← hX] at HR
                have HXX := keep hX
                obtain ⟨⟨K, S, V, A⟩, N, E⟩ := X
                unfold GotIs at HR
                simp only at HR
                obtain ⟨sx, hsxx⟩ : ∃ sx, sx = str x := ⟨_, rfl⟩
                have HSX := keep hsxx
                rw [← hsxx] at hcell hzx hx100 hsx h100 HR
                clear hl100 hX hsxx hzx h100
                have HCS : Keep (∀ W, Below w.heap.size w W → W.cell? ⟨b, off + k, none⟩ = some (.string sx)) := ⟨fun W hW => by
                  have h1 : W.cell? ⟨b, off + k, none⟩ = some (.string (str x)) := HC.out W hW
                  rw [← HSX.out] at h1
                  exact h1⟩
                by_cases hE : E = 0
                · subst hE
                  by_cases hS : S = sx
                  · subst hS
                    by_cases hx0 : x = []
                    · have hxe : (x == []) = true := by simp [hx0]
                      have hxx : (x == x) = true := by simp
                      have hxn : (x != x) = false := by simp
                      clear hx0
                      go_wp2_with fail
                      refine (HR.out _).mono ?_
                      rintro e w2 ⟨rfl, hb⟩
                      have HB2 := keep (HK.out.2.2.trans (hb.mono HK.out.2.2.size))
                      have hcell2 := HCS.out w2 HB2.out
                      have hbl2 : b < w2.heap.size := by have := HB2.out.size; have := HBB.out; omega
                      have HB3 := keep (HB2.out.alloc HB2.out.size (.cells #[.int .i64 K, .string S, .int .i64 V, .int .i64 A, .int .i64 N, .int .i64 0] 29))
                      clear hb hcell
                      go_wp2_with fail
                      go_quiet (fail)
                      have HBD := keep (HB3.out.trans (below_draws w.heap.size _ nq))
                      generalize (w2.alloc (.cells #[.int .i64 K, .string S, .int .i64 V, .int .i64 A, .int .i64 N, .int .i64 0] 29)).drewN nq = W3 at *
                      go_wp2_with fail
                      refine (HLIVE.out _).mono ?_
                      rintro e w' ⟨rfl, hb⟩
                      have HB := keep (HBD.out.trans (hb.mono HBD.out.size))
                      clear hb
                      go_wp2_with fail
                      go_ret
                      exact ⟨rfl, HB.out⟩
                    · have hxe : (x == []) = false := by simpa using hx0
                      have hxx : (x == x) = true := by simp
                      have hxn : (x != x) = false := by simp
                      have HP := keep (HPIECE.out _ _ hx0 HXX.out.symm HSX.out)
                      clear hx0
                      go_wp2_with fail
                      refine (HR.out _).mono ?_
                      rintro e w2 ⟨rfl, hb⟩
                      have HB2 := keep (HK.out.2.2.trans (hb.mono HK.out.2.2.size))
                      have hcell2 := HCS.out w2 HB2.out
                      have hbl2 : b < w2.heap.size := by have := HB2.out.size; have := HBB.out; omega
                      have HB3 := keep (HB2.out.alloc HB2.out.size (.cells #[.int .i64 K, .string S, .int .i64 V, .int .i64 A, .int .i64 N, .int .i64 0] 29))
                      clear hb hcell
                      go_wp2_with fail
                      go_quiet (fail)
                      have HBD := keep (HB3.out.trans (below_draws w.heap.size _ nq))
                      generalize (w2.alloc (.cells #[.int .i64 K, .string S, .int .i64 V, .int .i64 A, .int .i64 N, .int .i64 0] 29)).drewN nq = W3 at *
                      have hcell3 : W3.cell? ⟨b, off + k, none⟩ = some (.string S) := HCS.out W3 HBD.out
                      have hZ : Keep (s0.size ≤ 15100) := ⟨by
                        rw [HK.out.1, str_size]
                        have h1 := cc_len bl HBLN.out (ls.take k) (fun y hy => (HK.out.2.1 y hy).2)
                        have h2 : (ls.take k).length ≤ 100 := by rw [List.length_take]; have := HN.out; omega
                        omega⟩
                      have hz0 : (s0.size : Int) ≤ 15100 := by have := hZ.out; omega
                      have hs1 : (9223372036854775807 < s0.size + S.size) = False := by simp; omega
                      have hs2 : (9223372036854775807 < s0.size + S.size + 1) = False := by simp; omega
                      have hs3 : (9223372036854775807 < s0.size + S.size + 1 + a1.size) = False := by simp; omega
                      have HCAT : Keep (s0 ++ S ++ ⟨#[32]⟩ ++ a1 = str (cc bl (ls.take (k + 1)))) := ⟨by rw [HK.out.1, HSX.out]; exact cc_next HBL.out.symm HX.out⟩
                      have HALL : Keep (∀ y ∈ ls.take (k + 1), Piece y ∧ y.length ≤ 100) := ⟨fun y hy => by
                        rw [take_snoc HX.out] at hy
                        rcases List.mem_append.1 hy with h | h
                        · exact HK.out.2.1 y h
                        · rw [List.mem_singleton.1 h]; exact ⟨HP.out, HL100.out⟩⟩
                      go_wp2_with fail
                      go_roundw
                      case rel => exact ⟨k + 1, _, by go_num, rfl, by omega, ⟨HCAT.out, HALL.out, HBD.out⟩⟩
                      case measure => simp [intOf]; omega
                  · have hSx : (S.toList == x) = false := by have := beq_no hS; rw [hsx] at this; exact this
                    have hSn : (S.toList != x) = true := by simp only [bne, hSx, Bool.not_false]
                    clear hS
                    go_wp2_with fail
                    refine (HR.out _).mono ?_
                    rintro e w2 ⟨rfl, hb⟩
                    have HB2 := keep (HK.out.2.2.trans (hb.mono HK.out.2.2.size))
                    have hcell2 := HCS.out w2 HB2.out
                    have hbl2 : b < w2.heap.size := by have := HB2.out.size; have := HBB.out; omega
                    have HB3 := keep (HB2.out.alloc HB2.out.size (.cells #[.int .i64 K, .string S, .int .i64 V, .int .i64 A, .int .i64 N, .int .i64 0] 29))
                    clear hb hcell
                    go_wp2_with fail
                    go_quiet (fail)
                    have HBD := keep (HB3.out.trans (below_draws w.heap.size _ nq))
                    generalize (w2.alloc (.cells #[.int .i64 K, .string S, .int .i64 V, .int .i64 A, .int .i64 N, .int .i64 0] 29)).drewN nq = W3 at *
                    go_wp2_with fail
                    refine (HLIVE.out _).mono ?_
                    rintro e w' ⟨rfl, hb⟩
                    have HB := keep (HBD.out.trans (hb.mono HBD.out.size))
                    clear hb
                    go_wp2_with fail
                    go_ret
                    exact ⟨rfl, HB.out⟩
                · have hEb : (E == 0) = false := by simpa using hE
                  have hEn : (E != 0) = true := by simpa using hE
                  clear hE
                  go_wp2_with fail
                  refine (HR.out _).mono ?_
                  rintro e w2 ⟨rfl, hb⟩
                  have HB2 := keep (HK.out.2.2.trans (hb.mono HK.out.2.2.size))
                  have hcell2 := HCS.out w2 HB2.out
                  have hbl2 : b < w2.heap.size := by have := HB2.out.size; have := HBB.out; omega
                  have HB3 := keep (HB2.out.alloc HB2.out.size (.cells #[.int .i64 K, .string S, .int .i64 V, .int .i64 A, .int .i64 N, .int .i64 E] 29))
                  clear hb hcell
                  go_wp2_with fail
                  go_quiet (fail)
                  have HBD := keep (HB3.out.trans (below_draws w.heap.size _ nq))
                  generalize (w2.alloc (.cells #[.int .i64 K, .string S, .int .i64 V, .int .i64 A, .int .i64 N, .int .i64 E] 29)).drewN nq = W3 at *
                  go_wp2_with fail
                  refine (HLIVE.out _).mono ?_
                  rintro e w' ⟨rfl, hb⟩
                  have HB := keep (HBD.out.trans (hb.mono HBD.out.size))
                  clear hb
                  go_wp2_with fail
                  go_ret
                  exact ⟨rfl, HB.out⟩
            · have hke : n = k := by omega
              subst hke
              have hdn : decide (n < n) = false := by simp
              have hall := HK.out.2.1
              have HB := keep HK.out.2.2
              have hs0 := HK.out.1
              rw [List.take_of_length_le (by rw [← HN.out]; exact Nat.le_refl _)] at hs0 hall
              obtain ⟨ts, r, hag⟩ := again_any bl HBLK.out ls (fun x hx => (hall x hx).1) (cc bl ls) 0 [] (Nat.zero_le _) (by simp) (by simp)
              have hlenc : (cc bl ls).length ≤ 65536 := by
                have h1 := cc_len bl HBLN.out ls (fun y hy => (hall y hy).2)
                have := HN.out
                omega
              have HALLC := keep (all_any (cc bl ls) ts r hlenc hag.toks wr)
              obtain ⟨R1, R2⟩ := r
              have hR2 : R2 = 0 := hag.ok
              subst hR2
              have HTOLD : Keep (told ts (R1, 0) = ts) := ⟨rfl⟩
              rw [← hs0] at HALLC
              have HLEN : Keep (ts.length = n + 1) := ⟨by rw [hag.len, ← HN.out]⟩
              have HSAME := keep hag.same
              have HLAST : Keep (∃ t, ts[n]? = some t ∧ t.K = 0) := ⟨by rw [HN.out]; exact hag.last⟩
              clear hall hs0 hag hlenc HK hlt hk
              go_wp2_with fail
              refine HALLC.out.mono ?_
              rintro e w2 ⟨u, rfl, hrow, hb⟩
              have HB2 := keep (HB.out.trans (hb.mono HB.out.size))
              rw [HTOLD.out] at hrow
              rcases hrow.out with ⟨h0, _⟩ | ⟨bg, og, cap', rfl, hbg, hcg⟩
              · have := HLEN.out; rw [h0] at this; simp at this
              have hlts := HLEN.out
              have HCG := keep hcg
              have HBG := keep hbg
              rw [hlts]
              clear hrow hb hlts hcg hbg HALLC
              go_wp2_with fail
              go_loopw [12] (fun iv w3 => ∃ k : Nat, iv = .int .i64 (k : Int) ∧ k ≤ n ∧ Keep (Below w2.heap.size w2 w3)) (fun iv _ => n - (intOf iv).toNat)
              case atStart => exact ⟨0, rfl, Nat.zero_le _, ⟨Below.refl _ _⟩⟩
              case round =>
                obtain ⟨k, rfl, hk, HW⟩ := hrel
                by_cases hlt : k < n
                · obtain ⟨x, hx⟩ := get_of_lt (l := ls) (i := k) (by rw [← HN.out]; exact hlt)
                  obtain ⟨b, off, rfl, hbb, hc⟩ := HFORM.out k x hx
                  have hcell : wr.cell? ⟨b, off + k, none⟩ = some (.string (str x)) := hc wr (HB2.out.trans (HW.out.mono HB2.out.size))
                  obtain ⟨t, ht, htS⟩ := HSAME.out k x hx
                  have hcg1 := (HW.out.cell (p := ⟨bg, og + k * 4 + 1, none⟩) HBG.out).trans (HCG.out k t ht).2.1
                  rw [htS] at hcg1
                  have hsx := toList_str x
                  have hxn : (x != x) = false := by simp
                  have hltI : (k : Int) < (n : Int) := by omega
                  have hltI2 : (k : Int) < (n : Int) + 1 := by omega
                  generalize str x = sx at *
                  clear hx hc ht htS hbb
                  go_wp2_with fail
                  go_quiet (fail)
                  have HBD := keep (HW.out.trans (below_draws w2.heap.size _ nq))
                  generalize wr.drewN nq = W3 at *
                  go_wp2_with fail
                  go_roundw
                  case rel => exact ⟨k + 1, by go_num, by omega, HBD⟩
                  case measure => simp [intOf]; omega
                · have hke : n = k := by omega
                  subst hke
                  obtain ⟨t, ht, hK⟩ := HLAST.out
                  have hcg0 := (HW.out.cell (p := ⟨bg, og + n * 4, none⟩) HBG.out).trans (HCG.out n t ht).1
                  rw [hK] at hcg0
                  have hltI2 : (n : Int) < (n : Int) + 1 := by omega
                  have HBE := keep (HB2.out.trans (HW.out.mono HB2.out.size))
                  clear hlt ht hK
                  go_wp2_with fail
                  refine (HLIVE.out _).mono ?_
                  rintro e w' ⟨rfl, hb⟩
                  have HBF := keep (HBE.out.trans (hb.mono HBE.out.size))
                  clear hb
                  go_wp2_with fail
                  go_ret
                  exact ⟨rfl, HBF.out⟩
end Go.Proofs.YtekonndjanaoaaaDoor.tokenBack
