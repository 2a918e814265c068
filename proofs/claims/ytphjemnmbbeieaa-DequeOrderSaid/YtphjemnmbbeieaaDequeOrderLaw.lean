/-
  For all texts that were there and all that come behind, and either way, retracelaw05.DequeOrder answers true, and what it is given reads as before. No condition.
-/
import Derived.Test.YtphjemnmbbeieaaRows
import Derived.Test.YtphjemnmbbeieaaDequeQ
namespace Go.Proofs.Ytphjemnmbbeieaa.dequeOrder
open Go.ChangeShapes Go.WideShapes Go.ChangeAt Go.RowKit
open Go.ChangeMaps (open_string shut_string)

/-- What is left of l behind k steps. -/
def rem (bk : Bool) (l : List ByteArray) (k : Nat) : List ByteArray := if bk then l.take (l.length - k) else l.drop k

set_option maxHeartbeats 4000000 in
theorem walk (v0 : Value) (a0 : List ByteArray) (v1 : Value) (a1 : List ByteArray) (bk : Bool) (w : World) (h0 : TxRow w.heap.size w v0 a0) (h1 : TxRow w.heap.size w v1 a1) :
    Calls Try.prog 5 #[v0, v1, .bool bk] w fun e w' => e = .returned (.bool true) ∧ Below w.heap.size w w' := by
  obtain ⟨o0, c0, rfl, hr0⟩ := h0.form
  obtain ⟨o1, c1, rfl, hr1⟩ := h1.form
  have HR0 := keep hr0
  have HR1 := keep hr1
  have hm0 := h0.room
  have hm1 := h1.room
  obtain ⟨n, hn⟩ : ∃ n, n = a0.length := ⟨_, rfl⟩
  obtain ⟨m, hm⟩ : ∃ m, m = a1.length := ⟨_, rfl⟩
  have HN := keep hn
  have HM := keep hm
  rw [← hn] at hm0 HR0 ⊢
  rw [← hm] at hm1 HR1 ⊢
  have hnI : (n : Int) ≤ 9223372036854775807 := by omega
  have hmI : (m : Int) ≤ 9223372036854775807 := by omega
  clear h0 h1 hr0 hr1 hm0 hm1 hn hm
  by_cases hbig : (100 : Int) < (n : Int) ∨ (100 : Int) < (m : Int)
  · have HL := keep (live_any w)
    by_cases hb0 : (100 : Int) < (n : Int)
    · clear hbig
      go_enter Try.func5, Try.ntmps5
      go_wp2_with fail
      refine HL.out.mono ?_
      rintro e w4 ⟨rfl, hb⟩
      have HB4 := keep hb
      clear hb
      go_wp2_with fail
      go_ret
      exact ⟨rfl, HB4.out⟩
    · have hb1 : (100 : Int) < (m : Int) := by omega
      clear hbig
      go_enter Try.func5, Try.ntmps5
      go_wp2_with fail
      refine HL.out.mono ?_
      rintro e w4 ⟨rfl, hb⟩
      have HB4 := keep hb
      clear hb
      go_wp2_with fail
      go_ret
      exact ⟨rfl, HB4.out⟩
  · have hn1 : (n : Int) ≤ 100 := by omega
    have hm1 : (m : Int) ≤ 100 := by omega
    have HL0 := keep (LawAt.new (Below.refl _ w))
    clear hbig
    go_enter Try.func5, Try.ntmps5
    go_wp2_with fail
    obtain ⟨d, hd⟩ : ∃ d, d = w.heap.size := ⟨_, rfl⟩
    rw [← hd] at HL0 ⊢
    have HD := keep hd
    clear hd
    go_loopw [8] (fun i wr => ∃ k : Nat, i = .int .i64 k ∧ k ≤ n ∧ Keep (LawAt w d (a0.take k) wr)) (fun i _ => n - (intOf i).toNat)
    case atStart => exact ⟨0, rfl, Nat.zero_le _, HL0⟩
    case round =>
      obtain ⟨k, rfl, hk, HK⟩ := hrel
      by_cases hlt : k < n
      · obtain ⟨b, off, rfl, hb, hc⟩ := HR0.out k hlt
        have hcell := hc wr HK.out.below
        have HP := keep (HK.out.push (tx a0 k) (by rw [List.length_take]; omega))
        rw [← tx_take (by have := HN.out; omega)] at HP
        have hltI : (k : Int) < n := by omega
        clear hc hb
        generalize tx a0 k = x at *
        go_wp2_with fail
        refine HP.out.mono ?_
        rintro e w2 ⟨rfl, hq⟩
        have HK2 := keep hq
        clear hq hcell
        go_wp2_with fail
        go_roundw
        case rel => exact ⟨k + 1, by go_num, by omega, HK2⟩
        case measure => simp [intOf]; omega
      · obtain rfl : n = k := by omega
        have HK1 : Keep (LawAt w d (a0.drop 0) wr) := ⟨by have := HK.out; rw [HN.out, List.take_length] at this; exact this⟩
        clear HK hk hlt
        go_wp2_with fail
        go_loopw [9] (fun i wr => ∃ k : Nat, i = .int .i64 k ∧ k ≤ n ∧ Keep (LawAt w d (a0.drop k) wr)) (fun i _ => n - (intOf i).toNat)
        case atStart => exact ⟨0, rfl, Nat.zero_le _, HK1⟩
        case round =>
          clear HK1
          obtain ⟨k, rfl, hk, HK⟩ := hrel
          by_cases hlt : k < n
          · have HP0 := HK.out
            rw [tx_drop (by have := HN.out; omega)] at HP0
            have HP := keep HP0.pop
            have hltI : (k : Int) < n := by omega
            clear HP0
            generalize tx a0 k = x at *
            go_wp2_with fail
            refine HP.out.mono ?_
            rintro e w2 ⟨rfl, hq⟩
            have HK2 := keep hq
            clear hq
            go_wp2_with fail
            go_roundw
            case rel => exact ⟨k + 1, by go_num, by omega, HK2⟩
            case measure => simp [intOf]; omega
          · obtain rfl : n = k := by omega
            have HK1 : Keep (LawAt w d (a1.take 0) wr) := ⟨by have := HK.out; rw [HN.out, List.drop_length] at this; exact this⟩
            clear HK hk hlt
            go_wp2_with fail
            go_loopw [10] (fun i wr => ∃ k : Nat, i = .int .i64 k ∧ k ≤ m ∧ Keep (LawAt w d (a1.take k) wr)) (fun i _ => m - (intOf i).toNat)
            case atStart => exact ⟨0, rfl, Nat.zero_le _, HK1⟩
            case round =>
              clear HK1
              obtain ⟨k, rfl, hk, HK⟩ := hrel
              by_cases hlt : k < m
              · obtain ⟨b, off, rfl, hb, hc⟩ := HR1.out k hlt
                have hcell := hc wr HK.out.below
                have HP := keep (HK.out.push (tx a1 k) (by rw [List.length_take]; omega))
                rw [← tx_take (by have := HM.out; omega)] at HP
                have hltI : (k : Int) < m := by omega
                clear hc hb
                generalize tx a1 k = x at *
                go_wp2_with fail
                refine HP.out.mono ?_
                rintro e w2 ⟨rfl, hq⟩
                have HK2 := keep hq
                clear hq hcell
                go_wp2_with fail
                go_roundw
                case rel => exact ⟨k + 1, by go_num, by omega, HK2⟩
                case measure => simp [intOf]; omega
              · obtain rfl : m = k := by omega
                have HK1 : Keep (LawAt w d (rem bk a1 0) wr) := ⟨by have := HK.out; unfold rem; rw [HM.out, List.take_length] at this; simpa using this⟩
                clear HK hk hlt
                go_wp2_with fail
                go_loopw [11] (fun i wr => ∃ k : Nat, i = .int .i64 k ∧ k ≤ m ∧ Keep (LawAt w d (rem bk a1 k) wr)) (fun i _ => m - (intOf i).toNat)
                case atStart => exact ⟨0, rfl, Nat.zero_le _, HK1⟩
                case round =>
                  clear HK1
                  obtain ⟨k, rfl, hk, HK⟩ := hrel
                  by_cases hlt : k < m
                  · have hltI : (k : Int) < m := by omega
                    cases bk
                    · have HP0 := HK.out
                      unfold rem at HP0
                      simp only [Bool.false_eq_true, if_false] at HP0
                      rw [tx_drop (by have := HM.out; omega)] at HP0
                      have HP := keep HP0.pop
                      obtain ⟨b, off, rfl, hb, hc⟩ := HR1.out k hlt
                      have HC := keep hc
                      clear hc hb HP0
                      generalize tx a1 k = x at *
                      go_wp2_with fail
                      refine HP.out.mono ?_
                      rintro e w2 ⟨rfl, hq⟩
                      have HK2 := keep hq
                      have hcell := HC.out w2 hq.below
                      clear hq
                      go_wp2_with fail
                      go_roundw
                      case rel => exact ⟨k + 1, by go_num, by omega, HK2⟩
                      case measure => simp [intOf]; omega
                    · obtain ⟨j, hj⟩ : ∃ j, j = m - 1 - k := ⟨_, rfl⟩
                      have hjm : j < m := by omega
                      have hjI : (m : Int) - 1 - (k : Int) = (j : Int) := by omega
                      have HP0 := HK.out
                      unfold rem at HP0
                      rw [if_pos rfl, show a1.length - k = j + 1 by have := HM.out; omega, tx_take (by have := HM.out; omega)] at HP0
                      have HP := keep HP0.drop
                      have HJ : Keep (a1.take j = rem true a1 (k + 1)) := ⟨by unfold rem; rw [if_pos rfl, show a1.length - (k + 1) = j by have := HM.out; omega]⟩
                      rw [HJ.out] at HP
                      obtain ⟨b, off, rfl, hb, hc⟩ := HR1.out j hjm
                      have HC := keep hc
                      have hjmI : (j : Int) < (m : Int) := by omega
                      clear hc hb HP0 hj
                      generalize tx a1 j = x at *
                      go_wp2_with fail
                      refine HP.out.mono ?_
                      rintro e w2 ⟨rfl, hq⟩
                      have HK2 := keep hq
                      have hcell := HC.out w2 hq.below
                      clear hq
                      go_wp2_with fail
                      go_roundw
                      case rel => exact ⟨k + 1, by go_num, by omega, HK2⟩
                      case measure => simp [intOf]; omega
                  · obtain rfl : m = k := by omega
                    have HK1 : Keep (LawAt w d [] wr) := ⟨by
                      have := HK.out
                      unfold rem at this
                      rw [HM.out, Nat.sub_self, List.take_zero, List.drop_length] at this
                      simpa using this⟩
                    have HL := keep (HK1.out.len)
                    clear HK hk hlt
                    go_wp2_with fail
                    refine HK1.out.pop0.mono ?_
                    rintro e w' ⟨rfl, rfl⟩
                    go_wp2_with fail
                    refine HL.out.mono ?_
                    rintro e w' ⟨rfl, rfl⟩
                    go_wp2_with fail
                    refine (live_any _).mono ?_
                    rintro e w4 ⟨rfl, hb⟩
                    have HB4 := keep (HK1.out.below.trans (hb.mono HK1.out.below.size))
                    clear hb
                    go_wp2_with fail
                    go_ret
                    exact ⟨rfl, HB4.out⟩
theorem own : ownKnob Try.prog.godebug = none := by kernel_rfl
theorem laid : laidOutB Try.prog = true := by kernel_rfl

set_option maxRecDepth 100000 in
theorem lifted (os : Os) (started : os.Started) (H : Type) (enc : TypeId × Value → H) :
    ReturnsInHanded {} Try.checked os 5 .any (Rows.dequeOrderSpec.pre6 enc Try.prog Try.f5 Rows.dequeOrderRow.domain false) (Rows.dequeOrderSpec.post enc Try.prog Try.f5 false true false false) := by
  refine returnsInHanded_of_change (C := Try.checked) own started (by kernel_rfl) Try.func5
    (ChangeSpec.witness6 (enc := enc) (C := Try.checked) false ⟨#[], #[.slice none 0 0, .slice none 0 0, .bool false], []⟩ 8 (by kernel_rfl) (by kernel_rfl) (by kernel_rfl) (by kernel_rfl)) ?_
  intro W base args ds gs before hval0 hW hcnd _
  have hval : ∀ (j : Nat) t v, Try.f5.params[j]? = some t → args[j]? = some v → Value.okWide Try.prog W .any base t v := hval0
  have hW' := hW
  obtain ⟨p, q, hA0, hV, rfl, hfz, hnd⟩ := hW
  have hA : DataW.TrodAll enc Try.prog W 0 (fun _ => true) true Try.f5.params.toList args.toList ds p := hA0
  rw [Try.params5] at hA hval
  obtain ⟨v0, vs0, d0, ds0, p0, q0, hargs, rfl, rfl, h0, r0⟩ := trodAll_cons hA
  obtain ⟨v1, vs1, d1, ds1, p1, q1, rfl, rfl, rfl, h1, r1⟩ := trodAll_cons r0
  obtain ⟨v2, vs2, d2, ds2, p2, q2, rfl, rfl, rfl, h2, r2⟩ := trodAll_cons r1
  obtain ⟨rfl, rfl, rfl⟩ := trodAll_nil r2
  obtain rfl : args = #[v0, v1, v2] := by cases args; simp_all
  obtain ⟨rfl, rfl⟩ := trodVars_none hV
  obtain ⟨a0, w0⟩ := txs_of (enc := enc) h0 (hval 0 25 v0 rfl rfl)
  obtain ⟨a1, w1⟩ := txs_of (enc := enc) h1 (hval 1 25 v1 rfl rfl)
  obtain ⟨a2, rfl, rfl, rfl⟩ := open_bool Try.underlying4 (hval 2 4 v2 rfl rfl) h2
  clear hA0 hval0
  simp only [List.append_nil] at hW'
  have hlt0 : ∀ x ∈ p0, x.block < W.heap.size := fun x hx => by
    have := hW'.lt x (by simp [hx])
    simpa using this
  have hlt1 : ∀ x ∈ p1, x.block < W.heap.size := fun x hx => by
    have := hW'.lt x (by simp [hx])
    simpa using this
  refine (walk v0 a0 v1 a1 a2 W w0 w1).mono fun e W' ⟨he, hg⟩ => ?_
  subst he
  exact ⟨_, rfl, _, _, _, [], _, [], hW', (trodAll_cons_mk (shut_bool Try.underlying4 _) trodAll_mk0), (trodAll_cons_mk (Below.trod laid (by kernel_rfl) (of_decide_eq_true (by kernel_rfl)) h0 hg hlt0) (trodAll_cons_mk (Below.trod laid (by kernel_rfl) (of_decide_eq_true (by kernel_rfl)) h1 hg hlt1) (trodAll_cons_mk (shut_bool Try.underlying4 a2) trodAll_mk0))), rfl, hg.frame _, fun h => by cases h⟩

theorem over : Rows.dequeOrderRow.holds Try.pinned (OpenSpec.ofChange Rows.dequeOrderSpec) :=
  OpenClaim.holds_of_wide 5 Try.f5 rfl rfl rfl rfl rfl rfl rfl ⟨rfl, rfl, rfl, rfl, rfl⟩ rfl rfl rfl rfl rfl (by kernel_rfl) Try.func5 (by kernel_rfl)
    (of_decide_eq_true (by kernel_rfl)) (by unfold Func.isWrapper; first | (rw [if_pos (by decide +kernel)]; kernel_rfl) | (rw [if_neg (by decide +kernel)]; exact ⟨rfl, rfl⟩))
    (fun os started H enc _ => lifted os started H enc)

/-- The statement. -/
theorem proved : Rows.DequeOrderSaid :=
  over
#print axioms proved
end Go.Proofs.Ytphjemnmbbeieaa.dequeOrder
