/-
  For every list of texts, retracelaw06.SetOrder answers true, and what it is given reads as before. No condition.
-/
import Derived.Test.YtjfgnmkgljljbaaRows
import Derived.Test.YtjfgnmkgljljbaaSetQ
import Derived.Test.YtjfgnmkgljljbaaSetSH
namespace Go.Proofs.Ytjfgnmkgljljbaa.setOrder
open Go.ChangeShapes Go.WideShapes Go.ChangeAt Go.RowKit
open Go.ChangeMaps (open_string shut_string)

theorem other {d d2 : Nat} {l l2 : List ByteArray} {w w' : World} (h : S.SAt d l w) (h2 : S.SAt d2 l2 w) (hg : w.grownBy w' (some d2)) (hne : d2 ≠ d) : S.SAt d l w' := by
  obtain ⟨p, T, hb, ht, hr⟩ := h.out
  obtain ⟨p2, T2, hb2, -, -⟩ := h2.out
  exact ⟨⟨p, T, (hg.block d hb.lt (fun e => by injection e with e; exact hne e.symm)).trans hb, ht.kept (NKept.grown hg hb2 (by decide)), hr⟩, h.up⟩
/-- The two sets of the law have the same things. -/
structure Two (w : World) (d d2 : Nat) (m : List ByteArray) (W : World) : Prop where
  a : S.SAt d m W
  b : S.SAt d2 m W
  below : Below w.heap.size w W
theorem up_step {l : List ByteArray} (hu : Up ltS l) {i : Nat} {a b : ByteArray} (ha : l[i]? = some a) (hb : l[i + 1]? = some b) : ltS a b = true := by
  obtain ⟨h1, rfl⟩ := List.getElem?_eq_some_iff.1 ha
  obtain ⟨h2, rfl⟩ := List.getElem?_eq_some_iff.1 hb
  exact List.pairwise_iff_getElem.1 hu i (i + 1) h1 h2 (by omega)

set_option maxRecDepth 100000 in
set_option maxHeartbeats 8000000 in
theorem walk (v0 : Value) (a0 : List ByteArray) (w : World) (h0 : RowAt Value.string w.heap.size w v0 a0) :
    Calls Try.prog 5 #[v0] w fun e w' => e = .returned (.bool true) ∧ Below w.heap.size w w' := by
  have HROW := keep h0
  obtain ⟨o0, c0, rfl, hr0⟩ := h0.form
  have HR0 := keep hr0
  have hm0 := h0.room
  obtain ⟨n, hn⟩ : ∃ n, n = a0.length := ⟨_, rfl⟩
  have HN := keep hn
  rw [← hn] at HROW hm0 ⊢
  have hnI : (n : Int) ≤ 9223372036854775807 := by omega
  clear h0 hr0 hm0 hn
  by_cases hlong : (60 : Int) < (n : Int)
  · go_enter Try.func5, Try.ntmps5
    go_wp2_with fail
    refine (live_any _).mono ?_
    rintro e w1 ⟨rfl, hb⟩
    have HB := keep hb
    clear hb
    go_wp2_with fail
    go_ret
    exact ⟨rfl, HB.out⟩
  · have hn60 : (n : Int) ≤ 60 := by omega
    clear hlong hnI
    have HOF : Keep (Calls Try.prog 22 #[.slice o0 n c0] w fun e w' => (∃ d, e = .returned (.pointer (some ⟨d, 0, none⟩)) ∧ w.heap.size ≤ d ∧ S.SAt d (rowOf ltS a0) w') ∧ Below w.heap.size w w') := keep (S.of_any HROW.out (by rw [← HN.out]; omega))
    go_enter Try.func5, Try.ntmps5
    go_wp2_with fail
    refine HOF.out.mono ?_
    rintro e w1 ⟨⟨d, rfl, hd, hs⟩, hb⟩
    have HS1 := keep hs
    have HD := keep hd
    have HB1 := keep hb
    clear hs hd hb HOF
    go_wp2_with fail
    refine (S.of_any (w := w1) (RowAt.nil _ _ _) (by simp)).mono ?_
    rintro e w2 ⟨⟨d2, rfl, hd, hs⟩, hb⟩
    have HS2 := keep hs
    have HSA := keep (HS1.out.below hb)
    have HD2 : Keep (w.heap.size ≤ d2 ∧ d2 ≠ d) := ⟨by have := HB1.out.size; omega, by have := HS1.out.lt; omega⟩
    have HB2 := keep (HB1.out.trans (hb.mono HB1.out.size))
    clear hs hd hb HS1 HB1
    go_wp2_with fail
    have HS20 : Keep (S.SAt d2 (rowOf ltS (a0.reverse.take (n - n))) w2) := ⟨by rw [Nat.sub_self]; exact HS2.out⟩
    clear HS2 HROW
    go_loopw [5] (fun iv wr => ∃ j : Nat, iv = .int .i64 ((j : Int) - 1) ∧ j ≤ n ∧ Keep (S.SAt d2 (rowOf ltS (a0.reverse.take (n - j))) wr ∧ S.SAt d (rowOf ltS a0) wr ∧ Below w.heap.size w wr)) (fun iv _ => (intOf iv + 1).toNat)
    case atStart => exact ⟨n, rfl, Nat.le_refl _, ⟨HS20.out, HSA.out, HB2.out⟩⟩
    case round =>
      obtain ⟨j, rfl, hj, HK⟩ := hrel
      clear HS20 HSA HB2
      rcases Nat.eq_zero_or_pos j with hj0 | hj0
      · subst hj0
        obtain ⟨z, hz⟩ : ∃ z : Int, z = ((0 : Nat) : Int) - 1 := ⟨_, rfl⟩
        rw [← hz]
        have hzI : z < 0 := by omega
        clear hz
        have HA : Keep (Two w d d2 (rowOf ltS a0) wr) := ⟨⟨HK.out.2.1, by
          have := HK.out.1
          rw [Nat.sub_zero, List.take_of_length_le (by rw [List.length_reverse, ← HN.out]; exact Nat.le_refl _), rowOf_reverse ltS_lin] at this
          exact this, HK.out.2.2⟩⟩
        have HM : Keep ((rowOf ltS a0).length ≤ n) := ⟨by rw [HN.out]; exact rowOf_length a0⟩
        have HMEM := keep (rowOf_mem ltS_lin a0)
        clear HK hj
        obtain ⟨m, hm⟩ : ∃ m, m = rowOf ltS a0 := ⟨_, rfl⟩
        rw [← hm] at HA HM HMEM
        clear hm
        obtain ⟨k, hk⟩ : ∃ k, k = m.length := ⟨_, rfl⟩
        have HKL := keep hk
        have HLA : Keep (∀ W, Two w d d2 m W → Calls Try.prog 24 #[.pointer (some ⟨d, 0, none⟩)] W fun e w' => e = .returned (.int .i64 (k : Int)) ∧ W = w') := ⟨fun W h => by rw [hk]; exact S.len_any h.a.sv⟩
        have HLB : Keep (∀ W, Two w d d2 m W → Calls Try.prog 24 #[.pointer (some ⟨d2, 0, none⟩)] W fun e w' => e = .returned (.int .i64 (k : Int)) ∧ W = w') := ⟨fun W h => by rw [hk]; exact S.len_any h.b.sv⟩
        have hkn : (k : Int) ≤ (n : Int) := by have := HM.out; omega
        clear hk
        go_wp2_with fail
        go_loopw [6, 7] (fun lv iv W => ∃ (i : Nat) (last : ByteArray), lv = .string last ∧ iv = .int .i64 (i : Int) ∧ i ≤ k ∧ Keep ((0 < i → m[i - 1]? = some last) ∧ Two w d d2 m W)) (fun _ iv _ => k - (intOf iv).toNat)
        case atStart => exact ⟨0, _, rfl, rfl, Nat.zero_le _, ⟨fun h => absurd h (by omega), HA.out⟩⟩
        case round =>
          clear HA
          obtain ⟨i, last, rfl, rfl, hi, HL⟩ := hrel
          by_cases hlt : i < k
          · have hltI : (i : Int) < (k : Int) := by omega
            obtain ⟨x, hx⟩ := get_of_lt (l := m) (i := i) (by rw [← HKL.out]; exact hlt)
            have HX := keep hx
            have HAA := keep (S.at_in i x HL.out.2.a.sv (by have := HM.out; omega) hx)
            have HAB := keep (S.at_in i x HL.out.2.b.sv (by have := HM.out; omega) hx)
            have hxx : (x.toList == x.toList) = true := beq_yes rfl
            clear hx
            rcases Nat.eq_zero_or_pos i with hi0 | hi0
            · subst hi0
              go_wp2_with fail
              refine (HLA.out _ HL.out.2).mono ?_
              rintro e w' ⟨rfl, rfl⟩
              go_wp2_with fail
              refine HAA.out.mono ?_
              rintro e w' ⟨rfl, rfl⟩
              go_wp2_with fail
              refine HAB.out.mono ?_
              rintro e w' ⟨rfl, rfl⟩
              go_wp2_with fail
              go_roundw
              case rel => exact ⟨1, x, rfl, rfl, by omega, ⟨fun _ => HX.out, HL.out.2⟩⟩
              case measure => simp [intOf]; omega
            · have hup := up_step HL.out.2.a.up (i := i - 1) (HL.out.1 hi0) (by rw [show i - 1 + 1 = i by omega]; exact HX.out)
              have hle : Op.bytesLess x.toList last.toList = false := ltS_lin.asymm hup
              have hne : (x.toList == last.toList) = false := beq_no (fun e => by subst e; rw [ltS_lin.irr] at hup; cases hup)
              have hiI : (0 : Int) < (i : Int) := by omega
              clear hup
              go_wp2_with fail
              refine (HLA.out _ HL.out.2).mono ?_
              rintro e w' ⟨rfl, rfl⟩
              go_wp2_with fail
              refine HAA.out.mono ?_
              rintro e w' ⟨rfl, rfl⟩
              go_wp2_with fail
              refine HAB.out.mono ?_
              rintro e w' ⟨rfl, rfl⟩
              go_wp2_with fail
              go_roundw
              case rel => exact ⟨i + 1, x, rfl, by go_num, by omega, ⟨fun _ => HX.out, HL.out.2⟩⟩
              case measure => simp [intOf]; omega
          · have hik : k = i := by omega
            subst hik
            have hdk : decide (k < k) = false := by simp
            have HA := keep HL.out.2
            clear hlt HL hi
            go_wp2_with fail
            refine (HLA.out _ HA.out).mono ?_
            rintro e w' ⟨rfl, rfl⟩
            go_wp2_with fail
            go_loopw [12] (fun iv W => ∃ i : Nat, iv = .int .i64 (i : Int) ∧ i ≤ n ∧ Keep (Two w d d2 m W)) (fun iv _ => n - (intOf iv).toNat)
            case atStart => exact ⟨0, rfl, Nat.zero_le _, HA⟩
            case round =>
              clear HA
              obtain ⟨i, rfl, hi, HL⟩ := hrel
              by_cases hlt : i < n
              · obtain ⟨x, hx⟩ := get_of_lt (l := a0) (i := i) (by rw [← HN.out]; exact hlt)
                obtain ⟨b, off, rfl, hb, hc⟩ := HR0.out i x hx
                have hcell := hc _ HL.out.below
                have hltI : (i : Int) < (n : Int) := by omega
                have hxm : x ∈ m := (HMEM.out x).2 (List.mem_of_getElem? hx)
                have HHA := keep (S.has_in x HL.out.a.sv (by have := HM.out; omega) hxm)
                have HHB := keep (S.has_in x HL.out.b.sv (by have := HM.out; omega) hxm)
                clear hx hb hc hxm
                go_wp2_with fail
                refine HHA.out.mono ?_
                rintro e w' ⟨rfl, rfl⟩
                go_wp2_with fail
                refine HHB.out.mono ?_
                rintro e w' ⟨rfl, rfl⟩
                go_wp2_with fail
                go_roundw
                case rel => exact ⟨i + 1, by go_num, by omega, HL⟩
                case measure => simp [intOf]; omega
              · have hin : n = i := by omega
                subst hin
                have hdn : decide (n < n) = false := by simp
                clear hlt hi
                go_wp2_with fail
                refine (HLA.out _ HL.out).mono ?_
                rintro e w' ⟨rfl, rfl⟩
                go_wp2_with fail
                refine (HLB.out _ HL.out).mono ?_
                rintro e w' ⟨rfl, rfl⟩
                go_wp2_with fail
                refine (HLA.out _ HL.out).mono ?_
                rintro e w' ⟨rfl, rfl⟩
                go_wp2_with fail
                refine (live_any _).mono ?_
                rintro e w4 ⟨rfl, hb⟩
                have HB4 := keep (HL.out.below.trans (hb.mono HL.out.below.size))
                clear hb
                go_wp2_with fail
                go_ret
                exact ⟨rfl, HB4.out⟩
      · obtain ⟨i, rfl⟩ : ∃ i, j = i + 1 := ⟨j - 1, by omega⟩
        obtain ⟨x, hx⟩ := get_of_lt (l := a0) (i := i) (by rw [← HN.out]; omega)
        obtain ⟨b, off, rfl, hb, hc⟩ := HR0.out i x hx
        have hcell := hc _ HK.out.2.2
        have HTK : Keep (a0.reverse.take (n - i) = a0.reverse.take (n - (i + 1)) ++ [x]) := ⟨by
          have h := take_snoc (l := a0.reverse) (i := n - (i + 1)) (x := x) (by
            rw [List.getElem?_reverse (by rw [← HN.out]; omega), ← HN.out, show n - 1 - (n - (i + 1)) = i by omega]; exact hx)
          rw [show n - (i + 1) + 1 = n - i by omega] at h
          exact h⟩
        have HADD := keep (S.add_any x HK.out.1 (by have := rowOf_length (lt := ltS) (a0.reverse.take (n - (i + 1))); rw [List.length_take] at this; omega))
        rw [← rowOf_snoc, ← HTK.out] at HADD
        have hiI : (i : Int) < (n : Int) := by omega
        have hi1 : (((i + 1 : Nat) : Int)) - 1 = (i : Int) := by omega
        rw [hi1]
        clear hx hb hc hi1
        go_wp2_with fail
        refine HADD.out.mono ?_
        rintro e w3 ⟨⟨bb, rfl, -⟩, hs, hg⟩
        have HS3 := keep hs
        have HA3 := keep (other HK.out.2.1 HK.out.1 hg HD2.out.2)
        have HB3 := keep (HK.out.2.2.trans (grown_below hg HD2.out.1 HK.out.2.2.size))
        clear hs hg hcell HADD
        go_wp2_with fail
        go_roundw
        case rel => exact ⟨i, by go_num, by omega, ⟨HS3.out, HA3.out, HB3.out⟩⟩
        case measure => simp [intOf]
theorem own : ownKnob Try.prog.godebug = none := by kernel_rfl
theorem laid : laidOutB Try.prog = true := by kernel_rfl

set_option maxRecDepth 100000 in
theorem lifted (os : Os) (started : os.Started) (H : Type) (enc : TypeId × Value → H) :
    ReturnsInHanded {} Try.checked os 5 .any (Rows.setOrderSpec.pre6 enc Try.prog Try.f5 Rows.setOrderRow.domain false) (Rows.setOrderSpec.post enc Try.prog Try.f5 false true false false) := by
  refine returnsInHanded_of_change (C := Try.checked) own started (by kernel_rfl) Try.func5
    (ChangeSpec.witness6 (enc := enc) (C := Try.checked) false ⟨#[], #[.slice none 0 0], []⟩ 8 (by kernel_rfl) (by kernel_rfl) (by kernel_rfl) (by kernel_rfl)) ?_
  intro W base args ds gs before hval0 hW hcnd _
  have hval : ∀ (j : Nat) t v, Try.f5.params[j]? = some t → args[j]? = some v → Value.okWide Try.prog W .any base t v := hval0
  have hW' := hW
  obtain ⟨p, q, hA0, hV, rfl, hfz, hnd⟩ := hW
  have hA : DataW.TrodAll enc Try.prog W 0 (fun _ => true) true Try.f5.params.toList args.toList ds p := hA0
  rw [Try.params5] at hA hval
  obtain ⟨v0, vs0, d0, ds0, p0, q0, hargs, rfl, rfl, h0, r0⟩ := trodAll_cons hA
  obtain ⟨rfl, rfl, rfl⟩ := trodAll_nil r0
  obtain rfl : args = #[v0] := by cases args; simp_all
  obtain ⟨rfl, rfl⟩ := trodVars_none hV
  obtain ⟨a0, w0⟩ := txs_of (enc := enc) h0 (hval 0 43 v0 rfl rfl)
  clear hA0 hval0
  simp only [List.append_nil] at hW'
  have hlt0 : ∀ x ∈ p0, x.block < W.heap.size := fun x hx => by
    have := hW'.lt x (by simp [hx])
    simpa using this
  refine (walk v0 a0 W w0).mono fun e W' ⟨he, hg⟩ => ?_
  subst he
  exact ⟨_, rfl, _, _, _, [], _, [], hW', (trodAll_cons_mk (shut_bool Try.underlying4 _) trodAll_mk0), (trodAll_cons_mk (Below.trod laid (by kernel_rfl) (of_decide_eq_true (by kernel_rfl)) h0 hg hlt0) trodAll_mk0), rfl, hg.frame _, fun h => by cases h⟩

theorem over : Rows.setOrderRow.holds Try.pinned (OpenSpec.ofChange Rows.setOrderSpec) :=
  OpenClaim.holds_of_wide 5 Try.f5 rfl rfl rfl rfl rfl rfl rfl ⟨rfl, rfl, rfl, rfl, rfl⟩ rfl rfl rfl rfl rfl (by kernel_rfl) Try.func5 (by kernel_rfl)
    (of_decide_eq_true (by kernel_rfl)) (by unfold Func.isWrapper; first | (rw [if_pos (by decide +kernel)]; kernel_rfl) | (rw [if_neg (by decide +kernel)]; exact ⟨rfl, rfl⟩))
    (fun os started H enc _ => lifted os started H enc)

/-- The statement. -/
theorem proved : Rows.SetOrderSaid :=
  over
#print axioms proved
end Go.Proofs.Ytjfgnmkgljljbaa.setOrder
