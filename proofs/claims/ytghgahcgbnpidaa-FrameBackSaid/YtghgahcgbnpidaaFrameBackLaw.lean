/-
  For every string, every frame and every string, retracelaw04.FrameBack answers true, and what it is given reads as before. No condition.
-/
import Derived.Test.YtghgahcgbnpidaaRows
import Derived.Test.YtghgahcgbnpidaaFrameQ
namespace Go.Proofs.Ytghgahcgbnpidaa.frameBack
open Go.ChangeShapes Go.WideShapes Go.ChangeAt Go.RowKit Go.Joins
open Go.ChangeMaps (open_string shut_string)

theorem nx_zero {s : ByteArray} {a : Nat} (h : (nx s a).2.2 ≠ 0) : nx s a = (zf, 0, (nx s a).2.2) := by
  revert h
  unfold nx rest
  split
  · intro _; rfl
  · split
    · intro _; rfl
    · split
      · intro _; rfl
      · split
        · intro _; rfl
        · split
          · intro h; exact absurd rfl h
          · intro _; rfl

set_option maxHeartbeats 1000000 in
theorem walk_long (a b : ByteArray) (f : Fr) (w : World) (h : 300 < a.size ∨ 300 < f.S.size ∨ 300 < b.size) :
    Calls Try.prog 6 #[.string a, f.agg, .string b] w fun e w' => e = .returned (.bool true) ∧ Below w.heap.size w w' := by
  obtain ⟨K, S⟩ := f
  unfold Fr.agg
  simp only at h ⊢
  by_cases h1 : 300 < a.size
  · have hI : (300 : Int) < (a.size : Int) := by omega
    clear h h1
    go_enter Try.func6, Try.ntmps6
    go_wp2_with fail
    refine (live_any _).mono ?_
    rintro e w1 ⟨rfl, hb⟩
    have HB1 := keep (((Below.refl _ w).alloc (Nat.le_refl _) _).trans (hb.mono (by simp)))
    clear hb
    go_wp2_with fail
    go_ret
    exact ⟨rfl, HB1.out⟩
  · by_cases h2 : 300 < S.size
    · have hI : ¬ (300 : Int) < (a.size : Int) := by omega
      have hI2 : (300 : Int) < (S.size : Int) := by omega
      clear h h1 h2
      go_enter Try.func6, Try.ntmps6
      go_wp2_with fail
      refine (live_any _).mono ?_
      rintro e w1 ⟨rfl, hb⟩
      have HB1 := keep (((Below.refl _ w).alloc (Nat.le_refl _) _).trans (hb.mono (by simp)))
      clear hb
      go_wp2_with fail
      go_ret
      exact ⟨rfl, HB1.out⟩
    · have hI : ¬ (300 : Int) < (a.size : Int) := by omega
      have hI2 : ¬ (300 : Int) < (S.size : Int) := by omega
      have hI3 : (300 : Int) < (b.size : Int) := by omega
      clear h h1 h2
      go_enter Try.func6, Try.ntmps6
      go_wp2_with fail
      refine (live_any _).mono ?_
      rintro e w1 ⟨rfl, hb⟩
      have HB1 := keep (((Below.refl _ w).alloc (Nat.le_refl _) _).trans (hb.mono (by simp)))
      clear hb
      go_wp2_with fail
      go_ret
      exact ⟨rfl, HB1.out⟩

set_option maxHeartbeats 1000000 in
theorem walk_bad (a b : ByteArray) (f : Fr) (w : World) (h1 : a.size ≤ 300) (h2 : f.S.size ≤ 300) (h3 : b.size ≤ 300) (hk : f.K < 0 ∨ 255 < f.K) :
    Calls Try.prog 6 #[.string a, f.agg, .string b] w fun e w' => e = .returned (.bool true) ∧ Below w.heap.size w w' := by
  have HP0 := fun W => fput_any f W (fun _ => by omega) (by omega)
  rw [putT_arg hk] at HP0
  obtain ⟨K, S⟩ := f
  unfold Fr.agg at HP0 ⊢
  simp only at h2 hk HP0 ⊢
  have HP := keep HP0
  have hI1 : (a.size : Int) ≤ 300 := by omega
  have hI2 : (S.size : Int) ≤ 300 := by omega
  have hI3 : (b.size : Int) ≤ 300 := by omega
  have HX := keep (Box2.new w (.int .i64 K) (.string S) 23)
  clear h1 h2 h3 HP0
  rcases hk with hk | hk
  all_goals
    go_enter Try.func6, Try.ntmps6
    go_wp2_with fail
    refine (HP.out _).mono ?_
    rintro e w1 ⟨rfl, hb⟩
    have HB1 := keep (((Below.refl _ w).alloc (Nat.le_refl _) _).trans (hb.mono (by simp)))
    obtain ⟨hc0, hc1, hcl, _, _⟩ := HX.out.to hb
    clear hb
    go_wp2_with fail
    refine (live_any _).mono ?_
    rintro e w2 ⟨rfl, hb⟩
    have HB2 := keep (HB1.out.trans (hb.mono HB1.out.size))
    clear hb
    go_wp2_with fail
    go_ret
    exact ⟨rfl, HB2.out⟩

set_option maxHeartbeats 4000000 in
theorem walk_ok (a b : ByteArray) (f : Fr) (w : World) (h1 : a.size ≤ 300) (h2 : f.S.size ≤ 300) (h3 : b.size ≤ 300) (hk : f.ok) :
    Calls Try.prog 6 #[.string a, f.agg, .string b] w fun e w' => e = .returned (.bool true) ∧ Below w.heap.size w w' := by
  have HP0 := fun W => fput_any f W (fun _ => by omega) (by omega)
  rw [putT_ok hk] at HP0
  have hlb := ln_bd f
  have hpz : (str (frB f)).size = ln f := by rw [str_size, frB_len]
  have hpl : (a ++ str (frB f) ++ b).data.toList = a.data.toList ++ (frB f ++ b.data.toList) := by rw [cat_str, cat_str, str_data, str_data, str_data, List.append_assoc]
  have hsz : (a ++ str (frB f) ++ b).size = a.size + (ln f + b.size) := by rw [size_list, hpl, List.length_append, List.length_append, frB_len, ← size_list, ← size_list]
  have hz : (a ++ str (frB f) ++ b).size ≤ 100000 := by omega
  have HN0 := fun W => fnext_any (a ++ str (frB f) ++ b) (a.size : Int) W hz
  rw [nxI_in (by omega)] at HN0
  have hnp := nx_put hk hpl
  rw [← size_list] at hnp
  rw [hnp, ← hpz] at HN0
  have HM0 := fun W => fnext_any b 0 W (by omega)
  rw [show (0 : Int) = ((0 : Nat) : Int) from rfl, nxI_in (Nat.zero_le _)] at HM0
  have HKIND : (nx b 0).2.2 ≠ 0 ∨ ((nx b 0).2.2 = 0 ∧ (nx b 0).2.1 ≤ b.size ∧ str (frB (nx b 0).1) = b.extract 0 (nx b 0).2.1) := by
    by_cases h : (nx b 0).2.2 = 0
    · right
      have e : nx b 0 = ((nx b 0).1, (nx b 0).2.1, 0) := Prod.ext rfl (Prod.ext rfl h)
      obtain ⟨_, k1, k2, k3⟩ := nx_ok (Nat.zero_le _) e
      refine ⟨h, k2, ?_⟩
      rw [extract_is, List.drop_zero, ← k3, List.drop_zero, k1]
      simp
    · exact .inl h
  have HPK0 : ∀ W, Calls Try.prog 10 #[(nx b 0).1.agg] W fun e w' => e = .returned (.tuple #[.string (str (frB (nx b 0).1)), .int .i64 0]) ∧ Below W.heap.size W w' := fun W => by
    by_cases h : (nx b 0).2.2 = 0
    · have e : nx b 0 = ((nx b 0).1, (nx b 0).2.1, 0) := Prod.ext rfl (Prod.ext rfl h)
      obtain ⟨k0, k1, k2, _⟩ := nx_ok (Nat.zero_le _) e
      have := ln_bd (nx b 0).1
      exact fput_ok _ W k0 (by omega)
    · rw [nx_zero h]
      exact fput_ok zf W ⟨by decide, by decide, by decide⟩ (by decide)
  generalize nx b 0 = y at *
  obtain ⟨⟨K2, S2⟩, n2, er⟩ := y
  obtain ⟨K, S⟩ := f
  unfold nxT Fr.agg at HN0 HM0
  unfold Fr.agg at HP0 HPK0 ⊢
  simp only at h2 hlb HP0 HN0 HM0 HPK0 HKIND ⊢
  rw [show ((a.size + (str (frB ⟨K, S⟩)).size : Nat) : Int) = (a.size : Int) + ((str (frB ⟨K, S⟩)).size : Int) by omega] at HN0
  generalize str (frB ⟨K, S⟩) = p at *
  generalize str (frB ⟨K2, S2⟩) = p2 at *
  have HP := keep HP0
  have HN := keep HN0
  have HM := keep HM0
  have HPK := keep HPK0
  have hI1 : (a.size : Int) ≤ 300 := by omega
  have hI2 : (S.size : Int) ≤ 300 := by omega
  have hI3 : (b.size : Int) ≤ 300 := by omega
  have hI4 : (p.size : Int) ≤ 316 := by omega
  have HX := keep (Box2.new w (.int .i64 K) (.string S) 23)
  clear h1 h2 h3 HP0 HN0 HM0 HPK0 hlb hpz hpl hsz hz hnp hk
  obtain ⟨E, hE⟩ : ∃ E : Int, E = (er : Int) := ⟨_, rfl⟩
  rw [← hE] at HM
  rcases HKIND with hk | ⟨hk, hn, hp2⟩
  · have hbe : (E == 0) = false := by simp; omega
    have hbn : (E != 0) = true := by simp; omega
    clear hk hE
    go_enter Try.func6, Try.ntmps6
    go_wp2_with fail
    refine (HP.out _).mono ?_
    rintro e w1 ⟨rfl, hb⟩
    have HB1 := keep (((Below.refl _ w).alloc (Nat.le_refl _) _).trans (hb.mono (by simp)))
    have HX1 := keep (HX.out.to hb)
    clear hb
    go_wp2_with fail
    refine (HN.out _).mono ?_
    rintro e w2 ⟨rfl, hb⟩
    have HB2 := keep (HB1.out.trans (hb.mono HB1.out.size))
    have HX2 := keep (HX1.out.to hb)
    obtain ⟨hc0, hc1, hcl, _, _⟩ := HX2.out
    clear hb
    go_wp2_with fail
    refine (HM.out _).mono ?_
    rintro e w3 ⟨rfl, hb⟩
    have HB3 := keep ((HB2.out.alloc HB2.out.size _).trans (hb.mono (by have := HB2.out.size; simp; omega)))
    clear hb hc0 hc1 hcl
    go_wp2_with fail
    refine (HPK.out _).mono ?_
    rintro e w4 ⟨rfl, hb⟩
    have HB4 := keep ((HB3.out.alloc HB3.out.size _).trans (hb.mono (by have := HB3.out.size; simp; omega)))
    clear hb
    go_wp2_with fail
    refine (live_any _).mono ?_
    rintro e w5 ⟨rfl, hb⟩
    have HB5 := keep (HB4.out.trans (hb.mono HB4.out.size))
    clear hb
    go_wp2_with fail
    go_ret
    exact ⟨rfl, HB5.out⟩
  · obtain rfl : E = 0 := by omega
    have hbt := beq_yes hp2
    have hn2 : (n2 : Int) ≤ (b.size : Int) := by omega
    clear hk hE hn hp2
    go_enter Try.func6, Try.ntmps6
    go_wp2_with fail
    refine (HP.out _).mono ?_
    rintro e w1 ⟨rfl, hb⟩
    have HB1 := keep (((Below.refl _ w).alloc (Nat.le_refl _) _).trans (hb.mono (by simp)))
    have HX1 := keep (HX.out.to hb)
    clear hb
    go_wp2_with fail
    refine (HN.out _).mono ?_
    rintro e w2 ⟨rfl, hb⟩
    have HB2 := keep (HB1.out.trans (hb.mono HB1.out.size))
    have HX2 := keep (HX1.out.to hb)
    obtain ⟨hc0, hc1, hcl, _, _⟩ := HX2.out
    clear hb
    go_wp2_with fail
    refine (HM.out _).mono ?_
    rintro e w3 ⟨rfl, hb⟩
    have HB3 := keep ((HB2.out.alloc HB2.out.size _).trans (hb.mono (by have := HB2.out.size; simp; omega)))
    clear hb hc0 hc1 hcl
    go_wp2_with fail
    refine (HPK.out _).mono ?_
    rintro e w4 ⟨rfl, hb⟩
    have HB4 := keep ((HB3.out.alloc HB3.out.size _).trans (hb.mono (by have := HB3.out.size; simp; omega)))
    clear hb
    go_wp2_with fail
    refine (live_any _).mono ?_
    rintro e w5 ⟨rfl, hb⟩
    have HB5 := keep (HB4.out.trans (hb.mono HB4.out.size))
    clear hb
    go_wp2_with fail
    go_ret
    exact ⟨rfl, HB5.out⟩

theorem walk (a : ByteArray) (f : Fr) (b : ByteArray) (w : World) (_ : a.size ≤ maxLen) (_ : f.S.size ≤ 9223372036854775807) (_ : b.size ≤ maxLen) :
    Calls Try.prog 6 #[.string a, f.agg, .string b] w fun e w' => e = .returned (.bool true) ∧ Below w.heap.size w w' := by
  by_cases h : 300 < a.size ∨ 300 < f.S.size ∨ 300 < b.size
  · exact walk_long a b f w h
  · by_cases hk : f.K < 0 ∨ 255 < f.K
    · exact walk_bad a b f w (by omega) (by omega) (by omega) hk
    · exact walk_ok a b f w (by omega) (by omega) (by omega) ⟨by omega, by omega, by omega⟩
theorem own : ownKnob Try.prog.godebug = none := by kernel_rfl
theorem laid : laidOutB Try.prog = true := by kernel_rfl

set_option maxRecDepth 100000 in
theorem lifted (os : Os) (started : os.Started) (H : Type) (enc : TypeId × Value → H) :
    ReturnsInHanded {} Try.checked os 6 .any (Rows.frameBackSpec.pre6 enc Try.prog Try.f6 Rows.frameBackRow.domain false) (Rows.frameBackSpec.post enc Try.prog Try.f6 false true false false) := by
  refine returnsInHanded_of_change (C := Try.checked) own started (by kernel_rfl) Try.func6
    (ChangeSpec.witness6 (enc := enc) (C := Try.checked) false ⟨#[], #[.string ByteArray.empty, .agg #[.int .i64 0, .string ByteArray.empty], .string ByteArray.empty], []⟩ 8 (by kernel_rfl) (by kernel_rfl) (by kernel_rfl) (by kernel_rfl)) ?_
  intro W base args ds gs before hval0 hW hcnd _
  have hval : ∀ (j : Nat) t v, Try.f6.params[j]? = some t → args[j]? = some v → Value.okWide Try.prog W .any base t v := hval0
  have hW' := hW
  obtain ⟨p, q, hA0, hV, rfl, hfz, hnd⟩ := hW
  have hA : DataW.TrodAll enc Try.prog W 0 (fun _ => true) true Try.f6.params.toList args.toList ds p := hA0
  rw [Try.params6] at hA hval
  obtain ⟨v0, vs0, d0, ds0, p0, q0, hargs, rfl, rfl, h0, r0⟩ := trodAll_cons hA
  obtain ⟨v1, vs1, d1, ds1, p1, q1, rfl, rfl, rfl, h1, r1⟩ := trodAll_cons r0
  obtain ⟨v2, vs2, d2, ds2, p2, q2, rfl, rfl, rfl, h2, r2⟩ := trodAll_cons r1
  obtain ⟨rfl, rfl, rfl⟩ := trodAll_nil r2
  obtain rfl : args = #[v0, v1, v2] := by cases args; simp_all
  obtain ⟨rfl, rfl⟩ := trodVars_none hV
  obtain ⟨a0, rfl, rfl, rfl, w0⟩ := open_string Try.underlying9 (hval 0 9 v0 rfl rfl) h0
  obtain ⟨a1, e1, w1⟩ := fr_of (enc := enc) h1 (hval 1 23 v1 rfl rfl)
  subst e1
  obtain ⟨a2, rfl, rfl, rfl, w2⟩ := open_string Try.underlying9 (hval 2 9 v2 rfl rfl) h2
  clear hA0 hval0
  simp only [List.append_nil] at hW'
  have hlt1 : ∀ x ∈ p1, x.block < W.heap.size := fun x hx => by
    have := hW'.lt x (by simp [hx])
    simpa using this
  refine (walk a0 a1 a2 W w0 w1 w2).mono fun e W' ⟨he, hg⟩ => ?_
  subst he
  exact ⟨_, rfl, _, _, _, [], _, [], hW', (trodAll_cons_mk (shut_bool Try.underlying4 _) trodAll_mk0), (trodAll_cons_mk (shut_string Try.underlying9 w0) (trodAll_cons_mk (Below.trod laid (by kernel_rfl) (of_decide_eq_true (by kernel_rfl)) h1 hg hlt1) (trodAll_cons_mk (shut_string Try.underlying9 w2) trodAll_mk0))), rfl, hg.frame _, fun h => by cases h⟩

theorem over : Rows.frameBackRow.holds Try.pinned (OpenSpec.ofChange Rows.frameBackSpec) :=
  OpenClaim.holds_of_wide 6 Try.f6 rfl rfl rfl rfl rfl rfl rfl ⟨rfl, rfl, rfl, rfl, rfl⟩ rfl rfl rfl rfl rfl (by kernel_rfl) Try.func6 (by kernel_rfl)
    (of_decide_eq_true (by kernel_rfl)) (by unfold Func.isWrapper; first | (rw [if_pos (by decide +kernel)]; kernel_rfl) | (rw [if_neg (by decide +kernel)]; exact ⟨rfl, rfl⟩))
    (fun os started H enc _ => lifted os started H enc)

/-- The statement. -/
theorem proved : Rows.FrameBackSaid :=
  over
#print axioms proved
end Go.Proofs.Ytghgahcgbnpidaa.frameBack
