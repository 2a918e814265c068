/-
  Frames' bytes that are cut off, or in which bits are turned: plain mathematics.
-/
import Derived.Test.YtghgahcgbnpidaaFrameF
import Derived.Test.YtghgahcgbnpidaaFrameE
namespace Go.Proofs.Ytghgahcgbnpidaa
open Go.RowKit

theorem cat_split (fs : List Fr) {k : Nat} (h : k < fs.length) : cat fs = cat (fs.take k) ++ (frB fs[k] ++ cat (fs.drop (k + 1))) := by
  have e : fs = fs.take k ++ (fs[k] :: fs.drop (k + 1)) := by
    rw [← List.drop_eq_getElem_cons h, List.take_append_drop]
  have := congrArg cat e
  rw [cat_append] at this
  exact this
theorem cat_halves (fs : List Fr) (k : Nat) : cat fs = cat (fs.take k) ++ cat (fs.drop k) := by
  rw [← cat_append, List.take_append_drop]

/-- What is told of a text stands at that place: another frame that stands there too is as long. -/
theorem nx_same {s : ByteArray} {a n : Nat} {g : Fr} (ha : a ≤ s.size) (h : nx s a = (g, n, 0)) {A B : List UInt8} (hA : A.length = a) (t : ByteArray) (ht : t.data.toList = A ++ ((s.data.toList.drop a).take (ln g) ++ B)) : nx t a = (g, a + ln g, 0) := by
  obtain ⟨hok, _, _, h3⟩ := nx_ok ha h
  rw [h3] at ht
  have := nx_put hok ht
  rw [hA] at this
  exact this

theorem cut_whole (fs : List Fr) (hok : ∀ f ∈ fs, f.ok) (k cut : Nat) (h1 : k ≤ fs.length) (h2 : pl fs k ≤ cut) (h3 : cut ≤ (cat fs).length) (h4 : k = fs.length ∨ cut < pl fs (k + 1)) :
    Whole ((str (cat fs)).extract 0 cut) (zp 0 (fs.take k)) (pl fs k) := by
  have et : (str (cat fs)).extract 0 cut = str ((cat fs).take cut) := str_upto _ _
  have hz : (str ((cat fs).take cut)).size = cut := by rw [str_size, List.length_take]; omega
  have hpl : (cat (fs.take k)).length = pl fs k := rfl
  rw [et]
  refine ⟨?_, by omega, ?_⟩
  · have e : (str ((cat fs).take cut)).data.toList = [] ++ (cat (fs.take k) ++ (cat (fs.drop k)).take (cut - pl fs k)) := by
      rw [str_data, cat_halves fs k, List.take_append, List.take_of_length_le (by omega), hpl]; rfl
    have := runs_cat (fs.take k) [] _ (fun f hf => hok f (List.mem_of_mem_take hf)) e
    rw [hpl] at this
    simpa using this
  · intro hc
    obtain ⟨g, n, e⟩ : ∃ g n, nx (str ((cat fs).take cut)) (pl fs k) = (g, n, 0) := ⟨_, _, Prod.ext rfl (Prod.ext rfl hc)⟩
    obtain ⟨_, hn, hle, _⟩ := nx_ok (by omega) e
    have hb := ln_bd g
    rcases h4 with h4 | h4
    · subst h4
      rw [pl_all] at h2 hn
      omega
    · have hk : k < fs.length := by
        rcases Nat.lt_or_ge k fs.length with h | h
        · exact h
        · have : k = fs.length := by omega
          subst this
          rw [pl_all] at hn
          omega
      have hf : nx (str (cat fs)) (pl fs k) = (fs[k], pl fs k + ln fs[k], 0) := by
        have := nx_put (s := str (cat fs)) (hok _ (List.getElem_mem hk)) (cat_split fs hk)
        rw [hpl] at this
        exact this
      have hg : nx (str (cat fs)) (pl fs k) = (g, pl fs k + ln g, 0) := by
        refine nx_same (by omega) e (A := cat (fs.take k)) hpl (B := (cat fs).drop (pl fs k + ln g)) (str (cat fs)) ?_
        rw [str_data, str_data, List.drop_take, List.take_take]
        have e1 : min (ln g) (cut - pl fs k) = ln g := by omega
        rw [e1]
        have e2 : cat (fs.take k) = (cat fs).take (pl fs k) := by
          conv => rhs; rw [cat_halves fs k]
          exact (List.take_left' hpl).symm
        rw [e2]
        conv => lhs; rw [← List.take_append_drop (pl fs k) (cat fs)]
        congr 1
        rw [← List.drop_drop, List.take_append_drop]
      rw [hf] at hg
      have hlen : pl fs k + ln fs[k] = pl fs k + ln g := (Prod.mk.inj (Prod.mk.inj hg).2).1
      rw [pl_succ fs hk] at h4
      omega

theorem zp_take (fs : List Fr) (k : Nat) : (zp 0 (fs.take k)).map (·.2) = fs.take k := zp_snd 0 _
theorem lastE_end {s : ByteArray} {e : Nat} (h : e = s.size) : lastE s e = 0 := by unfold lastE; rw [if_pos h]
theorem lastE_mid {s : ByteArray} {xs : List (Nat × Fr)} {e : Nat} (h : Whole s xs e) (hne : e ≠ s.size) : lastE s e ≠ 0 := by unfold lastE; rw [if_neg hne]; exact h.last

/-! ### Bits turned -/
/-- The bytes ahead of a frame's data. -/
def hr (f : Fr) : List UInt8 := UInt8.ofNat f.K.toNat :: num f.S.size
/-- Its data and its sum. -/
def sg (f : Fr) : List UInt8 := f.S.data.toList ++ bytes4 (sumN (hd f))
theorem frB_hr (f : Fr) : frB f = hr f ++ sg f := by unfold frB hr sg hd; simp
theorem sg_len (f : Fr) : (sg f).length = f.S.size + 4 := by unfold sg; rw [List.length_append, ← size_list]; rfl
theorem hr_len (f : Fr) : (hr f).length + (f.S.size + 4) = ln f := by unfold hr ln; rw [List.length_cons]; omega

theorem nx_turned {s : ByteArray} {A B t : List UInt8} {f : Fr} (hf : f.ok) (hl : t.length = f.S.size + 4) (hs : s.data.toList = A ++ (hr f ++ t ++ B)) (hns : ¬ isSealed (hr f ++ t)) : nx s A.length = (zf, 0, 4) := by
  have hh := hr_len f
  have hb := ln_bd f
  have hz : s.size = A.length + ln f + B.length := by rw [size_list, hs, List.length_append, List.length_append, List.length_append]; omega
  obtain ⟨k0, k1, k2⟩ := hf
  have hln : (hr f).length = 1 + (num f.S.size).length := by unfold hr; rw [List.length_cons]; omega
  have hg : getV s (A.length + 1) = (f.S.size, A.length + 1 + (num f.S.size).length, 0) := by
    refine getV_ok ?_
    have e : s.data.toList.drop (A.length + 1) = num f.S.size ++ (t ++ B) := by
      rw [hs, ← List.drop_drop, List.drop_append_of_le_length (Nat.le_refl _), List.drop_length]
      unfold hr
      simp
    rw [e]
    exact getL_put (by omega) _
  have dA : s.data.toList.drop A.length = hr f ++ t ++ B := by rw [hs, List.drop_append_of_le_length (Nat.le_refl _), List.drop_length, List.nil_append]
  have hul : (hr f ++ t).length = ln f := by rw [List.length_append]; omega
  have e1 : A.length + 1 + (num f.S.size).length + f.S.size = A.length + (ln f - 4) := by omega
  have e2 : A.length + (ln f - 4) + 4 = A.length + ln f := by omega
  have x1 : s.extract A.length (A.length + (ln f - 4)) = str ((hr f ++ t).take (ln f - 4)) := by
    rw [extract_is, dA, Nat.add_sub_cancel_left, List.take_append_of_le_length (by omega)]
  have x2 : s.extract (A.length + (ln f - 4)) (A.length + ln f) = str ((hr f ++ t).drop (ln f - 4)) := by
    rw [extract_is, ← List.drop_drop, dA, show A.length + ln f - (A.length + (ln f - 4)) = 4 by omega, List.drop_append_of_le_length (by omega), List.take_append_of_le_length (by rw [List.length_drop]; omega), List.take_of_length_le (by rw [List.length_drop]; omega)]
  unfold nx
  rw [if_neg (by omega), hg]
  unfold rest
  simp only [ne_eq, not_true_eq_false, if_false]
  rw [if_neg (by omega), e1, e2, if_neg (by omega), x2, x1, if_neg]
  intro c
  apply hns
  unfold isSealed
  rw [hul]
  have := congrArg (fun x : ByteArray => x.data.toList) c
  rw [str_data] at this
  rw [this]
  unfold seal4 sumI
  rw [Int.toNat_natCast, str_data]

theorem turned_sealed {f : Fr} {t : List UInt8} {a F : Nat} (hl : t.length = (sg f).length) (hv : val t = val (sg f) ^^^ 2 ^ a * F) (hF : F < 4294967296) : isSealed (hr f ++ t) ↔ t = sg f := by
  have e : hr f ++ sg f = hd f ++ bytes4 (sumN (hd f)) := by rw [← frB_hr]; rfl
  have h := isSealed_same (s := hd f) (u := hr f ++ t) (k := 8 * (hr f).length + a) (F := F) (by rw [← e, List.length_append, List.length_append, hl]) (by
    rw [← e, val_append, val_append, hv, mul_xor, Nat.pow_add, Nat.mul_assoc, Nat.xor_assoc]) hF
  rw [h, ← e]
  constructor
  · exact fun c => List.append_cancel_left c
  · intro c; rw [c]

theorem burst_whole (fs : List Fr) (hok : ∀ f ∈ fs, f.ok) (k : Nat) (h : k < fs.length) (t : List UInt8) {a F : Nat} (hl : t.length = (sg fs[k]).length) (hv : val t = val (sg fs[k]) ^^^ 2 ^ a * F) (hF : F < 4294967296) (hne : t ≠ sg fs[k]) (s : ByteArray)
    (hs : s.data.toList = cat (fs.take k) ++ (hr fs[k] ++ t ++ cat (fs.drop (k + 1)))) : Whole s (zp 0 (fs.take k)) (pl fs k) ∧ lastE s (pl fs k) = 4 := by
  have hns : ¬ isSealed (hr fs[k] ++ t) := fun c => hne ((turned_sealed hl hv hF).1 c)
  have hpl : (cat (fs.take k)).length = pl fs k := rfl
  have hn := nx_turned (hok _ (List.getElem_mem h)) (by rw [hl, sg_len]) hs hns
  rw [hpl] at hn
  have hh := hr_len fs[k]
  have hb := ln_bd fs[k]
  have hz : s.size = pl fs k + (((hr fs[k]).length + t.length) + (cat (fs.drop (k + 1))).length) := by rw [size_list, hs, List.length_append, List.length_append, List.length_append, hpl]
  rw [sg_len] at hl
  have hrun := runs_cat (s := s) (fs.take k) [] (hr fs[k] ++ t ++ cat (fs.drop (k + 1))) (fun f hf => hok f (List.mem_of_mem_take hf)) hs
  rw [hpl] at hrun
  refine ⟨⟨by simpa using hrun, by omega, by rw [hn]; simp⟩, ?_⟩
  unfold lastE
  rw [if_neg (by omega), hn]

/-- The text around a frame's data and sum. -/
theorem parts_at (fs : List Fr) (k : Nat) (h : k < fs.length) :
    (str (cat fs)).extract 0 (pl fs k + (hr fs[k]).length) = str (cat (fs.take k) ++ hr fs[k]) ∧
    (str (cat fs)).extract (pl fs k + (hr fs[k]).length) (pl fs (k + 1)) = str (sg fs[k]) ∧
    (str (cat fs)).extract (pl fs (k + 1)) (str (cat fs)).size = str (cat (fs.drop (k + 1))) ∧
    pl fs (k + 1) = pl fs k + (hr fs[k]).length + (fs[k].S.size + 4) ∧ pl fs (k + 1) ≤ (cat fs).length := by
  have hpl : (cat (fs.take k)).length = pl fs k := rfl
  have hh := hr_len fs[k]
  have hs := pl_succ fs h
  have hle : pl fs (k + 1) ≤ (cat fs).length := pl_le
  have hc : cat fs = (cat (fs.take k) ++ hr fs[k]) ++ (sg fs[k] ++ cat (fs.drop (k + 1))) := by
    rw [cat_split fs h, frB_hr]; simp
  have hc2 : cat fs = cat (fs.take (k + 1)) ++ cat (fs.drop (k + 1)) := cat_halves fs (k + 1)
  have hl1 : (cat (fs.take k) ++ hr fs[k]).length = pl fs k + (hr fs[k]).length := by rw [List.length_append, hpl]
  have hl2 : (cat (fs.take (k + 1))).length = pl fs (k + 1) := rfl
  refine ⟨?_, ?_, ?_, by omega, hle⟩
  · rw [str_upto]
    congr 1
    conv => lhs; rw [hc]
    exact List.take_left' hl1
  · rw [extract_is, str_data]
    congr 1
    conv => lhs; rw [hc]
    rw [List.drop_left' hl1]
    exact List.take_left' (by rw [sg_len]; omega)
  · rw [str_from]
    congr 1
    conv => lhs; rw [hc2]
    exact List.drop_left' hl2

theorem all_whole (fs : List Fr) (hok : ∀ f ∈ fs, f.ok) : Whole (str (cat fs)) (zp 0 fs) (cat fs).length ∧ lastE (str (cat fs)) (cat fs).length = 0 := by
  have h := cut_whole fs hok fs.length (cat fs).length (Nat.le_refl _) (by rw [pl_all]; exact Nat.le_refl _) (Nat.le_refl _) (.inl rfl)
  rw [List.take_length, pl_all, str_upto, List.take_length] at h
  exact ⟨h, lastE_end (str_size _).symm⟩
end Go.Proofs.Ytghgahcgbnpidaa
