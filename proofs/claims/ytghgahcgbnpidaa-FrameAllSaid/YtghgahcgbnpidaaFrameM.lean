/-
  Frames as plain mathematics: their bytes, what stands at a place of bytes, frames one behind the other.
-/
import Derived.Test.YtghgahcgbnpidaaStr
import Derived.Test.YtghgahcgbnpidaaVintI
import Derived.Test.YtghgahcgbnpidaaCrcG
namespace Go.Proofs.Ytghgahcgbnpidaa
open Go.RowKit

/-- A frame: its kind, its data. -/
structure Fr where
  K : Int
  S : ByteArray

def zf : Fr := ⟨0, ⟨#[]⟩⟩
def Fr.agg (f : Fr) : Value := .agg #[.int .i64 f.K, .string f.S]
/-- May it be? -/
def Fr.ok (f : Fr) : Prop := 0 ≤ f.K ∧ f.K ≤ 255 ∧ f.S.size ≤ 1048576

/-- The bytes that are summed. -/
def hd (f : Fr) : List UInt8 := UInt8.ofNat f.K.toNat :: (num f.S.size ++ f.S.data.toList)
/-- A frame's bytes. -/
def frB (f : Fr) : List UInt8 := hd f ++ bytes4 (sumN (hd f))
/-- How many these are. -/
def ln (f : Fr) : Nat := 1 + (num f.S.size).length + f.S.size + 4
theorem hd_len (f : Fr) : (hd f).length = 1 + (num f.S.size).length + f.S.size := by
  unfold hd; rw [List.length_cons, List.length_append, ← size_list]; omega
theorem frB_len (f : Fr) : (frB f).length = ln f := by
  unfold frB ln; rw [List.length_append, hd_len]; rfl
theorem ln_bd (f : Fr) : f.S.size + 6 ≤ ln f ∧ ln f ≤ f.S.size + 16 := by
  unfold ln; have := num_len f.S.size; omega

/-- What is at a place within the text: the frame, the place behind it, what is wrong. -/
def rest (s : ByteArray) (a : Nat) (g : Nat × Nat × Nat) : Fr × Nat × Nat :=
  if g.2.2 ≠ 0 then (zf, 0, g.2.2)
  else if 1048576 < g.1 then (zf, 0, 5)
  else if s.size < g.2.1 + g.1 + 4 then (zf, 0, 2)
  else if s.extract (g.2.1 + g.1) (g.2.1 + g.1 + 4) = seal4 (sumI (s.extract a (g.2.1 + g.1))) then (⟨bt s a, s.extract g.2.1 (g.2.1 + g.1)⟩, g.2.1 + g.1 + 4, 0)
  else (zf, 0, 4)
def nx (s : ByteArray) (a : Nat) : Fr × Nat × Nat := if a = s.size then (zf, 0, 2) else rest s a (getV s (a + 1))
/-- .. at whatever place. -/
def nxI (s : ByteArray) (at_ : Int) : Fr × Nat × Nat := if 0 ≤ at_ ∧ at_ ≤ s.size then nx s at_.toNat else (zf, 0, 1)
theorem nxI_in {s : ByteArray} {a : Nat} (h : a ≤ s.size) : nxI s a = nx s a := by
  unfold nxI; rw [if_pos ⟨by omega, by omega⟩, Int.toNat_natCast]
theorem nxI_out {s : ByteArray} {at_ : Int} (h : at_ < 0 ∨ s.size < at_) : nxI s at_ = (zf, 0, 1) := by
  unfold nxI; rw [if_neg (by omega)]

/-! ### What is told, was put -/
theorem getV_cases (s : ByteArray) (a : Nat) (ha : a ≤ s.size) : ((getV s a).2.2 = 0 ∧ num (getV s a).1 = (s.data.toList.drop a).take ((getV s a).2.1 - a) ∧ a < (getV s a).2.1 ∧ (getV s a).2.1 ≤ s.size ∧ (getV s a).2.1 = a + (num (getV s a).1).length ∧ (getV s a).1 < 18446744073709551616) ∨ (getV s a = (0, 0, (getV s a).2.2) ∧ (getV s a).2.2 ≠ 0) := by
  by_cases h : (getL (s.data.toList.drop a) 0 0).2.2 = 0
  · left
    obtain ⟨u, c, e⟩ : ∃ u c, getL (s.data.toList.drop a) 0 0 = (u, c, 0) := ⟨_, _, Prod.ext rfl (Prod.ext rfl h)⟩
    rw [getV_ok e]
    obtain ⟨h1, h2⟩ := getL_again e
    have hl := num_len u
    have h3 : (num u).length = c := by rw [h1, List.length_take]; omega
    rw [List.length_drop, ← size_list] at h2
    refine ⟨rfl, ?_, ?_, ?_, ?_, ?_⟩
    · show num u = (s.data.toList.drop a).take (a + c - a)
      rw [Nat.add_sub_cancel_left]; exact h1
    · show a < a + c; omega
    · show a + c ≤ s.size; omega
    · show a + c = a + (num u).length; omega
    · have := getV_bd s a; rw [getV_ok e] at this; exact this
  · right
    unfold getV
    rw [if_neg h]
    exact ⟨rfl, h⟩

theorem drop_three (l : List UInt8) {a b c : Nat} (h1 : a ≤ b) (h2 : b ≤ c) : (l.drop a).take (c - a) = (l.drop a).take (b - a) ++ (l.drop b).take (c - b) := by
  have e : c - a = (b - a) + (c - b) := by omega
  rw [e, List.take_add, List.drop_drop, show a + (b - a) = b by omega]

theorem nx_ok {s : ByteArray} {a n : Nat} {f : Fr} (ha : a ≤ s.size) (h : nx s a = (f, n, 0)) : f.ok ∧ n = a + ln f ∧ n ≤ s.size ∧ (s.data.toList.drop a).take (ln f) = frB f := by
  unfold nx at h
  split at h
  · simp at h
  · rename_i hne
    have hlt : a < s.size := by omega
    rcases getV_cases s (a + 1) (by omega) with ⟨h0, h1, h2, h3, h4, h5⟩ | ⟨_, h0⟩
    · generalize getV s (a + 1) = g at *
      obtain ⟨u, m, er⟩ := g
      simp only at h0 h1 h2 h3 h4 h5
      subst h0
      unfold rest at h
      simp only [ne_eq, not_true_eq_false, if_false] at h
      split at h
      · simp at h
      · rename_i hu
        split at h
        · simp at h
        · rename_i hz
          split at h
          · rename_i hs
            simp only [Prod.mk.injEq, and_true] at h
            obtain ⟨rfl, rfl⟩ := h
            have hb := bt_bd s a
            have hsz : (s.extract m (m + u)).size = u := by rw [ByteArray.size_extract]; omega
            obtain ⟨b, eb, ebt⟩ := drop_bt s hlt
            have ehd : hd ⟨bt s a, s.extract m (m + u)⟩ = (s.data.toList.drop a).take (m + u - a) := by
              unfold hd
              rw [drop_three s.data.toList (show a ≤ a + 1 by omega) (show a + 1 ≤ m + u by omega), drop_three s.data.toList (show a + 1 ≤ m by omega) (show m ≤ m + u by omega)]
              simp only [hsz]
              rw [h1, extract_list, eb, show a + 1 - a = 1 by omega, List.take_succ_cons, List.take_zero]
              have : UInt8.ofNat (bt s a).toNat = b := by apply UInt8.toNat_inj.1; rw [UInt8.toNat_ofNat']; have := b.toNat_lt; omega
              rw [this]; rfl
            refine ⟨⟨hb.1, hb.2, by rw [hsz]; omega⟩, ?_, by omega, ?_⟩
            · unfold ln; simp only [hsz]; omega
            · have eln : ln ⟨bt s a, s.extract m (m + u)⟩ = m + u + 4 - a := by unfold ln; simp only [hsz]; omega
              unfold frB
              rw [eln, drop_three s.data.toList (show a ≤ m + u by omega) (show m + u ≤ m + u + 4 by omega), ← ehd]
              congr 1
              have e2 := congrArg (fun x : ByteArray => x.data.toList) hs
              rw [extract_list] at e2
              rw [e2]
              unfold seal4 sumI
              rw [Int.toNat_natCast, extract_list, ← ehd]
          · simp at h
    · unfold rest at h
      rw [if_pos h0] at h
      simp only [Prod.mk.injEq] at h
      exact absurd h.2.2 h0

/-! ### What was put, is told -/
theorem nx_put {s : ByteArray} {A B : List UInt8} {f : Fr} (hf : f.ok) (hs : s.data.toList = A ++ (frB f ++ B)) : nx s A.length = (f, A.length + ln f, 0) := by
  have hz : s.size = A.length + ln f + B.length := by rw [size_list, hs, List.length_append, List.length_append, frB_len]; omega
  have hb := ln_bd f
  obtain ⟨k0, k1, k2⟩ := hf
  have hg : getV s (A.length + 1) = (f.S.size, A.length + 1 + (num f.S.size).length, 0) := by
    refine getV_ok ?_
    have e : s.data.toList.drop (A.length + 1) = num f.S.size ++ (f.S.data.toList ++ bytes4 (sumN (hd f)) ++ B) := by
      rw [hs, ← List.drop_drop, List.drop_append_of_le_length (Nat.le_refl _), List.drop_length]
      unfold frB hd
      simp
    rw [e]
    exact getL_put (by omega) _
  have e1 : A.length + 1 + (num f.S.size).length + f.S.size = A.length + (hd f).length := by rw [hd_len]; omega
  have e2 : A.length + 1 + (num f.S.size).length + f.S.size + 4 = A.length + ln f := by unfold ln; omega
  have dA : s.data.toList.drop A.length = frB f ++ B := by rw [hs, List.drop_append_of_le_length (by omega)]; simp
  have x1 : s.extract A.length (A.length + (hd f).length) = str (hd f) := by
    rw [extract_is, dA, Nat.add_sub_cancel_left]
    unfold frB
    rw [List.append_assoc, List.take_append_of_le_length (by omega), List.take_of_length_le (by omega)]
  have x2 : s.extract (A.length + (hd f).length) (A.length + (hd f).length + 4) = seal4 (sumI (str (hd f))) := by
    rw [extract_is, ← List.drop_drop, dA, Nat.add_sub_cancel_left]
    unfold frB
    rw [List.append_assoc, List.drop_append_of_le_length (by omega), List.drop_eq_nil_of_le (by omega), List.nil_append, List.take_append_of_le_length (by simp [bytes4]), List.take_of_length_le (by simp [bytes4])]
    unfold seal4 sumI str
    rw [Int.toNat_natCast]
  have x3 : s.extract (A.length + 1 + (num f.S.size).length) (A.length + (hd f).length) = f.S := by
    rw [extract_is]
    have e : s.data.toList.drop (A.length + 1 + (num f.S.size).length) = f.S.data.toList ++ bytes4 (sumN (hd f)) ++ B := by
      rw [Nat.add_assoc, ← List.drop_drop, dA]
      unfold frB hd
      rw [Nat.add_comm 1, List.cons_append, List.cons_append, List.drop_succ_cons, List.append_assoc, List.append_assoc, List.drop_append_of_le_length (by omega), List.drop_eq_nil_of_le (by omega), List.nil_append, List.append_assoc]
    rw [e, hd_len, show A.length + (1 + (num f.S.size).length + f.S.size) - (A.length + 1 + (num f.S.size).length) = f.S.data.toList.length by rw [← size_list]; omega, List.append_assoc, List.take_append_of_le_length (by omega), List.take_of_length_le (by omega), str_eta]
  have x4 : bt s A.length = f.K := by
    obtain ⟨b, eb, ebt⟩ := drop_bt s (n := A.length) (by omega)
    rw [← ebt]
    rw [dA] at eb
    unfold frB hd at eb
    rw [List.cons_append, List.cons_append] at eb
    obtain ⟨e, _⟩ := List.cons.inj eb
    rw [← e, UInt8.toNat_ofNat']
    omega
  unfold nx
  rw [if_neg (by omega), hg]
  unfold rest
  simp only [ne_eq, not_true_eq_false, if_false]
  rw [if_neg (by omega), e2, if_neg (by omega), e1, ← e2, e1, x2, x1, if_pos rfl, x3, x4]

/-! ### One behind the other -/
/-- These stand in s from a on, as far as e. -/
def runs (s : ByteArray) : Nat → List (Nat × Fr) → Nat → Prop
  | a, [], e => a = e
  | a, x :: r, e => x.1 = a ∧ ∃ n, nx s a = (x.2, n, 0) ∧ runs s n r e
/-- These are all. -/
structure Whole (s : ByteArray) (xs : List (Nat × Fr)) (e : Nat) : Prop where
  run : runs s 0 xs e
  le : e ≤ s.size
  last : (nx s e).2.2 ≠ 0

theorem runs_ex (s : ByteArray) : ∀ (m a : Nat), s.size - a ≤ m → a ≤ s.size → ∃ xs e, runs s a xs e ∧ e ≤ s.size ∧ (nx s e).2.2 ≠ 0 := by
  intro m
  induction m with
  | zero =>
    intro a hm ha
    have : a = s.size := by omega
    exact ⟨[], a, rfl, ha, by unfold nx; rw [if_pos this]; simp⟩
  | succ m ih =>
    intro a hm ha
    by_cases h : (nx s a).2.2 = 0
    · have e : nx s a = ((nx s a).1, (nx s a).2.1, 0) := Prod.ext rfl (Prod.ext rfl h)
      obtain ⟨_, h1, h2, _⟩ := nx_ok ha e
      have hb := ln_bd (nx s a).1
      obtain ⟨xs, e', hr, hle, hl⟩ := ih (nx s a).2.1 (by omega) h2
      exact ⟨(a, (nx s a).1) :: xs, e', ⟨rfl, _, e, hr⟩, hle, hl⟩
    · exact ⟨[], a, rfl, ha, h⟩
theorem whole_ex (s : ByteArray) : ∃ xs e, Whole s xs e := by
  obtain ⟨xs, e, h1, h2, h3⟩ := runs_ex s s.size 0 (by omega) (by omega)
  exact ⟨xs, e, h1, h2, h3⟩
theorem runs_le {s : ByteArray} : ∀ {a : Nat} {xs : List (Nat × Fr)} {e : Nat}, runs s a xs e → a ≤ s.size → a ≤ e ∧ e ≤ s.size ∧ 6 * xs.length + a ≤ e
  | a, [], e, h, ha => by obtain rfl : a = e := h; simp; exact ha
  | a, x :: r, e, h, ha => by
    obtain ⟨_, n, hn, hr⟩ := h
    obtain ⟨_, h1, h2, _⟩ := nx_ok ha hn
    have hb := ln_bd x.2
    have := runs_le hr h2
    simp only [List.length_cons]; omega
theorem runs_snoc {s : ByteArray} : ∀ {a : Nat} {xs : List (Nat × Fr)} {e n : Nat} {f : Fr}, runs s a xs e → nx s e = (f, n, 0) → runs s a (xs ++ [(e, f)]) n
  | a, [], e, n, f, h, hn => by obtain rfl : a = e := h; exact ⟨rfl, n, hn, rfl⟩
  | a, x :: r, e, n, f, ⟨h1, m, h2, h3⟩, hn => ⟨h1, m, h2, runs_snoc h3 hn⟩

/-- The bytes of frames. -/
def cat : List Fr → List UInt8
  | [] => []
  | f :: r => frB f ++ cat r
theorem cat_append (a b : List Fr) : cat (a ++ b) = cat a ++ cat b := by
  induction a with
  | nil => rfl
  | cons x a ih => show frB x ++ cat (a ++ b) = _; rw [ih, ← List.append_assoc]; rfl
/-- Where frame k begins. -/
def pl (l : List Fr) (k : Nat) : Nat := (cat (l.take k)).length
theorem pl_zero (l : List Fr) : pl l 0 = 0 := rfl
theorem pl_succ (l : List Fr) {k : Nat} (h : k < l.length) : pl l (k + 1) = pl l k + ln l[k] := by
  unfold pl; rw [List.take_succ_eq_append_getElem h, cat_append, List.length_append]; simp [cat, frB_len]
theorem pl_all (l : List Fr) : pl l l.length = (cat l).length := by unfold pl; rw [List.take_length]

/-- Frames with the places where they begin. -/
def zp : Nat → List Fr → List (Nat × Fr)
  | _, [] => []
  | a, f :: r => (a, f) :: zp (a + ln f) r
theorem zp_snd : ∀ (a : Nat) (l : List Fr), (zp a l).map (·.2) = l
  | _, [] => rfl
  | a, f :: r => by show f :: (zp (a + ln f) r).map (·.2) = _; rw [zp_snd]
theorem zp_len (a : Nat) (l : List Fr) : (zp a l).length = l.length := by
  have := congrArg List.length (zp_snd a l); simpa using this
theorem runs_zp {s : ByteArray} : ∀ {a : Nat} {xs : List (Nat × Fr)} {e : Nat}, runs s a xs e → a ≤ s.size → xs = zp a (xs.map (·.2)) ∧ e = a + (cat (xs.map (·.2))).length ∧ (s.data.toList.drop a).take (e - a) = cat (xs.map (·.2)) ∧ ∀ f ∈ xs.map (·.2), f.ok
  | a, [], e, h, ha => by obtain rfl : a = e := h; simp [zp, cat]
  | a, x :: r, e, h, ha => by
    obtain ⟨hx, n, hn, hr⟩ := h
    obtain ⟨hok, h1, h2, h3⟩ := nx_ok ha hn
    obtain ⟨i1, i2, i3, i4⟩ := runs_zp hr h2
    have hle := runs_le hr h2
    refine ⟨?_, ?_, ?_, ?_⟩
    · show x :: r = (a, x.2) :: zp (a + ln x.2) (r.map (·.2))
      rw [← h1, ← i1, ← hx]
    · show e = a + (frB x.2 ++ cat (r.map (·.2))).length
      rw [List.length_append, frB_len]; omega
    · show _ = frB x.2 ++ cat (r.map (·.2))
      rw [drop_three s.data.toList (show a ≤ n by omega) hle.1, i3, h1, Nat.add_sub_cancel_left, h3]
    · intro f hf
      rw [List.map_cons, List.mem_cons] at hf
      rcases hf with rfl | hf
      · exact hok
      · exact i4 f hf

/-- What bytes begin with frames' bytes tell these. -/
theorem runs_cat {s : ByteArray} : ∀ (l : List Fr) (A B : List UInt8), (∀ f ∈ l, f.ok) → s.data.toList = A ++ (cat l ++ B) → runs s A.length (zp A.length l) (A.length + (cat l).length)
  | [], A, B, _, _ => rfl
  | f :: r, A, B, hok, hs => by
    have hf := hok f (by simp)
    have hn : nx s A.length = (f, A.length + ln f, 0) := nx_put hf (B := cat r ++ B) (by rw [hs, cat, List.append_assoc])
    have ih := runs_cat r (A ++ frB f) B (fun g hg => hok g (by simp [hg])) (by rw [hs, cat]; simp)
    rw [List.length_append, frB_len] at ih
    refine ⟨rfl, _, hn, ?_⟩
    have e : A.length + (cat (f :: r)).length = A.length + ln f + (cat r).length := by rw [cat, List.length_append, frB_len]; omega
    rw [e]; exact ih
end Go.Proofs.Ytghgahcgbnpidaa
