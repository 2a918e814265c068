/-
  Lines and columns plainly: the lines of a text, and of each of its places how many lines and bytes lie ahead.
-/
import Derived.Test.YtglmcjplglgnlaaStr
import Derived.Lib.Bytealg
namespace Go.Proofs.Ytglmcjplglgnlaa
open Go.RowKit

/-- Of a beginning of a text: how many bytes 10, how many bytes behind the last of them. -/
def ofP : List UInt8 → Nat × Nat
  | [] => (0, 0)
  | b :: p => if b = 10 then ((ofP p).1 + 1, (ofP p).2) else if (ofP p).1 = 0 then (0, (ofP p).2 + 1) else ofP p
theorem ofP_snoc (p : List UInt8) (b : UInt8) : ofP (p ++ [b]) = if b = 10 then ((ofP p).1 + 1, 0) else ((ofP p).1, (ofP p).2 + 1) := by
  induction p with
  | nil => by_cases h : b = 10 <;> simp [ofP, h]
  | cons c p ih =>
    simp only [List.cons_append, ofP, ih]
    by_cases h : b = 10 <;> by_cases hc : c = 10 <;> by_cases h0 : (ofP p).1 = 0 <;> simp [h, hc, h0]
theorem ofP_count (p : List UInt8) : (ofP p).1 = p.count 10 := by
  induction p with
  | nil => rfl
  | cons c p ih =>
    rw [ofP, List.count_cons]
    by_cases hc : c = 10
    · simp [hc, ih]
    · by_cases h0 : (ofP p).1 = 0
      · simp [hc, h0]; omega
      · simp only [hc, h0, if_false]
        rw [ih]; simp [hc]
theorem ofP_tail (q : List UInt8) : ∀ p, (∀ b ∈ q, b ≠ 10) → ofP (p ++ q) = ((ofP p).1, (ofP p).2 + q.length) := by
  induction q with
  | nil => intro p _; simp
  | cons b q ih =>
    intro p h
    rw [show p ++ b :: q = (p ++ [b]) ++ q by simp, ih _ (fun c hc => h c (List.mem_cons_of_mem _ hc)), ofP_snoc, if_neg (h b List.mem_cons_self)]
    simp only [List.length_cons]
    rw [show (ofP p).2 + 1 + q.length = (ofP p).2 + (q.length + 1) by omega]
theorem ofP_le (p : List UInt8) : (ofP p).1 + (ofP p).2 ≤ p.length := by
  induction p with
  | nil => simp [ofP]
  | cons c p ih =>
    rw [ofP, List.length_cons]
    by_cases hc : c = 10
    · simp only [hc, if_true]; omega
    · by_cases h0 : (ofP p).1 = 0
      · simp only [hc, if_false, h0, if_true]; omega
      · simp only [hc, if_false, h0]; omega

/-- The lines of a text. -/
def lines : List UInt8 → List (List UInt8)
  | [] => [[]]
  | b :: s => if b = 10 then [] :: lines s else match lines s with
    | x :: r => (b :: x) :: r
    | [] => [[b]]
theorem lines_nl (s : List UInt8) : lines (10 :: s) = [] :: lines s := by rw [lines, if_pos rfl]
theorem lines_form (s : List UInt8) : ∃ x r, lines s = x :: r := by
  induction s with
  | nil => exact ⟨[], [], rfl⟩
  | cons b s ih =>
    obtain ⟨x, r, h⟩ := ih
    by_cases hb : b = 10
    · subst hb; exact ⟨[], lines s, lines_nl s⟩
    · exact ⟨b :: x, r, by rw [lines, if_neg hb, h]⟩
theorem lines_cons {b : UInt8} (hb : b ≠ 10) (s : List UInt8) : ∃ x r, lines s = x :: r ∧ lines (b :: s) = (b :: x) :: r := by
  obtain ⟨x, r, h⟩ := lines_form s
  exact ⟨x, r, h, by rw [lines, if_neg hb, h]⟩
theorem lines_snoc (s : List UInt8) (b : UInt8) : ∃ q y, lines s = q ++ [y] ∧ lines (s ++ [b]) = if b = 10 then q ++ [y] ++ [[]] else q ++ [y ++ [b]] := by
  induction s with
  | nil => exact ⟨[], [], rfl, by by_cases h : b = 10 <;> simp [lines, h]⟩
  | cons c s ih =>
    obtain ⟨q, y, h1, h2⟩ := ih
    by_cases hc : c = 10
    · subst hc
      refine ⟨[] :: q, y, by rw [lines_nl, h1]; rfl, ?_⟩
      rw [List.cons_append, lines_nl, h2]
      by_cases h : b = 10 <;> simp [h]
    · obtain ⟨x, r, h3, h4⟩ := lines_cons hc s
      obtain ⟨x', r', h5, h6⟩ := lines_cons hc (s ++ [b])
      rw [h4, List.cons_append, h6]
      rw [h2] at h5
      rw [h1] at h3
      cases q with
      | nil =>
        simp only [List.nil_append, List.cons.injEq] at h3
        obtain ⟨rfl, rfl⟩ := h3
        refine ⟨[], c :: y, rfl, ?_⟩
        by_cases h : b = 10
        · simp only [h, if_true, List.nil_append, List.cons_append, List.cons.injEq] at h5 ⊢
          obtain ⟨rfl, rfl⟩ := h5
          simp
        · simp only [h, if_false, List.nil_append, List.cons.injEq] at h5 ⊢
          obtain ⟨rfl, rfl⟩ := h5
          simp
      | cons z q =>
        simp only [List.cons_append, List.cons.injEq] at h3
        obtain ⟨rfl, rfl⟩ := h3
        refine ⟨(c :: z) :: q, y, rfl, ?_⟩
        by_cases h : b = 10
        · simp only [h, if_true, List.cons_append, List.cons.injEq] at h5 ⊢
          obtain ⟨rfl, rfl⟩ := h5
          simp
        · simp only [h, if_false, List.cons_append, List.cons.injEq] at h5 ⊢
          obtain ⟨rfl, rfl⟩ := h5
          simp
theorem lines_length (s : List UInt8) : (lines s).length = (ofP s).1 + 1 := by
  induction s with
  | nil => rfl
  | cons b s ih =>
    by_cases hb : b = 10
    · subst hb
      rw [lines_nl, List.length_cons, ih, ofP, if_pos rfl]
    · obtain ⟨x, r, h3, h4⟩ := lines_cons hb s
      rw [h3] at ih
      rw [h4, List.length_cons, ← List.length_cons (a := x), ih, ofP, if_neg hb]
      by_cases h0 : (ofP s).1 = 0 <;> simp [h0]
theorem lines_length_int (s : List UInt8) : ((lines s).length : Int) = ((ofP s).1 : Int) + 1 := by rw [lines_length]; omega
theorem lines_none {s : List UInt8} (h : ∀ b ∈ s, b ≠ 10) : lines s = [s] := by
  induction s with
  | nil => rfl
  | cons b s ih => rw [lines, if_neg (h b List.mem_cons_self), ih (fun c hc => h c (List.mem_cons_of_mem _ hc))]
theorem lines_cut {a r : List UInt8} (h : ∀ b ∈ a, b ≠ 10) : lines (a ++ 10 :: r) = a :: lines r := by
  induction a with
  | nil => exact lines_nl r
  | cons b a ih => rw [List.cons_append, lines, if_neg (h b List.mem_cons_self), ih (fun c hc => h c (List.mem_cons_of_mem _ hc))]

/-- How many bytes lie ahead of line l (the first one: 0). -/
def startL : List (List UInt8) → Nat → Nat
  | _, 0 => 0
  | [], _ => 0
  | x :: r, l + 1 => x.length + 1 + startL r l
theorem startL_zero (l : List (List UInt8)) : startL l 0 = 0 := by cases l <;> rfl
theorem startL_succ : ∀ (ls : List (List UInt8)) (l : Nat) (x : List UInt8), ls[l]? = some x → startL ls (l + 1) = startL ls l + (x.length + 1)
  | [], l, x, h => by simp at h
  | y :: r, 0, x, h => by
    obtain rfl : y = x := by simpa using h
    show y.length + 1 + startL r 0 = startL (y :: r) 0 + (y.length + 1)
    rw [startL_zero, startL_zero]; omega
  | y :: r, l + 1, x, h => by
    rw [startL, startL, startL_succ r l x (by simpa using h)]; omega

theorem place_fwd (s : List UInt8) : ∀ i, i ≤ s.length → ∃ x, (lines s)[(ofP (s.take i)).1]? = some x ∧ (ofP (s.take i)).2 ≤ x.length ∧ startL (lines s) (ofP (s.take i)).1 + (ofP (s.take i)).2 = i := by
  induction s with
  | nil => intro i hi; obtain rfl : i = 0 := by simpa using hi
           exact ⟨[], rfl, by simp [ofP], by simp [ofP, startL]⟩
  | cons b s ih =>
    intro i hi
    cases i with
    | zero =>
      obtain ⟨x, r, h⟩ := lines_form (b :: s)
      rw [h]
      exact ⟨x, by simp [ofP], by simp [ofP], by simp [ofP, startL]⟩
    | succ j =>
      obtain ⟨x, h1, h2, h3⟩ := ih j (by simpa using hi)
      rw [List.take_succ_cons]
      generalize s.take j = p at *
      by_cases hb : b = 10
      · subst hb
        rw [lines_nl, ofP, if_pos rfl]
        refine ⟨x, by simpa using h1, h2, ?_⟩
        show 0 + 1 + startL (lines s) (ofP p).1 + (ofP p).2 = j + 1
        omega
      · obtain ⟨x0, r, h4, h5⟩ := lines_cons hb s
        rw [h5, ofP, if_neg hb]
        rw [h4] at h1 h3
        cases hl : (ofP p).1 with
        | zero =>
          rw [hl] at h1 h3
          obtain rfl : x0 = x := by simpa using h1
          rw [if_pos rfl]
          refine ⟨b :: x0, by simp, by simpa using h2, ?_⟩
          show 0 + ((ofP p).2 + 1) = j + 1
          rw [startL_zero] at h3
          omega
        | succ m =>
          rw [hl] at h1 h3
          rw [if_neg (by omega), hl]
          refine ⟨x, by simpa using h1, h2, ?_⟩
          rw [startL] at h3 ⊢
          rw [List.length_cons]
          omega
theorem place_bwd (s : List UInt8) : ∀ l c x, (lines s)[l]? = some x → c ≤ x.length → startL (lines s) l + c ≤ s.length ∧ ofP (s.take (startL (lines s) l + c)) = (l, c) := by
  induction s with
  | nil =>
    intro l c x h hc
    cases l with
    | zero =>
      obtain rfl : [] = x := by simpa [lines] using h
      obtain rfl : c = 0 := by simpa using hc
      simp [startL, ofP]
    | succ l => simp [lines] at h
  | cons b s ih =>
    intro l c x h hc
    by_cases hb : b = 10
    · subst hb
      rw [lines_nl] at h ⊢
      cases l with
      | zero =>
        obtain rfl : [] = x := by simpa using h
        obtain rfl : c = 0 := by simpa using hc
        simp [startL, ofP]
      | succ m =>
        obtain ⟨h1, h2⟩ := ih m c x (by simpa using h) hc
        rw [startL, show ([] : List UInt8).length + 1 + startL (lines s) m + c = (startL (lines s) m + c) + 1 by simp; omega, List.take_succ_cons, ofP, if_pos rfl, h2, List.length_cons]
        exact ⟨by omega, rfl⟩
    · obtain ⟨x0, r, h4, h5⟩ := lines_cons hb s
      rw [h5] at h ⊢
      rw [h4] at ih
      cases l with
      | zero =>
        obtain rfl : b :: x0 = x := by simpa using h
        cases c with
        | zero => simp [startL, ofP]
        | succ d =>
          obtain ⟨h1, h2⟩ := ih 0 d x0 (by simp) (by simpa using hc)
          rw [startL_zero] at h1 h2 ⊢
          rw [Nat.zero_add] at h1 h2 ⊢
          rw [List.take_succ_cons, ofP, if_neg hb, h2, List.length_cons]
          exact ⟨by omega, by simp⟩
      | succ m =>
        obtain ⟨h1, h2⟩ := ih (m + 1) c x (by simpa using h) hc
        rw [startL] at h1 h2 ⊢
        rw [show (b :: x0).length + 1 + startL r m + c = (x0.length + 1 + startL r m + c) + 1 by simp; omega, List.take_succ_cons, ofP, if_neg hb, h2, List.length_cons]
        exact ⟨by omega, by simp⟩
theorem line_le {s : List UInt8} {l : Nat} {x : List UInt8} (h : (lines s)[l]? = some x) : startL (lines s) l + x.length ≤ s.length := (place_bwd s l x.length x h (Nat.le_refl _)).1

/-- The first byte 10. -/
theorem index_cases (s : List UInt8) (c : UInt8) : (Lib.indexByte s c = -1 ∧ ∀ b ∈ s, b ≠ c) ∨ ∃ i : Nat, Lib.indexByte s c = (i : Int) ∧ i < s.length ∧ s = s.take i ++ c :: s.drop (i + 1) ∧ ∀ b ∈ s.take i, b ≠ c := by
  induction s with
  | nil => exact .inl ⟨rfl, by simp⟩
  | cons b s ih =>
    by_cases h : b = c
    · exact .inr ⟨0, by simp [Lib.indexByte, h], by simp, by simp [h], by simp⟩
    · rcases ih with ⟨h1, h2⟩ | ⟨i, h1, h2, h3, h4⟩
      · exact .inl ⟨by simp [Lib.indexByte, h, h1], by simp only [List.mem_cons]; rintro x (rfl | hx); exact h; exact h2 x hx⟩
      · refine .inr ⟨i + 1, ?_, by simpa using h2, ?_, ?_⟩
        · have : ((i : Int) == -1) = false := by simp
          simp [Lib.indexByte, h, h1]
          try omega
        · rw [List.take_succ_cons, List.drop_succ_cons, List.cons_append, ← h3]
        · rw [List.take_succ_cons]
          simp only [List.mem_cons]
          rintro x (rfl | hx)
          · exact h
          · exact h4 x hx

/-- The last byte 10, from behind. -/
theorem last_hit {s : List UInt8} {k : Nat} (h : s[k]? = some 10) (hd : ∀ b ∈ s.drop (k + 1), b ≠ 10) : (ofP s).2 = s.length - (k + 1) := by
  have hk : k < s.length := by
    rcases Nat.lt_or_ge k s.length with h1 | h1
    · exact h1
    · rw [List.getElem?_eq_none h1] at h; cases h
  have e : s = s.take (k + 1) ++ s.drop (k + 1) := by simp
  have e2 : s.take (k + 1) = s.take k ++ [10] := by rw [List.take_add_one, h]; rfl
  have h3 := ofP_tail (s.drop (k + 1)) (s.take (k + 1)) hd
  rw [← e, e2, ofP_snoc, if_pos rfl] at h3
  rw [h3]
  simp
theorem last_none {s : List UInt8} (h : ∀ b ∈ s, b ≠ 10) : (ofP s).2 = s.length := by
  have := ofP_tail s [] h
  rw [List.nil_append] at this
  rw [this]; simp [ofP]
end Go.Proofs.Ytglmcjplglgnlaa
