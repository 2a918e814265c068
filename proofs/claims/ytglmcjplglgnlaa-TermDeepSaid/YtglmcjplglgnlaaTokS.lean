/-
  The document's lists: is a text in a list; the words, the signs; which sign is the first of the list with which a text begins.
-/
import Derived.Test.YtglmcjplglgnlaaTokR
namespace Go.Proofs.Ytglmcjplglgnlaa
open Go.RowKit Go.Joins

abbrev SV (x : List UInt8) : Value := .string (str x)
theorem toList_str (x : List UInt8) : (str x).toList = x := by rw [ByteArray.toList_eq, str_data]

set_option maxHeartbeats 1000000 in
theorem in_any {v : Value} {l : List (List UInt8)} {w : World} (x : List UInt8) (h : RowAt SV w.heap.size w v l) :
    Calls Try.prog 35 #[v, .string (str x)] w fun e w' => e = .returned (.bool (decide (x ∈ l))) ∧ w = w' := by
  obtain ⟨o, cap, rfl, hr⟩ := h.form
  have HR := keep hr
  have hm := h.room
  obtain ⟨n, hn⟩ : ∃ n, n = l.length := ⟨_, rfl⟩
  have HN := keep hn
  rw [← hn] at hm ⊢
  have hmI : (n : Int) ≤ 9223372036854775807 := by omega
  have hsx := toList_str x
  obtain ⟨sx, hsx2⟩ : ∃ sx, sx = str x := ⟨_, rfl⟩
  rw [← hsx2] at hsx ⊢
  clear h hr hm hn hsx2
  go_enter Try.func35, Try.ntmps35
  go_wp2_with fail
  go_loop [5] (fun iv => ∃ k : Nat, iv = .int .i64 (k : Int) ∧ k ≤ n ∧ Keep (x ∉ l.take k)) (fun iv => n - (intOf iv).toNat)
  case atStart => exact ⟨0, rfl, Nat.zero_le _, ⟨by simp⟩⟩
  case round =>
    obtain ⟨k, rfl, hk, HK⟩ := hrel
    by_cases hlt : k < n
    · obtain ⟨y, hy⟩ := get_of_lt (l := l) (i := k) (by rw [← HN.out]; exact hlt)
      obtain ⟨b, off, rfl, hb, hc⟩ := HR.out k y hy
      have hcell : w.cell? ⟨b, off + k, none⟩ = some (.string (str y)) := hc w (Below.refl _ _)
      have HTK := keep (take_snoc hy)
      have hltI : (k : Int) < (n : Int) := by omega
      have hsy := toList_str y
      by_cases hyx : y = x
      · subst hyx
        have HE : Keep (true = decide (y ∈ l)) := ⟨(decide_eq_true (List.mem_of_getElem? hy)).symm⟩
        have hbq : (y == y) = true := by simp
        generalize str y = sy at *
        clear hy hc hb
        go_wp2_with fail
        go_ret
        exact ⟨ret_bool HE.out, rfl⟩
      · have hne : (y == x) = false := by simpa using hyx
        have HNX : Keep (x ∉ l.take (k + 1)) := ⟨by rw [HTK.out, List.mem_append, List.mem_singleton]; rintro (h | h); exact HK.out h; exact hyx h.symm⟩
        generalize str y = sy at *
        clear hy hc hb hyx
        go_wp2_with fail
        go_round
        case rel => exact ⟨k + 1, by go_num, by omega, HNX⟩
        case measure => simp [intOf]; omega
    · have hkn : n = k := by omega
      subst hkn
      have hdn : decide (n < n) = false := by simp
      have HE : Keep (false = decide (x ∈ l)) := ⟨by have := HK.out; rw [List.take_of_length_le (by rw [← HN.out]; exact Nat.le_refl _)] at this; simpa using this⟩
      clear hlt
      go_wp2_with fail
      go_ret
      exact ⟨ret_bool HE.out, rfl⟩

/-- A row that lies in a block of its own, whole. -/
theorem row_lit (w : World) (l : List (List UInt8)) (t : TypeId) (hl : l.length ≤ 1000) : RowAt SV (w.alloc (.cells (l.map SV).toArray t)).heap.size (w.alloc (.cells (l.map SV).toArray t)) (.slice (some ⟨w.heap.size, 0, none⟩) l.length l.length) l :=
  ⟨by omega, .inr ⟨w.heap.size, 0, l.length, rfl, by simp, fun i x hi => by
    rw [World.cell?_alloc_new]
    simp [hi]⟩⟩

def RowTo (w : World) (l : List (List UInt8)) (e : Ending) (w' : World) : Prop := ∃ v, e = .returned v ∧ RowAt SV w'.heap.size w' v l ∧ Below w.heap.size w w'

set_option maxHeartbeats 1000000 in
theorem words_any (w : World) : Calls Try.prog 36 #[] w fun e w' => RowTo w wordsL e w' := by
  go_enter Try.func36, Try.ntmps36
  go_wp2_with fail
  go_ret
  exact ⟨_, rfl, row_lit w wordsL _ (by decide), (Below.refl _ _).alloc (Nat.le_refl _) _⟩

set_option maxHeartbeats 1000000 in
theorem signs_any (w : World) : Calls Try.prog 37 #[] w fun e w' => RowTo w signsL e w' := by
  go_enter Try.func37, Try.ntmps37
  go_wp2_with fail
  go_ret
  exact ⟨_, rfl, row_lit w signsL _ (by decide), (Below.refl _ _).alloc (Nat.le_refl _) _⟩

/-! ### The first sign of the list -/
/-- Does a text begin with another one? -/
def begins (x r : List UInt8) : Bool := r.take x.length == x
theorem begins_of {x r : List UInt8} (h : begins x r = true) : ∃ t, r = x ++ t := by
  refine ⟨r.drop x.length, ?_⟩
  have h' : r.take x.length = x := by simpa [begins] using h
  conv => lhs; rw [← List.take_append_drop x.length r, h']
theorem begins_app (x t : List UInt8) : begins x (x ++ t) = true := by simp [begins]
/-- The first byte and the one behind it. -/
theorem at_cons (b : UInt8) (t : List UInt8) : byteAt (b :: t) 0 = ob b := rfl
theorem at_one (b c : UInt8) (t : List UInt8) : byteAt (b :: c :: t) 1 = ob c := rfl
theorem begins_two {p q : UInt8} {r : List UInt8} : begins [p, q] r = ((byteAt r 0 == ob p) && (byteAt r 1 == ob q)) := by
  match r with
  | [] => simp [begins, byteAt, ob]
  | [b] => simp [begins, byteAt, ob]
  | b :: c :: t =>
    simp only [begins, byteAt, List.length_cons, List.length_nil, List.take_succ_cons, List.take_zero, List.getElem?_cons_zero, List.getElem?_cons_succ]
    rw [Bool.eq_iff_iff]
    simp only [beq_iff_eq, List.cons.injEq, and_true, Bool.and_eq_true]
    exact ⟨fun ⟨h1, h2⟩ => ⟨by rw [h1], by rw [h2]⟩, fun ⟨h1, h2⟩ => ⟨ob_inj h1, ob_inj h2⟩⟩
theorem begins_one {p : UInt8} {r : List UInt8} : begins [p] r = (byteAt r 0 == ob p) := by
  match r with
  | [] => simp [begins, byteAt, ob]
  | b :: t =>
    simp only [begins, byteAt, List.length_cons, List.length_nil, List.take_succ_cons, List.take_zero, List.getElem?_cons_zero]
    rw [Bool.eq_iff_iff]
    simp only [beq_iff_eq, List.cons.injEq, and_true]
    exact ⟨fun h1 => by rw [h1], fun h1 => ob_inj h1⟩
theorem sign_hit {r : List UInt8} {k : Nat} {x : List UInt8} (hk : signsL[k]? = some x) (hx : begins x r = true) (hno : ∀ (i : Nat) (y : List UInt8), i < k → signsL[i]? = some y → begins y r = false) : pcSign r = (4, x.length, 0) := by
  have e0 := fun h : 0 < k => hno 0 _ h rfl
  have e1 := fun h : 1 < k => hno 1 _ h rfl
  have e2 := fun h : 2 < k => hno 2 _ h rfl
  have e3 := fun h : 3 < k => hno 3 _ h rfl
  have e4 := fun h : 4 < k => hno 4 _ h rfl
  have e5 := fun h : 5 < k => hno 5 _ h rfl
  clear hno
  have hlt := (List.getElem?_eq_some_iff.1 hk).1
  unfold pcSign
  generalize hb : byteAt r 0 = b at *
  generalize hc : byteAt r 1 = c at *
  simp only [begins_two, hb, hc, ob] at e0 e1 e2 e3 e4 e5
  have hlt' : k < 25 := hlt
  match k, hlt' with
  | 0, _ | 1, _ | 2, _ | 3, _ | 4, _ | 5, _ =>
    obtain rfl := Option.some.inj hk
    rw [begins_two, hb, hc] at hx
    simp [ob] at hx
    obtain ⟨rfl, rfl⟩ := hx
    decide
  | 6, _ | 7, _ | 8, _ | 9, _ | 10, _ | 11, _ | 12, _ | 13, _ | 14, _ | 15, _ | 16, _ | 17, _ | 18, _ | 19, _ | 20, _ | 21, _ | 22, _ | 23, _ | 24, _ =>
    obtain rfl := Option.some.inj hk
    rw [begins_one, hb] at hx
    simp [ob] at hx
    subst hx
    simp at e0 e1 e2 e3 e4 e5
    simp_all [sgn]
theorem sign_none {r : List UInt8} (hno : ∀ (i : Nat) (y : List UInt8), signsL[i]? = some y → begins y r = false) : pcSign r = (0, 0, 10) := by
  have e0 := hno 0 _ rfl
  have e1 := hno 1 _ rfl
  have e2 := hno 2 _ rfl
  have e3 := hno 3 _ rfl
  have e4 := hno 4 _ rfl
  have e5 := hno 5 _ rfl
  have e6 := hno 6 _ rfl
  have e7 := hno 7 _ rfl
  have e8 := hno 8 _ rfl
  have e9 := hno 9 _ rfl
  have e10 := hno 10 _ rfl
  have e11 := hno 11 _ rfl
  have e12 := hno 12 _ rfl
  have e13 := hno 13 _ rfl
  have e14 := hno 14 _ rfl
  have e15 := hno 15 _ rfl
  have e16 := hno 16 _ rfl
  have e17 := hno 17 _ rfl
  have e18 := hno 18 _ rfl
  have e19 := hno 19 _ rfl
  have e20 := hno 20 _ rfl
  have e21 := hno 21 _ rfl
  have e22 := hno 22 _ rfl
  have e23 := hno 23 _ rfl
  have e24 := hno 24 _ rfl
  clear hno
  unfold pcSign
  rw [if_pos]
  rw [begins_two] at e0 e1 e2 e3 e4 e5
  rw [begins_one] at e6 e7 e8 e9 e10 e11 e12 e13 e14 e15 e16 e17 e18 e19 e20 e21 e22 e23 e24
  generalize byteAt r 0 = b at *
  generalize byteAt r 1 = c at *
  simp [ob] at e0 e1 e2 e3 e4 e5 e6 e7 e8 e9 e10 e11 e12 e13 e14 e15 e16 e17 e18 e19 e20 e21 e22 e23 e24
  unfold sgn
  rw [if_neg (c := b = 61 ∨ _) (by omega), if_neg (c := b = 123 ∨ _) (by omega)]
  split
  · rw [if_neg]
    rename_i h
    intro h2
    rcases h with rfl | rfl
    · exact e4 rfl h2
    · exact e5 rfl h2
  · rfl
end Go.Proofs.Ytglmcjplglgnlaa
