/-
  Which lists are trees, plainly: the classes of nodes, what they have, the row of their kids' classes; pieces of classes, one behind the other.
-/
import Derived.Test.YtgodjgbdjgiapaaTreeM
import Derived.Test.YtgodjgbdjgiapaaTokY
namespace Go.Proofs.Ytgodjgbdjgiapaa
open Go.RowKit

/-! ### Kinds of nodes -/
def clsOf (o : Int) : UInt8 :=
  if o = 33 then 82 else if o = 32 then 66 else if o = 39 then 80 else if o = 42 then 85 else if 1 ≤ o ∧ o ≤ 17 then 69 else if 18 ≤ o ∧ o ≤ 31 then 83 else if 34 ≤ o ∧ o ≤ 37 then 67 else if 38 ≤ o ∧ o ≤ 41 then 68 else 0
def isNmd (o : Int) : Bool := o == 2 || o == 18 || o == 19 || o == 20 || o == 22 || o == 26 || o == 33 || o == 34 || o == 38 || o == 39 || o == 40
def nmP (s : ByteArray) : Bool := isName s.data.toList
def noP (s : ByteArray) : Bool := s.toList.isEmpty
def nameP (x : Nd) : Bool := if isNmd x.O = true then nmP x.S else noP x.S
def mostP (o : Int) : Int := if o = 1 then 999999999999999999 else if o = 38 then 16 else if o = 34 ∨ o = 35 ∨ o = 36 then 1 else 0
def plainP (o : Int) : List UInt8 :=
  if o = 3 ∨ o = 4 ∨ o = 18 ∨ o = 19 ∨ o = 20 ∨ o = 27 ∨ o = 28 ∨ o = 29 then [69] else if o = 21 then [82, 69] else if o = 22 then [82] else if o = 24 ∨ o = 36 then [69, 66] else if o = 34 then [82, 66] else if o = 35 then [82, 69, 66] else if o = 37 ∨ o = 41 then [66] else if 5 ≤ o ∧ o ≤ 17 then [69, 69] else []
/-- The classes of the kids: of the first ones, of as many as one likes between, of the last ones. -/
structure Shp where
  first : List UInt8
  more : UInt8
  last : List UInt8
def shpP (x : Nd) : Shp :=
  if x.O = 42 then ⟨[], 68, []⟩ else if x.O = 40 then ⟨[], 80, [66]⟩ else if x.O = 32 then ⟨[], 83, []⟩ else if x.O = 25 then ⟨[67], 67, []⟩ else if x.O = 26 then ⟨[], 69, []⟩
  else if x.O = 23 then ⟨if x.K = 3 then [69, 66, 66] else [69, 66], 0, []⟩ else if x.O = 33 then ⟨if x.K = 1 then [69] else [], 0, []⟩
  else if x.O = 34 ∨ x.O = 35 ∨ x.O = 36 then ⟨(if x.N = 1 then [69] else []) ++ plainP x.O, 0, []⟩ else ⟨plainP x.O, 0, []⟩
def Shp.fits (r : Shp) (k : Int) : Bool := k == (r.first.length + r.last.length : Nat) || (decide (((r.first.length + r.last.length : Nat) : Int) < k) && r.more != 0)
def Shp.row (r : Shp) (k : Nat) : List UInt8 := r.first ++ (List.replicate (k - r.first.length - r.last.length) r.more ++ r.last)
/-- The class of the k-th of so many. -/
def Shp.cls (r : Shp) (k c : Nat) : UInt8 := if k < r.first.length then r.first.getD k 0 else if c - r.last.length ≤ k then r.last.getD (k - (c - r.last.length)) 0 else r.more
def fitsP (x : Nd) : Bool := nameP x && decide (0 ≤ x.N) && decide (x.N ≤ mostP x.O) && (shpP x).fits x.K
def rowP (x : Nd) : List UInt8 := (shpP x).row x.K.toNat
/-- What has to stand below a node of this class; none: it can't stand there. -/
def rowC (c : UInt8) (x : Nd) : Option (List UInt8) := if clsOf x.O = c ∧ fitsP x = true then some (rowP x) else none

theorem Shp.fits_le {r : Shp} {k : Int} (h : r.fits k = true) : ((r.first.length + r.last.length : Nat) : Int) ≤ k := by
  unfold Shp.fits at h
  simp only [Bool.or_eq_true, beq_iff_eq, Bool.and_eq_true, decide_eq_true_eq] at h
  rcases h with h | ⟨h, _⟩ <;> omega
theorem Shp.row_len {r : Shp} {k : Nat} (h : r.first.length + r.last.length ≤ k) : (r.row k).length = k := by
  unfold Shp.row
  simp only [List.length_append, List.length_replicate]
  omega
theorem Shp.row_get {r : Shp} {k c : Nat} (h : r.first.length + r.last.length ≤ c) (hk : k < c) : (r.row c)[k]? = some (r.cls k c) := by
  unfold Shp.row Shp.cls
  by_cases h1 : k < r.first.length
  · rw [if_pos h1, List.getElem?_append_left h1, List.getD_eq_getElem?_getD, List.getElem?_eq_getElem h1]; rfl
  · rw [if_neg h1, List.getElem?_append_right (by omega)]
    by_cases h2 : c - r.last.length ≤ k
    · rw [if_pos h2, List.getElem?_append_right (by rw [List.length_replicate]; omega), List.length_replicate]
      have e : k - r.first.length - (c - r.first.length - r.last.length) = k - (c - r.last.length) := by omega
      rw [e, List.getD_eq_getElem?_getD, List.getElem?_eq_getElem (by omega)]; rfl
    · rw [if_neg h2, List.getElem?_append_left (by rw [List.length_replicate]; omega), List.getElem?_replicate, if_pos (by omega)]
theorem fits_shp {x : Nd} (h : fitsP x = true) : (shpP x).fits x.K = true := by
  unfold fitsP at h
  simp only [Bool.and_eq_true] at h
  exact h.2
theorem fits_told {x : Nd} (h : fitsP x = true) : (shpP x).first.length + (shpP x).last.length ≤ x.K.toNat ∧ 0 ≤ x.K := by
  have := Shp.fits_le (fits_shp h)
  omega
theorem rowP_len {x : Nd} (h : fitsP x = true) : (rowP x).length = x.K.toNat := Shp.row_len (fits_told h).1
theorem rowC_len {c : UInt8} {x : Nd} {r : List UInt8} (h : rowC c x = some r) : r.length = x.K.toNat := by
  unfold rowC at h
  split at h
  · next h1 => injection h with e; rw [← e]; exact rowP_len h1.2
  · cases h
theorem plain_46 (o : Int) : ∀ c ∈ plainP o, c ≠ 46 := by
  unfold plainP
  repeat' split
  all_goals (intro c hc; simp at hc)
  all_goals (first | (rcases hc with rfl | rfl | rfl <;> decide) | (rcases hc with rfl | rfl <;> decide) | (subst hc; decide))
theorem shp_46 (x : Nd) : (∀ c ∈ (shpP x).first, c ≠ 46) ∧ (shpP x).more ≠ 46 ∧ (∀ c ∈ (shpP x).last, c ≠ 46) := by
  have hp := plain_46 x.O
  unfold shpP
  repeat' split
  all_goals refine ⟨?_, by dsimp only; decide, by dsimp only; decide⟩
  all_goals (first | decide | exact hp | (intro c hc; rcases List.mem_append.1 hc with h | h; (simp at h; subst h; decide); exact hp c h) | (intro c hc; rcases List.mem_append.1 hc with h | h; simp at h; exact hp c h))
theorem row_46 {x : Nd} : ∀ c ∈ rowP x, c ≠ 46 := by
  intro c hc
  obtain ⟨h1, h2, h3⟩ := shp_46 x
  unfold rowP Shp.row at hc
  rcases List.mem_append.1 hc with h | h
  · exact h1 c h
  · rcases List.mem_append.1 h with h | h
    · rw [(List.mem_replicate.1 h).2]; exact h2
    · exact h3 c h
theorem cls_46 (o : Int) : clsOf o ≠ 46 := by
  unfold clsOf
  repeat' split
  all_goals decide

/-! ### Pieces of classes, one behind the other -/
def go : List UInt8 → List Nd → Nat → Nat × Bool
  | [], _, a => (a, true)
  | _ :: _, [], a => (a, false)
  | c :: s, x :: t, a => match rowC c x with
    | none => (a, false)
    | some r => go (r ++ s) t (a + 1)
theorem go_nil (t : List Nd) (a : Nat) : go [] t a = (a, true) := by cases t <;> rfl
theorem go_end (c : UInt8) (s : List UInt8) (a : Nat) : go (c :: s) [] a = (a, false) := rfl
theorem go_no {c : UInt8} {s : List UInt8} {x : Nd} {t : List Nd} {a : Nat} (h : rowC c x = none) : go (c :: s) (x :: t) a = (a, false) := by rw [go, h]
theorem go_yes {c : UInt8} {s : List UInt8} {x : Nd} {t : List Nd} {a : Nat} {r : List UInt8} (h : rowC c x = some r) : go (c :: s) (x :: t) a = go (r ++ s) t (a + 1) := by rw [go, h]
theorem go_bd : ∀ (t : List Nd) (s : List UInt8) (a : Nat), a ≤ (go s t a).1 ∧ (go s t a).1 ≤ a + t.length
  | t, [], a => by rw [go_nil]; simp
  | [], c :: s, a => by rw [go_end]; simp
  | x :: t, c :: s, a => by
    cases h : rowC c x with
    | none => rw [go_no h]; simp
    | some r =>
      rw [go_yes h, List.length_cons]
      have := go_bd t (r ++ s) (a + 1)
      omega
theorem go_append : ∀ (t : List Nd) (s1 s2 : List UInt8) (a : Nat), go (s1 ++ s2) t a = if (go s1 t a).2 = true then go s2 (t.drop ((go s1 t a).1 - a)) (go s1 t a).1 else go s1 t a
  | t, [], s2, a => by rw [go_nil, if_pos rfl]; simp
  | [], c :: s, s2, a => by rw [List.cons_append, go_end, go_end, if_neg (by simp)]
  | x :: t, c :: s, s2, a => by
    cases h : rowC c x with
    | none => rw [List.cons_append, go_no h, go_no h, if_neg (by simp)]
    | some r =>
      rw [List.cons_append, go_yes h, go_yes h, ← List.append_assoc, go_append t (r ++ s) s2 (a + 1)]
      have hb := go_bd t (r ++ s) (a + 1)
      rw [show (go (r ++ s) t (a + 1)).1 - a = ((go (r ++ s) t (a + 1)).1 - (a + 1)) + 1 by omega, List.drop_succ_cons]
/-- From place a on. -/
def goP (l : List Nd) (s : List UInt8) (a : Nat) : Nat × Bool := go s (l.drop a) a
theorem goP_nil (l : List Nd) (a : Nat) : goP l [] a = (a, true) := go_nil _ _
theorem goP_end {l : List Nd} {c : UInt8} {s : List UInt8} {a : Nat} (h : l.length ≤ a) : goP l (c :: s) a = (a, false) := by
  unfold goP; rw [List.drop_eq_nil_of_le h, go_end]
theorem nd_drop {l : List Nd} {a : Nat} {x : Nd} (h : l[a]? = some x) : l.drop a = x :: l.drop (a + 1) := by
  obtain ⟨hl, rfl⟩ := List.getElem?_eq_some_iff.1 h
  exact List.drop_eq_getElem_cons hl
theorem goP_no {l : List Nd} {c : UInt8} {s : List UInt8} {a : Nat} {x : Nd} (h : l[a]? = some x) (hr : rowC c x = none) : goP l (c :: s) a = (a, false) := by
  unfold goP; rw [nd_drop h, go_no hr]
theorem goP_yes {l : List Nd} {c : UInt8} {s : List UInt8} {a : Nat} {x : Nd} {r : List UInt8} (h : l[a]? = some x) (hr : rowC c x = some r) : goP l (c :: s) a = goP l (r ++ s) (a + 1) := by
  unfold goP; rw [nd_drop h, go_yes hr]
theorem goP_bd {l : List Nd} {s : List UInt8} {a : Nat} (h : a ≤ l.length) : a ≤ (goP l s a).1 ∧ (goP l s a).1 ≤ l.length := by
  have := go_bd (l.drop a) s a
  rw [List.length_drop] at this
  unfold goP; omega
theorem goP_append {l : List Nd} {s1 s2 : List UInt8} {a : Nat} : goP l (s1 ++ s2) a = if (goP l s1 a).2 = true then goP l s2 (goP l s1 a).1 else goP l s1 a := by
  unfold goP
  rw [go_append]
  have := (go_bd (l.drop a) s1 a).1
  rw [List.drop_drop, show a + ((go s1 (l.drop a) a).1 - a) = (go s1 (l.drop a) a).1 by omega]
theorem goP_cons {l : List Nd} {c : UInt8} {s : List UInt8} {a : Nat} : goP l (c :: s) a = if (goP l [c] a).2 = true then goP l s (goP l [c] a).1 else goP l [c] a := goP_append (s1 := [c])
theorem goP_pos {l : List Nd} {c : UInt8} {a : Nat} (hok : (goP l [c] a).2 = true) : a < (goP l [c] a).1 := by
  rcases Nat.lt_or_ge a l.length with h | h
  · have hx : l[a]? = some l[a] := List.getElem?_eq_getElem h
    cases hr : rowC c l[a] with
    | none => rw [goP_no hx hr] at hok; cases hok
    | some r =>
      rw [goP_yes hx hr]
      have := (goP_bd (l := l) (s := r ++ []) (a := a + 1) (by omega)).1
      omega
  · rw [goP_end h] at hok; cases hok
/-- Going on from where one stands, if all was right so far. -/
def goR (l : List Nd) (s : List UInt8) (g : Nat × Bool) : Nat × Bool := if g.2 = true then goP l s g.1 else g
theorem goR_nil (l : List Nd) (g : Nat × Bool) : goR l [] g = g := by
  unfold goR
  split
  · next h => rw [goP_nil, ← h]
  · rfl
theorem goR_cons (l : List Nd) (c : UInt8) (s : List UInt8) (g : Nat × Bool) : goR l (c :: s) g = goR l s (goR l [c] g) := by
  unfold goR
  by_cases h : g.2 = true
  · rw [if_pos h, if_pos h, goP_cons]
  · rw [if_neg h, if_neg h, if_neg h]
theorem goR_bad (l : List Nd) (s : List UInt8) (a : Nat) : goR l s (a, false) = (a, false) := rfl
theorem goR_good (l : List Nd) (s : List UInt8) (a : Nat) : goR l s (a, true) = goP l s a := rfl
theorem goP_one {l : List Nd} {c : UInt8} {a : Nat} {x : Nd} {r : List UInt8} (h : l[a]? = some x) (hr : rowC c x = some r) : goP l [c] a = goR l r (a + 1, true) := by
  rw [goP_yes h hr, List.append_nil]; rfl

/-! ### The whole -/
def checkP (l : List Nd) : Nat × Int := if (goP l [85] 0).2 = true ∧ (goP l [85] 0).1 = l.length then (0, 0) else ((goP l [85] 0).1, 3)
theorem go_full : ∀ (t : List Nd) (s : List UInt8) (a : Nat), go s t a = (a + t.length, true) → full s.length (ks t)
  | [], [], a, _ => trivial
  | x :: t, [], a, h => by rw [go_nil] at h; simp at h
  | [], c :: s, a, h => by rw [go_end] at h; simp at h
  | x :: t, c :: s, a, h => by
    cases hr : rowC c x with
    | none => rw [go_no hr] at h; simp at h
    | some r =>
      rw [go_yes hr] at h
      have := go_full t (r ++ s) (a + 1) (by rw [h, List.length_cons]; congr 1; omega)
      rw [List.length_append, rowC_len hr] at this
      show full (s.length + 1) (x.K.toNat :: ks t)
      show full (s.length + x.K.toNat) (ks t)
      rwa [Nat.add_comm] at this
theorem check_full {l : List Nd} (h : (checkP l).2 = 0) : full 1 (ks l) := by
  unfold checkP at h
  split at h
  · next h1 =>
    have : go [85] l 0 = (0 + l.length, true) := by
      have e : goP l [85] 0 = go [85] l 0 := by unfold goP; rw [List.drop_zero]
      rw [← e, Nat.zero_add]
      exact Prod.ext h1.2 h1.1
    exact go_full l [85] 0 this
  · cases h

/-! ### What has still to come -/
/-- Below the node at a, s kids of which were seen. -/
def pieceO (l : List Nd) (p : Nat × Nat) : List UInt8 := match l[p.1]? with
  | some x => (rowP x).drop p.2
  | none => []
def pendO (l : List Nd) (o : List (Nat × Nat)) : List UInt8 := o.reverse.flatMap (pieceO l)
theorem pendO_nil (l : List Nd) : pendO l [] = [] := rfl
theorem pendO_snoc (l : List Nd) (o : List (Nat × Nat)) (p : Nat × Nat) : pendO l (o ++ [p]) = pieceO l p ++ pendO l o := by
  unfold pendO; rw [List.reverse_append]; rfl
/-- Open nodes may stand where they do. -/
def Opens (l : List Nd) (o : List (Nat × Nat)) : Prop := ∀ p ∈ o, ∃ x, l[p.1]? = some x ∧ fitsP x = true ∧ (p.2 : Int) ≤ x.K
theorem Opens.init {l : List Nd} {o : List (Nat × Nat)} {p : Nat × Nat} (h : Opens l (o ++ [p])) : Opens l o := fun q hq => h q (List.mem_append_left _ hq)
theorem Opens.snoc {l : List Nd} {o : List (Nat × Nat)} {p : Nat × Nat} {x : Nd} (h : Opens l o) (hx : l[p.1]? = some x) (hf : fitsP x = true) (hs : (p.2 : Int) ≤ x.K) : Opens l (o ++ [p]) := fun q hq => by
  rcases List.mem_append.1 hq with h1 | h1
  · exact h q h1
  · rw [List.mem_singleton.1 h1]; exact ⟨x, hx, hf, hs⟩
theorem piece_done {l : List Nd} {a s : Nat} {x : Nd} (hx : l[a]? = some x) (hf : fitsP x = true) (hs : x.K ≤ (s : Int)) : pieceO l (a, s) = [] := by
  unfold pieceO
  simp only [hx]
  exact List.drop_eq_nil_of_le (by rw [rowP_len hf]; omega)
theorem piece_next {l : List Nd} {a s : Nat} {x : Nd} (hx : l[a]? = some x) (hf : fitsP x = true) (hs : (s : Int) < x.K) : pieceO l (a, s) = (shpP x).cls s x.K.toNat :: pieceO l (a, s + 1) := by
  unfold pieceO
  simp only [hx]
  have hg := Shp.row_get (r := shpP x) (k := s) (c := x.K.toNat) (fits_told hf).1 (by omega)
  have hl : s < (rowP x).length := by rw [rowP_len hf]; omega
  rw [List.drop_eq_getElem_cons hl]
  congr 1
  have : (rowP x)[s]? = some ((rowP x)[s]) := List.getElem?_eq_getElem hl
  unfold rowP at this ⊢
  rw [hg] at this
  exact (Option.some.inj this).symm
theorem cls_ne {x : Nd} (hf : fitsP x = true) {s : Nat} (hs : (s : Int) < x.K) : (shpP x).cls s x.K.toNat ≠ 46 :=
  row_46 (x := x) _ (List.mem_of_getElem? (Shp.row_get (r := shpP x) (k := s) (c := x.K.toNat) (fits_told hf).1 (by omega)))
/-- What is wanted next, and what is open then. -/
def NextIs (l : List Nd) (o : List (Nat × Nat)) (o' : List (Nat × Nat)) (c : UInt8) : Prop :=
  o'.length ≤ o.length ∧ Opens l o' ∧ ((o' = [] ∧ c = 46 ∧ pendO l o = []) ∨ (c ≠ 46 ∧ pendO l o = c :: pendO l o'))
/-- Between two rounds of Check. -/
def ChkAt (l : List Nd) (a : Nat) (o : List (Nat × Nat)) (c : UInt8) : Prop :=
  o.length ≤ a ∧ a ≤ l.length ∧ Opens l o ∧ ((o = [] ∧ c = 46 ∧ goP l [85] 0 = (a, true)) ∨ (c ≠ 46 ∧ goP l [85] 0 = goP l (c :: pendO l o) a))
theorem ChkAt.start (l : List Nd) : ChkAt l 0 [] 85 := ⟨Nat.le_refl _, Nat.zero_le _, fun p h => by simp at h, .inr ⟨by decide, rfl⟩⟩
theorem ChkAt.bad {l : List Nd} {a : Nat} {o : List (Nat × Nat)} {c : UInt8} {x : Nd} (h : ChkAt l a o c) (hx : l[a]? = some x) (hr : rowC c x = none) : checkP l = (a, 3) := by
  have hl := (List.getElem?_eq_some_iff.1 hx).1
  obtain ⟨_, _, _, h⟩ := h
  unfold checkP
  rcases h with ⟨_, _, h⟩ | ⟨_, h⟩
  · rw [h, if_neg (by simp only; omega)]
  · rw [h, goP_no hx hr, if_neg (by simp)]
theorem ChkAt.step {l : List Nd} {a : Nat} {o o' : List (Nat × Nat)} {c c' : UInt8} {x : Nd} {r : List UInt8} (h : ChkAt l a o c) (hx : l[a]? = some x) (hr : rowC c x = some r) (hn : NextIs l (o ++ [(a, 0)]) o' c') : ChkAt l (a + 1) o' c' := by
  have hl := (List.getElem?_eq_some_iff.1 hx).1
  obtain ⟨h1, h2, h3, h4⟩ := h
  obtain ⟨n1, n2, n3⟩ := hn
  have hcf : clsOf x.O = c ∧ fitsP x = true ∧ r = rowP x := by
    unfold rowC at hr
    split at hr
    · next hc => exact ⟨hc.1, hc.2, (Option.some.inj hr).symm⟩
    · cases hr
  have hg : goP l [85] 0 = goP l (pendO l (o ++ [(a, 0)])) (a + 1) := by
    rcases h4 with ⟨_, e, _⟩ | ⟨_, e⟩
    · exact absurd (hcf.1.trans e) (cls_46 _)
    · rw [e, goP_yes hx hr, pendO_snoc]
      unfold pieceO
      simp only [hx, List.drop_zero, hcf.2.2]
  refine ⟨by rw [List.length_append] at n1; simp at n1; omega, hl, n2, ?_⟩
  rcases n3 with ⟨e1, e2, e3⟩ | ⟨e1, e2⟩
  · exact .inl ⟨e1, e2, by rw [hg, e3, goP_nil]⟩
  · exact .inr ⟨e1, by rw [hg, e2]⟩
theorem ChkAt.fin {l : List Nd} {o : List (Nat × Nat)} {c : UInt8} (h : ChkAt l l.length o c) : checkP l = if c = 46 then (0, 0) else (l.length, 3) := by
  obtain ⟨_, _, _, h⟩ := h
  unfold checkP
  rcases h with ⟨_, rfl, h⟩ | ⟨hc, h⟩
  · rw [h, if_pos ⟨rfl, rfl⟩, if_pos rfl]
  · rw [h, goP_end (Nat.le_refl _), if_neg (by simp), if_neg hc]
theorem next_pop {l : List Nd} {o o' : List (Nat × Nat)} {c : UInt8} {a s : Nat} {x : Nd} (hx : l[a]? = some x) (hf : fitsP x = true) (hs : x.K ≤ (s : Int)) (h : NextIs l o o' c) : NextIs l (o ++ [(a, s)]) o' c := by
  obtain ⟨h1, h2, h3⟩ := h
  refine ⟨by rw [List.length_append]; omega, h2, ?_⟩
  rw [pendO_snoc, piece_done hx hf hs, List.nil_append]
  exact h3
theorem next_hit {l : List Nd} {o : List (Nat × Nat)} {a s : Nat} {x : Nd} (ho : Opens l o) (hx : l[a]? = some x) (hf : fitsP x = true) (hs : (s : Int) < x.K) : NextIs l (o ++ [(a, s)]) (o ++ [(a, s + 1)]) ((shpP x).cls s x.K.toNat) :=
  ⟨by rw [List.length_append, List.length_append]; simp, ho.snoc hx hf (by simp only; omega), .inr ⟨cls_ne hf hs, by rw [pendO_snoc, pendO_snoc, piece_next hx hf hs]; rfl⟩⟩
theorem next_nil (l : List Nd) : NextIs l [] [] 46 := ⟨Nat.le_refl _, fun p h => by simp at h, .inl ⟨rfl, rfl, rfl⟩⟩
end Go.Proofs.Ytgodjgbdjgiapaa
