/-
  Trees that lie in one row, plainly: how many nodes so many pieces take; a node's kids; the node above.
-/
import Derived.Test.YtglmcjplglgnlaaTokM
namespace Go.Proofs.Ytglmcjplglgnlaa
open Go.RowKit

/-- A node. -/
structure Nd where
  O : Int
  S : ByteArray
  N : Int
  K : Int
  A : Int
def Nd.cs (x : Nd) : List Value := [.int .i64 x.O, .string x.S, .int .i64 x.N, .int .i64 x.K, .int .i64 x.A]
def Nd.agg (x : Nd) : Value := .agg #[.int .i64 x.O, .string x.S, .int .i64 x.N, .int .i64 x.K, .int .i64 x.A]
/-- What a node's fields may be. -/
structure Nd.ok (x : Nd) : Prop where
  s : x.S.size ≤ 9223372036854775807
  o1 : -9223372036854775808 ≤ x.O
  o2 : x.O ≤ 9223372036854775807
  n1 : -9223372036854775808 ≤ x.N
  n2 : x.N ≤ 9223372036854775807
  k1 : -9223372036854775808 ≤ x.K
  k2 : x.K ≤ 9223372036854775807
def zn : Nd := ⟨0, ⟨#[]⟩, 0, 0, 0⟩
/-- How many kids they have. -/
def ks (l : List Nd) : List Nat := l.map (fun x => x.K.toNat)
theorem ks_len (l : List Nd) : (ks l).length = l.length := by simp [ks]
theorem ks_drop (l : List Nd) (i : Nat) : (ks l).drop i = ks (l.drop i) := by simp [ks, List.map_drop]

/-! ### How many nodes m pieces take -/
def tk : Nat → List Nat → Nat
  | 0, _ => 0
  | _ + 1, [] => 0
  | m + 1, k :: t => tk (m + k) t + 1
theorem tk_zero (l : List Nat) : tk 0 l = 0 := by cases l <;> rfl
theorem tk_nil (m : Nat) : tk m [] = 0 := by cases m <;> rfl
theorem tk_cons (m k : Nat) (t : List Nat) : tk (m + 1) (k :: t) = tk (m + k) t + 1 := rfl
theorem tk_le : ∀ (l : List Nat) (m : Nat), tk m l ≤ l.length
  | [], m => by rw [tk_nil]; exact Nat.zero_le _
  | k :: t, 0 => by rw [tk_zero]; exact Nat.zero_le _
  | k :: t, m + 1 => by rw [tk_cons, List.length_cons]; have := tk_le t (m + k); omega
theorem tk_ge : ∀ (l : List Nat) (m : Nat), l.length ≤ m → tk m l = l.length
  | [], m, _ => by rw [tk_nil]; rfl
  | k :: t, 0, h => by simp at h
  | k :: t, m + 1, h => by rw [tk_cons, tk_ge t (m + k) (by rw [List.length_cons] at h; omega), List.length_cons]
theorem tk_add : ∀ (l : List Nat) (a b : Nat), tk (a + b) l = tk a l + tk b (l.drop (tk a l))
  | [], a, b => by rw [tk_nil, tk_nil, List.drop_nil, tk_nil]
  | k :: t, 0, b => by rw [tk_zero, Nat.zero_add, List.drop_zero, Nat.zero_add]
  | k :: t, a + 1, b => by
    rw [show a + 1 + b = (a + b) + 1 by omega, tk_cons, tk_cons, List.drop_succ_cons, show a + b + k = a + k + b by omega, tk_add t (a + k) b]
    omega
theorem tk_cap {l : List Nat} {m k c : Nat} (h : l.length ≤ c) : tk (m + min k c) l = tk (m + k) l := by
  rcases Nat.le_total k c with hk | hk
  · rw [Nat.min_eq_left hk]
  · rw [Nat.min_eq_right hk, tk_ge l _ (by omega), tk_ge l _ (by omega)]
theorem tk_pos {l : List Nat} {m : Nat} (h : 0 < m) (hl : 0 < l.length) : 0 < tk m l := by
  match l, hl with
  | k :: t, _ =>
    obtain ⟨m', rfl⟩ : ∃ m', m = m' + 1 := ⟨m - 1, by omega⟩
    rw [tk_cons]; omega
theorem tk_mono {l : List Nat} {a b : Nat} (h : a ≤ b) : tk a l ≤ tk b l := by
  obtain ⟨d, rfl⟩ := Nat.exists_eq_add_of_le h
  rw [tk_add]; omega
theorem tk_lt {l : List Nat} {a b : Nat} (h : a < b) (hl : tk a l < l.length) : tk a l < tk b l := by
  obtain ⟨d, rfl⟩ := Nat.exists_eq_add_of_le (Nat.le_of_lt h)
  rw [tk_add]
  have := tk_pos (l := l.drop (tk a l)) (m := d) (by omega) (by rw [List.length_drop]; omega)
  omega
theorem tk_inj {l : List Nat} {a b : Nat} (h : tk a l = tk b l) (hl : tk a l < l.length) : a = b := by
  rcases Nat.lt_trichotomy a b with c | c | c
  · have := tk_lt c hl; omega
  · exact c
  · have := tk_lt c (by omega : tk b l < l.length); omega
theorem drop_at {l : List Nat} {i : Nat} (h : i < l.length) : l.drop i = l[i] :: l.drop (i + 1) := List.drop_eq_getElem_cons h

/-! ### The place behind a piece -/
/-- Behind the piece at i. -/
def endN (k : List Nat) (i : Nat) : Nat := i + tk 1 (k.drop i)
def endI (l : List Nd) (i : Int) : Int := if 0 ≤ i ∧ i < l.length then (endN (ks l) i.toNat : Int) else l.length
theorem endN_le (k : List Nat) {i : Nat} (h : i ≤ k.length) : endN k i ≤ k.length := by
  have := tk_le (k.drop i) 1
  rw [List.length_drop] at this
  unfold endN; omega
theorem endN_gt {k : List Nat} {i : Nat} (h : i < k.length) : i < endN k i := by
  have := tk_pos (l := k.drop i) (m := 1) (by omega) (by rw [List.length_drop]; omega)
  unfold endN; omega
theorem endI_in {l : List Nd} {i : Nat} (h : i < l.length) : endI l (i : Int) = (endN (ks l) i : Int) := by
  unfold endI; rw [if_pos ⟨by omega, by omega⟩, Int.toNat_natCast]
theorem endI_out {l : List Nd} {i : Int} (h : ¬ (0 ≤ i ∧ i < l.length)) : endI l i = l.length := by unfold endI; rw [if_neg h]
/-- Going on: m pieces from a, the first of which ends at b. -/
theorem tk_on {k : List Nat} {m a : Nat} : a + tk (m + 1) (k.drop a) = endN k a + tk m (k.drop (endN k a)) := by
  unfold endN
  rw [Nat.add_comm m 1, tk_add, List.drop_drop]
  omega

/-! ### Kids -/
/-- The places of the first m pieces from a on. -/
def kp (k : List Nat) : Nat → Nat → List Nat
  | 0, _ => []
  | m + 1, a => if a < k.length then a :: kp k m (endN k a) else []
theorem kp_out {k : List Nat} {m a : Nat} (h : k.length ≤ a) : kp k m a = [] := by
  cases m with
  | zero => rfl
  | succ m => rw [kp, if_neg (by omega)]
theorem kp_in {k : List Nat} {m a : Nat} (h : a < k.length) : kp k (m + 1) a = a :: kp k m (endN k a) := by rw [kp, if_pos h]
theorem kp_get (k : List Nat) : ∀ (m a j : Nat), (kp k m a)[j]? = if j < m ∧ a + tk j (k.drop a) < k.length then some (a + tk j (k.drop a)) else none
  | 0, a, j => by rw [if_neg (by omega)]; rfl
  | m + 1, a, j => by
    by_cases h : a < k.length
    · rw [kp_in h]
      cases j with
      | zero => rw [tk_zero, if_pos ⟨by omega, by omega⟩]; rfl
      | succ j =>
        rw [List.getElem?_cons_succ, kp_get k m (endN k a) j, tk_on]
        by_cases hc : j < m ∧ endN k a + tk j (k.drop (endN k a)) < k.length
        · rw [if_pos hc, if_pos ⟨by omega, hc.2⟩]
        · rw [if_neg hc, if_neg (fun c => hc ⟨by omega, c.2⟩)]
    · rw [kp_out (by omega), if_neg (fun c => by omega)]; rfl
theorem kp_len (k : List Nat) : ∀ (m a : Nat), (kp k m a).length ≤ k.length - a
  | 0, a => Nat.zero_le _
  | m + 1, a => by
    by_cases h : a < k.length
    · rw [kp_in h, List.length_cons]
      have := kp_len k m (endN k a)
      have := endN_gt h
      omega
    · rw [kp_out (by omega)]; exact Nat.zero_le _
/-- The kids of the node at i. -/
def kidsN (k : List Nat) (i : Nat) : List Nat := match k[i]? with
  | some c => kp k c (i + 1)
  | none => []
theorem kidsN_in {k : List Nat} {i : Nat} (h : i < k.length) : kidsN k i = kp k k[i] (i + 1) := by unfold kidsN; rw [List.getElem?_eq_getElem h]
theorem kidsN_out {k : List Nat} {i : Nat} (h : k.length ≤ i) : kidsN k i = [] := by unfold kidsN; rw [List.getElem?_eq_none h]
def kidsI (l : List Nd) (i : Int) : List Nat := if 0 ≤ i then kidsN (ks l) i.toNat else []
theorem kidsI_neg {l : List Nd} {i : Int} (h : i < 0) : kidsI l i = [] := by unfold kidsI; rw [if_neg (by omega)]
theorem kidsI_nat (l : List Nd) (i : Nat) : kidsI l (i : Int) = kidsN (ks l) i := by unfold kidsI; rw [if_pos (by omega), Int.toNat_natCast]
theorem kidsI_out {l : List Nd} {i : Int} (h : ¬ (0 ≤ i ∧ i < l.length)) : kidsI l i = [] := by
  by_cases h0 : 0 ≤ i
  · unfold kidsI; rw [if_pos h0, kidsN_out (by rw [ks_len]; omega)]
  · exact kidsI_neg (by omega)
theorem ks_get {l : List Nd} {i : Nat} {x : Nd} (h : l[i]? = some x) : ∃ hl : i < (ks l).length, (ks l)[i] = x.K.toNat := by
  have hl := (List.getElem?_eq_some_iff.1 h).1
  refine ⟨by rw [ks_len]; exact hl, ?_⟩
  have : (ks l)[i]? = some x.K.toNat := by simp [ks, h]
  exact (List.getElem?_eq_some_iff.1 this).2
theorem kidsI_in {l : List Nd} {i : Nat} {x : Nd} (h : l[i]? = some x) : kidsI l (i : Int) = kp (ks l) x.K.toNat (i + 1) := by
  obtain ⟨hl, e⟩ := ks_get h
  rw [kidsI_nat, kidsN_in hl, e]
theorem kidsI_len (l : List Nd) (i : Int) : (kidsI l i).length ≤ l.length := by
  unfold kidsI
  split
  · by_cases h : i.toNat < (ks l).length
    · rw [kidsN_in h]
      have := kp_len (ks l) (ks l)[i.toNat] (i.toNat + 1)
      rw [ks_len] at this
      omega
    · rw [kidsN_out (by omega)]; exact Nat.zero_le _
  · exact Nat.zero_le _
theorem mem_kids {k : List Nat} {i j : Nat} (hi : i < k.length) : j ∈ kidsN k i ↔ ∃ m, m < k[i] ∧ j = i + 1 + tk m (k.drop (i + 1)) ∧ j < k.length := by
  rw [kidsN_in hi, List.mem_iff_getElem?]
  constructor
  · rintro ⟨m, hm⟩
    rw [kp_get] at hm
    split at hm
    · next h => injection hm with e; exact ⟨m, h.1, e.symm, by omega⟩
    · cases hm
  · rintro ⟨m, h1, rfl, h2⟩
    exact ⟨m, by rw [kp_get, if_pos ⟨h1, h2⟩]⟩
theorem kids_lt {k : List Nat} {i j : Nat} (h : j ∈ kidsN k i) : i < j ∧ j < k.length := by
  by_cases hi : i < k.length
  · obtain ⟨m, _, e, h2⟩ := (mem_kids hi).1 h
    exact ⟨by omega, h2⟩
  · rw [kidsN_out (by omega)] at h; simp at h
/-- The k-th kid. -/
def kidI (l : List Nd) (i k : Int) : Int := if 0 ≤ k then (match (kidsI l i)[k.toNat]? with | some p => (p : Int) | none => -1) else -1

/-! ### The node above -/
/-- From c on pieces end at i. -/
def Ends (k : List Nat) (i c m : Nat) : Prop := c + tk m (k.drop c) = i
theorem Ends.next {k : List Nat} {i c m : Nat} (h : Ends k i c m) (hc : c < i) (hi : i < k.length) : ∃ m', m = m' + 1 ∧ Ends k i (c + 1) (m' + k[c]) := by
  unfold Ends at h
  cases m with
  | zero => rw [tk_zero] at h; omega
  | succ m =>
    refine ⟨m, rfl, ?_⟩
    rw [drop_at (by omega), tk_cons] at h
    unfold Ends; omega
theorem Ends.not_kid {k : List Nat} {i c m : Nat} (h : Ends k i (c + 1) m) (hc : c < i) (hi : i < k.length) (hm : k[c] ≤ m) : i ∉ kidsN k c := by
  intro hk
  obtain ⟨j, h1, h2, _⟩ := (mem_kids (by omega)).1 hk
  unfold Ends at h
  have := tk_inj (l := k.drop (c + 1)) (a := j) (b := m) (by omega) (by rw [List.length_drop]; omega)
  omega
theorem Ends.kid {k : List Nat} {i c m : Nat} (h : Ends k i (c + 1) m) (hc : c < i) (hi : i < k.length) (hm : m < k[c]) : i ∈ kidsN k c := by
  unfold Ends at h
  exact (mem_kids (by omega)).2 ⟨m, hm, h.symm, hi⟩
theorem Ends.on {k : List Nat} {i c m : Nat} (h : Ends k i (c + 1) m) (hc : c < i) (hi : i < k.length) (hm : k[c] ≤ m) : Ends k i c (m + 1 - k[c]) := by
  unfold Ends at h ⊢
  rw [drop_at (by omega), show m + 1 - k[c] = (m - k[c]) + 1 by omega, tk_cons, show m - k[c] + k[c] = m by omega]
  omega
/-- Between a node and its kid there is no other node of which it is a kid. -/
theorem Ends.none_on {k : List Nat} {i : Nat} (hi : i < k.length) : ∀ (d c m : Nat), Ends k i c m → c + d < i → i ∉ kidsN k (c + d)
  | 0, c, m, h, hd => by
    obtain ⟨m', rfl, h'⟩ := h.next (by omega) hi
    exact h'.not_kid hd hi (Nat.le_add_left _ _)
  | d + 1, c, m, h, hd => by
    obtain ⟨m', rfl, h'⟩ := h.next (by omega) hi
    have := Ends.none_on hi d (c + 1) _ h' (by omega)
    rwa [show c + 1 + d = c + (d + 1) by omega] at this
theorem kid_unique {k : List Nat} {i a b : Nat} (ha : i ∈ kidsN k a) (hb : i ∈ kidsN k b) : a = b := by
  have key : ∀ a b, i ∈ kidsN k a → i ∈ kidsN k b → ¬ a < b := fun a b ha hb hab => by
    have h1 := kids_lt ha
    have h2 := kids_lt hb
    obtain ⟨m, _, hm, _⟩ := (mem_kids (by omega)).1 ha
    have := Ends.none_on h1.2 (b - (a + 1)) (a + 1) m hm.symm (by omega)
    rw [show a + 1 + (b - (a + 1)) = b by omega] at this
    exact this hb
  have h1 := key a b ha hb
  have h2 := key b a hb ha
  omega
/-- The node above that at i is r; -1: none. -/
def UpIs (l : List Nd) (i : Int) (r : Int) : Prop :=
  (r = -1 ∧ ∀ c j : Nat, (j : Int) = i → j ∉ kidsN (ks l) c) ∨ ∃ c j : Nat, r = (c : Int) ∧ (j : Int) = i ∧ j ∈ kidsN (ks l) c
theorem UpIs.uniq {l : List Nd} {i r r' : Int} (h : UpIs l i r) (h' : UpIs l i r') : r = r' := by
  rcases h with ⟨rfl, h⟩ | ⟨c, j, rfl, hj, hc⟩
  · rcases h' with ⟨rfl, _⟩ | ⟨c', j', _, hj', hc'⟩
    · rfl
    · exact absurd hc' (h c' j' hj')
  · rcases h' with ⟨_, h'⟩ | ⟨c', j', rfl, hj', hc'⟩
    · exact absurd hc (h' c j hj)
    · obtain rfl : j = j' := by omega
      rw [kid_unique hc hc']
theorem UpIs.out {l : List Nd} {i : Int} (h : ¬ (0 ≤ i ∧ i < l.length)) : UpIs l i (-1) := .inl ⟨rfl, fun c j hj hc => by
  have := (kids_lt hc).2
  rw [ks_len] at this
  omega⟩
theorem UpIs.lt {l : List Nd} {i r : Int} (h : UpIs l i r) (h0 : 0 ≤ i) : r < i := by
  rcases h with ⟨rfl, _⟩ | ⟨c, j, rfl, hj, hc⟩
  · omega
  · have := (kids_lt hc).1; omega
/-- Nobody from c on. -/
def NoUp (k : List Nat) (i c : Nat) : Prop := ∀ d, c ≤ d → i ∉ kidsN k d
theorem NoUp.start (k : List Nat) (i : Nat) : NoUp k i i := fun d hd h => by have := (kids_lt h).1; omega
theorem NoUp.cons {k : List Nat} {i c : Nat} (h : NoUp k i (c + 1)) (hc : i ∉ kidsN k c) : NoUp k i c := fun d hd => by
  rcases Nat.eq_or_lt_of_le hd with rfl | e
  · exact hc
  · exact h d e
theorem NoUp.all {l : List Nd} {i : Nat} (h : NoUp (ks l) i 0) : UpIs l (i : Int) (-1) := .inl ⟨rfl, fun c j hj => by
  obtain rfl : j = i := by omega
  exact h c (Nat.zero_le _)⟩

/-! ### A row that is just so many pieces -/
def full : Nat → List Nat → Prop
  | 0, [] => True
  | 0, _ :: _ => False
  | _ + 1, [] => False
  | m + 1, k :: t => full (m + k) t
theorem full_sum : ∀ (l : List Nat) (m : Nat), full m l → m + l.sum = l.length
  | [], 0, _ => rfl
  | [], m + 1, h => h.elim
  | k :: t, 0, h => h.elim
  | k :: t, m + 1, h => by
    have := full_sum t (m + k) h
    rw [List.sum_cons, List.length_cons]; omega
theorem full_drop : ∀ (l : List Nat) (m i : Nat), full m l → i ≤ l.length → ∃ m', full m' (l.drop i)
  | l, m, 0, h, _ => ⟨m, h⟩
  | [], m, i + 1, _, hi => by simp at hi
  | k :: t, 0, i + 1, h, _ => h.elim
  | k :: t, m + 1, i + 1, h, hi => full_drop t (m + k) i h (by rw [List.length_cons] at hi; omega)
theorem full_tk : ∀ (l : List Nat) (m j : Nat), full m l → j < m → tk j l < l.length
  | [], 0, j, _, hj => by omega
  | [], m + 1, j, h, _ => h.elim
  | k :: t, 0, j, h, _ => h.elim
  | k :: t, m + 1, 0, h, _ => by rw [tk_zero]; simp
  | k :: t, m + 1, j + 1, h, hj => by
    rw [tk_cons, List.length_cons]
    have := full_tk t (m + k) (j + k) h (by omega)
    omega
theorem full_all : ∀ (l : List Nat) (m : Nat), full m l → tk m l = l.length
  | [], 0, _ => rfl
  | [], m + 1, h => h.elim
  | k :: t, 0, h => h.elim
  | k :: t, m + 1, h => by rw [tk_cons, full_all t (m + k) h, List.length_cons]
/-- In such a row a node has all its kids. -/
theorem full_kid {k : List Nat} (h : full 1 k) {i j : Nat} (hi : i < k.length) (hj : j < k[i]) : ∃ p, (kidsN k i)[j]? = some p ∧ i < p ∧ p < k.length := by
  obtain ⟨m', hm⟩ := full_drop k 1 i h (by omega)
  rw [drop_at hi] at hm
  cases m' with
  | zero => exact hm.elim
  | succ m' =>
    have := full_tk _ (m' + k[i]) j hm (by omega)
    rw [List.length_drop] at this
    refine ⟨i + 1 + tk j (k.drop (i + 1)), ?_, by omega, by omega⟩
    rw [kidsN_in hi, kp_get, if_pos ⟨hj, by omega⟩]
theorem full_search {k : List Nat} {i : Nat} (hi : i < k.length) : ∀ (d c : Nat), c + d = i → (∃ e, i ∈ kidsN k e) ∨ ∃ m, Ends k i c m
  | 0, c, hd => .inr ⟨0, by unfold Ends; rw [tk_zero]; omega⟩
  | d + 1, c, hd => by
    rcases full_search hi d (c + 1) (by omega) with h | ⟨m, hm⟩
    · exact .inl h
    · rcases Nat.lt_or_ge m k[c] with hlt | hge
      · exact .inl ⟨c, hm.kid (by omega) hi hlt⟩
      · exact .inr ⟨_, hm.on (by omega) hi hge⟩
/-- In such a row all nodes but the first one are kids. -/
theorem full_up {k : List Nat} (h : full 1 k) {i : Nat} (h0 : 0 < i) (hi : i < k.length) : ∃ e, i ∈ kidsN k e := by
  rcases full_search hi i 0 (by omega) with h' | ⟨m, hm⟩
  · exact h'
  · exfalso
    unfold Ends at hm
    rw [List.drop_zero] at hm
    have h1 := full_all k 1 h
    have h2 : 1 ≤ m := by
      rcases Nat.eq_zero_or_pos m with rfl | c
      · rw [tk_zero] at hm; omega
      · exact c
    have h3 := tk_mono (l := k) h2
    omega
theorem full_upIs {l : List Nd} (h : full 1 (ks l)) {i : Nat} {r : Int} (hi : i < l.length) (hr : UpIs l (i : Int) r) : r < (i : Int) ∧ (r < 0 ↔ i = 0) := by
  refine ⟨hr.lt (by omega), ?_, ?_⟩
  · intro hn
    rcases Nat.eq_zero_or_pos i with e | e
    · exact e
    · obtain ⟨c, hc⟩ := full_up h e (by rw [ks_len]; exact hi)
      have := hr.uniq (.inr ⟨c, i, rfl, rfl, hc⟩)
      omega
  · rintro rfl
    have := hr.lt (by omega)
    omega
end Go.Proofs.Ytglmcjplglgnlaa
