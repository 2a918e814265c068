/-
  Brackets and signs ahead, as many as one likes: the tokens, and what is read of them; plainly.
-/
import Derived.Test.YtglmcjplglgnlaaTermX
namespace Go.Proofs.Ytglmcjplglgnlaa
open Go.RowKit

/-! ### The text and its tokens -/
def mins : Nat → List UInt8
  | 0 => []
  | m + 1 => 45 :: 32 :: mins m
theorem mins_len : ∀ m, (mins m).length = 2 * m
  | 0 => rfl
  | m + 1 => by rw [mins, List.length_cons, List.length_cons, mins_len m]; omega
theorem mins_snoc : ∀ m, mins (m + 1) = mins m ++ [45, 32]
  | 0 => rfl
  | m + 1 => by show 45 :: 32 :: mins (m + 1) = (45 :: 32 :: mins m) ++ [45, 32]; rw [mins_snoc m]; rfl
def deepL (n m k : Nat) : List UInt8 := List.replicate n 40 ++ (mins m ++ 120 :: List.replicate k 41)
/-- A token's kind and text. -/
def shp (t : Tok) : Int × ByteArray := (t.K, t.S)
def deepS (n m k : Nat) : List (Int × ByteArray) := List.replicate n (4, str [40]) ++ (List.replicate m (4, str [45]) ++ (1, str [120]) :: (List.replicate k (4, str [41]) ++ [(0, str [])]))

theorem nxt_at {s : List UInt8} {a : Nat} {p : List UInt8} {c : UInt8} {t : List UInt8} {K : Int} {n : Nat} (h : s.drop a = p ++ c :: t) (hp : ∀ b ∈ p, blk (ob b) = true) (hc : blk (ob c) = false) (hc2 : ob c ≠ 35) (hpc : pc (c :: t) = (K, n, 0)) (hK : K ≠ 2) :
    nxt s a = (⟨K, str ((c :: t).take n), 0, ((a + p.length : Nat) : Int)⟩, ((a + p.length + n : Nat) : Int), 0) := by
  have h1 : skp false (s.drop a) = p.length := by rw [h, skp_blanks p _ hp, skp_none hc hc2]; rfl
  have h2 : s.drop (a + p.length) = c :: t := by rw [← List.drop_drop, h, List.drop_left]
  unfold nxt
  simp only [h1, h2, hpc, ne_eq, not_true_eq_false, if_false, if_neg hK]
  simp
theorem nxt_fin {s : List UInt8} {a : Nat} (h : s.drop a = []) : nxt s a = (⟨0, str [], 0, (a : Int)⟩, (a : Int), 0) := by
  unfold nxt
  simp only [h, skp, Nat.add_zero, pc, if_true, ne_eq, not_true_eq_false, if_false]
  simp

theorem drop_on {s : List UInt8} {a : Nat} {p t : List UInt8} (h : s.drop a = p ++ t) : s.drop (a + p.length) = t := by rw [← List.drop_drop, h, List.drop_left]
theorem drop_lt {s : List UInt8} {a : Nat} {t : List UInt8} (h : s.drop a = t) (ht : 0 < t.length) : a + t.length = s.length := by
  have := congrArg List.length h
  rw [List.length_drop] at this
  omega

theorem pc_sign {c : UInt8} (t : List UInt8) (h : c = 40 ∨ c = 41 ∨ c = 45) : pc (c :: t) = (4, 1, 0) := by
  rcases h with rfl | rfl | rfl <;> (unfold pc pcSign; rfl)
theorem pc_x (k : Nat) : pc (120 :: List.replicate k 41) = (1, 1, 0) := by
  have h : spn isN (120 :: List.replicate k 41) = 1 := by
    cases k <;> rfl
  unfold pc
  rw [if_neg (by simp), if_pos (by rfl)]
  unfold pcName
  rw [h]
  rfl

/-- What closes. -/
theorem toks_close (s : List UInt8) : ∀ (k a : Nat), s.drop a = List.replicate k 41 → a ≤ s.length → ∃ ts r, Toks s a ts (r, 0) ∧ ts.map shp = List.replicate k (4, str [41]) ++ [(0, str [])]
  | 0, a, h, _ => ⟨_, _, .fin a _ _ (nxt_fin h) rfl, rfl⟩
  | k + 1, a, h, ha => by
    have h' : s.drop a = [] ++ 41 :: List.replicate k 41 := h
    have hn := nxt_at h' (by simp) (by rfl) (by decide) (pc_sign _ (.inr (.inl rfl))) (by decide)
    have hl := drop_lt h (by simp)
    rw [List.length_replicate] at hl
    have hd : s.drop (a + 1) = List.replicate k 41 := by have := drop_on (p := [41]) (show s.drop a = [41] ++ List.replicate k 41 from h); exact this
    obtain ⟨ts, r, h1, h2⟩ := toks_close s k (a + 1) hd (by omega)
    refine ⟨_, r, .step a (a + 1) _ ts _ hn (show (4 : Int) ≠ 0 by decide) (by omega) (by omega) h1, ?_⟩
    rw [List.map_cons, h2]; rfl
/-- The name, and what closes; a blank may stand ahead. -/
theorem toks_x (s : List UInt8) (k a : Nat) (p : List UInt8) (hp : ∀ b ∈ p, blk (ob b) = true) (h : s.drop a = p ++ 120 :: List.replicate k 41) : ∃ ts r, Toks s a ts (r, 0) ∧ ts.map shp = (1, str [120]) :: (List.replicate k (4, str [41]) ++ [(0, str [])]) := by
  have hn := nxt_at h hp (by rfl) (by decide) (pc_x k) (by decide)
  have hl := drop_lt h (by simp; omega)
  rw [List.length_append, List.length_cons, List.length_replicate] at hl
  have hd : s.drop (a + p.length + 1) = List.replicate k 41 := by
    have e := drop_on h
    exact drop_on (p := [120]) (show s.drop (a + p.length) = [120] ++ List.replicate k 41 from e)
  obtain ⟨ts, r, h1, h2⟩ := toks_close s k (a + p.length + 1) hd (by omega)
  refine ⟨_, r, .step a (a + p.length + 1) _ ts _ hn (show (1 : Int) ≠ 0 by decide) (by omega) (by omega) h1, ?_⟩
  rw [List.map_cons, h2]; rfl
theorem toks_min (s : List UInt8) (k : Nat) : ∀ (m a : Nat) (p : List UInt8), (∀ b ∈ p, blk (ob b) = true) → s.drop a = p ++ (mins m ++ 120 :: List.replicate k 41) → ∃ ts r, Toks s a ts (r, 0) ∧ ts.map shp = List.replicate m (4, str [45]) ++ (1, str [120]) :: (List.replicate k (4, str [41]) ++ [(0, str [])])
  | 0, a, p, hp, h => toks_x s k a p hp h
  | m + 1, a, p, hp, h => by
    have h' : s.drop a = p ++ 45 :: ([32] ++ (mins m ++ 120 :: List.replicate k 41)) := h
    have hn := nxt_at h' hp (by rfl) (by decide) (pc_sign _ (.inr (.inr rfl))) (by decide)
    have hl := drop_lt h' (by simp; omega)
    rw [List.length_append, List.length_cons] at hl
    have hd : s.drop (a + p.length + 1) = [32] ++ (mins m ++ 120 :: List.replicate k 41) := by
      have e := drop_on h'
      exact drop_on (p := [45]) (show s.drop (a + p.length) = [45] ++ _ from e)
    obtain ⟨ts, r, h1, h2⟩ := toks_min s k m (a + p.length + 1) [32] (by intro b hb; rw [List.mem_singleton] at hb; rw [hb]; rfl) hd
    refine ⟨_, r, .step a (a + p.length + 1) _ ts _ hn (show (4 : Int) ≠ 0 by decide) (by omega) (by omega) h1, ?_⟩
    rw [List.map_cons, h2]; rfl
theorem toks_open (s : List UInt8) (m k : Nat) : ∀ (n a : Nat), s.drop a = deepL n m k → ∃ ts r, Toks s a ts (r, 0) ∧ ts.map shp = deepS n m k
  | 0, a, h => toks_min s k m a [] (by simp) h
  | n + 1, a, h => by
    have h' : s.drop a = [] ++ 40 :: deepL n m k := h
    have hn := nxt_at h' (by simp) (by rfl) (by decide) (pc_sign _ (.inl rfl)) (by decide)
    have hl := drop_lt h' (by simp)
    rw [List.nil_append, List.length_cons] at hl
    have hd : s.drop (a + 1) = deepL n m k := drop_on (p := [40]) (show s.drop a = [40] ++ deepL n m k from h)
    obtain ⟨ts, r, h1, h2⟩ := toks_open s m k n (a + 1) hd
    refine ⟨_, r, .step a (a + 1) _ ts _ hn (show (4 : Int) ≠ 0 by decide) (by omega) (by omega) h1, ?_⟩
    rw [List.map_cons, h2]; rfl
theorem toks_deep (n m k : Nat) : ∃ ts r, Toks (deepL n m k) 0 ts (r, 0) ∧ ts.map shp = deepS n m k := toks_open (deepL n m k) m k n 0 rfl

/-! ### What is read of them -/
theorem shp_at {ts : List Tok} {n m k : Nat} (h : ts.map shp = deepS n m k) {i : Nat} {x : Int × ByteArray} (hx : (deepS n m k)[i]? = some x) : shp (tokAt ts i) = x := by
  rw [← h, List.getElem?_map] at hx
  obtain ⟨t, ht, rfl⟩ := Option.map_eq_some_iff.1 hx
  rw [tokAt_in ht]
theorem deep_len (n m k : Nat) : (deepS n m k).length = n + m + 1 + k + 1 := by simp [deepS]; omega
theorem deep_open {n m k i : Nat} (h : i < n) : (deepS n m k)[i]? = some (4, str [40]) := by
  unfold deepS
  rw [List.getElem?_append_left (by simpa using h), List.getElem?_replicate, if_pos h]
theorem deep_min {n m k i : Nat} (h : n ≤ i) (h2 : i < n + m) : (deepS n m k)[i]? = some (4, str [45]) := by
  unfold deepS
  rw [List.getElem?_append_right (by simpa using h), List.length_replicate, List.getElem?_append_left (by rw [List.length_replicate]; omega), List.getElem?_replicate, if_pos (by omega)]
theorem deep_x (n m k : Nat) : (deepS n m k)[n + m]? = some (1, str [120]) := by
  unfold deepS
  rw [List.getElem?_append_right (by simp), List.length_replicate, List.getElem?_append_right (by rw [List.length_replicate]; omega), List.length_replicate, show n + m - n - m = 0 by omega]
  rfl
theorem deep_behind {n m k i : Nat} (h : n + m + 1 ≤ i) (h2 : i < n + m + 1 + k) : (deepS n m k)[i]? = some (4, str [41]) := by
  unfold deepS
  rw [List.getElem?_append_right (by simp; omega), List.length_replicate, List.getElem?_append_right (by rw [List.length_replicate]; omega), List.length_replicate]
  obtain ⟨j, hj⟩ : ∃ j, i - n - m = j + 1 := ⟨i - n - m - 1, by omega⟩
  rw [hj, List.getElem?_cons_succ, List.getElem?_append_left (by rw [List.length_replicate]; omega), List.getElem?_replicate, if_pos (by omega)]
theorem deep_end (n m k : Nat) : (deepS n m k)[n + m + 1 + k]? = some (0, str []) := by
  unfold deepS
  rw [List.getElem?_append_right (by simp; omega), List.length_replicate, List.getElem?_append_right (by rw [List.length_replicate]; omega), List.length_replicate]
  rw [show n + m + 1 + k - n - m = k + 1 by omega, List.getElem?_cons_succ, List.getElem?_append_right (by simp), List.length_replicate, Nat.sub_self]
  rfl

/-- A term without signs between, where none goes on with it, is one of each level. -/
theorem lev_of_one {ts : List Tok} {i d B : Nat} {R : List Nd × Nat × Int} (h : ∀ f, B ≤ f → one ts f i d = R) (hk : R.2.2 = 0 → ∀ j : Nat, 1 ≤ j → j ≤ 5 → kd (tokAt ts R.2.1) j = 0) (hb : R.2.2 ≠ 0 → R.1 = []) :
    ∀ (q n : Nat), n + q = 6 → 1 ≤ n → ∀ f, B + 1 + q ≤ f → lev ts f i n d = R := by
  intro q
  induction q with
  | zero =>
    intro n hn h1 f hf
    obtain rfl : n = 6 := by omega
    obtain ⟨g, rfl⟩ : ∃ g, f = g + 1 := ⟨f - 1, by omega⟩
    rw [lev_six]
    exact h g (by omega)
  | succ q ih =>
    intro n hn h1 f hf
    obtain ⟨g, rfl⟩ : ∃ g, f = g + 1 := ⟨f - 1, by omega⟩
    rw [lev_low ts g i d (by omega)]
    have e := ih (n + 1) (by omega) (by omega) g (by omega)
    obtain ⟨l, a, E⟩ := R
    by_cases hE : E = 0
    · subst hE
      rw [lp_ok e]
      obtain ⟨g', rfl⟩ : ∃ g', g = g' + 1 := ⟨g - 1, by omega⟩
      rw [goL_stop (.inl (hk rfl n h1 (by omega)))]
      simp
    · rw [lp_bad e hE]
      have := hb hE
      simp only at this
      rw [this]

section
variable {ts : List Tok} {n m k : Nat} (h : ts.map shp = deepS n m k)
include h
theorem at_open {i : Nat} (hi : i < n) : (tokAt ts i).K = 4 ∧ (tokAt ts i).S = str [40] := by have := shp_at h (deep_open (m := m) (k := k) hi); exact ⟨congrArg Prod.fst this, congrArg Prod.snd this⟩
theorem at_min {i : Nat} (hi : n ≤ i) (h2 : i < n + m) : (tokAt ts i).K = 4 ∧ (tokAt ts i).S = str [45] := by have := shp_at h (deep_min (k := k) hi h2); exact ⟨congrArg Prod.fst this, congrArg Prod.snd this⟩
theorem at_x : (tokAt ts (n + m)).K = 1 ∧ (tokAt ts (n + m)).S = str [120] := by have := shp_at h (deep_x n m k); exact ⟨congrArg Prod.fst this, congrArg Prod.snd this⟩
theorem at_behind {i : Nat} (hi : n + m + 1 ≤ i) (h2 : i < n + m + 1 + k) : (tokAt ts i).K = 4 ∧ (tokAt ts i).S = str [41] := by have := shp_at h (deep_behind hi h2); exact ⟨congrArg Prod.fst this, congrArg Prod.snd this⟩
theorem at_fin : (tokAt ts (n + m + 1 + k)).K = 0 := by have := shp_at h (deep_end n m k); exact congrArg Prod.fst this
theorem kd_open {i : Nat} (hi : i < n) : kd (tokAt ts i) 6 = 0 ∧ isOn (tokAt ts i) (str [40]) = true := by
  obtain ⟨a, b⟩ := at_open h hi
  refine ⟨?_, by simp [isOn, a, b]⟩
  unfold kd
  rw [if_pos a, b, knd_six, if_neg (str_ne (by decide)), if_neg (str_ne (by decide))]
theorem kd_min {i : Nat} (hi : n ≤ i) (h2 : i < n + m) : kd (tokAt ts i) 6 = 3 := by
  obtain ⟨a, b⟩ := at_min h hi h2
  unfold kd
  rw [if_pos a, b, knd_six, if_pos rfl]
/-- Behind the name nothing goes on. -/
theorem kd_behind {i : Nat} (hi : n + m + 1 ≤ i) (h2 : i ≤ n + m + 1 + k) (j : Nat) (h1 : 1 ≤ j) (h5 : j ≤ 5) : kd (tokAt ts i) j = 0 := by
  rcases Nat.eq_or_lt_of_le h2 with rfl | hlt
  · have := at_fin h
    unfold kd
    rw [if_neg (by omega)]
  · obtain ⟨a, b⟩ := at_behind h hi hlt
    unfold kd
    rw [if_pos a, b, knd_op _ j h1 h5]
    have e : opS (str [41]) = 0 := by simp [opS, opT, opF, str_iff]
    rw [e, if_pos rfl]

/-- Too deep. -/
theorem deep_long (hT : 24 < n + m) : ∀ (q i : Nat), i + q = 24 → ∀ f, 8 * q + 1 ≤ f → one ts f i i = ([], 24, 5) := by
  intro q
  induction q with
  | zero =>
    intro i hi f hf
    obtain rfl : i = 24 := by omega
    obtain ⟨g, rfl⟩ : ∃ g, f = g + 1 := ⟨f - 1, by omega⟩
    by_cases hn : 24 < n
    · obtain ⟨a, _⟩ := at_open h hn
      obtain ⟨b, c⟩ := kd_open h hn
      exact one_deep (by omega) (by omega) (fun e => by rw [c] at e; cases e.2) rfl
    · obtain ⟨a, _⟩ := at_min h (by omega) hT
      have b := kd_min h (by omega : n ≤ 24) hT
      exact one_deep (by omega) (by omega) (fun e => by rw [b] at e; exact absurd e.1 (by decide)) rfl
  | succ q ih =>
    intro i hi f hf
    obtain ⟨g, rfl⟩ : ∃ g, f = g + 1 := ⟨f - 1, by omega⟩
    by_cases hn : i < n
    · obtain ⟨a, _⟩ := at_open h hn
      obtain ⟨b, c⟩ := kd_open h hn
      rw [one_brk (by omega) (by omega) b c (by omega)]
      have e := lev_of_one (R := ([], 24, 5)) (fun f hf => ih (i + 1) (by omega) f hf) (by simp) (fun _ => rfl) 5 1 rfl (Nat.le_refl _) g (by omega)
      unfold brk
      rw [e]
      simp
    · obtain ⟨a, _⟩ := at_min h (by omega : n ≤ i) (by omega)
      have b := kd_min h (by omega : n ≤ i) (by omega)
      rw [one_sign (by omega) (by omega) (by rw [b]; decide) (by omega), ih (i + 1) (by omega) g (by omega)]
      simp
/-- The signs ahead. -/
theorem deep_signs (hT : n + m ≤ 24) : ∀ (q i : Nat), i + q = n + m → n ≤ i → ∃ l, l.length = q + 1 ∧ ∀ f, 8 * q + 1 ≤ f → one ts f i i = (l, n + m + 1, 0) := by
  intro q
  induction q with
  | zero =>
    intro i hi hn
    obtain rfl : i = n + m := by omega
    obtain ⟨a, _⟩ := at_x h
    refine ⟨[⟨2, (tokAt ts (n + m)).S, 0, 0, (tokAt ts (n + m)).A⟩], rfl, fun f hf => ?_⟩
    obtain ⟨g, rfl⟩ : ∃ g, f = g + 1 := ⟨f - 1, by omega⟩
    rw [one_name a]
  | succ q ih =>
    intro i hi hn
    obtain ⟨a, _⟩ := at_min h hn (by omega)
    have b := kd_min h hn (by omega)
    obtain ⟨l, hl, e⟩ := ih (i + 1) (by omega) (by omega)
    refine ⟨⟨kd (tokAt ts i) 6, ⟨#[]⟩, 0, 1, (tokAt ts i).A⟩ :: l, by rw [List.length_cons, hl], fun f hf => ?_⟩
    obtain ⟨g, rfl⟩ : ∃ g, f = g + 1 := ⟨f - 1, by omega⟩
    rw [one_sign (by omega) (by omega) (by rw [b]; decide) (by omega), e g (by omega)]
    simp
/-- Brackets that are closed. -/
theorem deep_close (hT : n + m ≤ 24) (hk : k = n) : ∀ (q i : Nat), i + q = n → ∃ l, l.length = m + 1 ∧ ∀ f, 8 * (m + q) + 1 ≤ f → one ts f i i = (l, n + m + 1 + q, 0) := by
  intro q
  induction q with
  | zero =>
    intro i hi
    obtain rfl : i = n := by omega
    exact deep_signs h hT m i rfl (Nat.le_refl _)
  | succ q ih =>
    intro i hi
    obtain ⟨l, hl, e⟩ := ih (i + 1) (by omega)
    obtain ⟨a, _⟩ := at_open h (by omega : i < n)
    obtain ⟨b, c⟩ := kd_open h (by omega : i < n)
    obtain ⟨d1, d2⟩ := at_behind h (by omega : n + m + 1 ≤ n + m + 1 + q) (by omega)
    refine ⟨l, hl, fun f hf => ?_⟩
    obtain ⟨g, rfl⟩ : ∃ g, f = g + 1 := ⟨f - 1, by omega⟩
    rw [one_brk (by omega) (by omega) b c (by omega)]
    have e2 := lev_of_one (R := (l, n + m + 1 + q, 0)) (B := 8 * (m + q) + 1) (fun f hf => e f hf) (fun _ j h1 h5 => kd_behind h (by simp only; omega) (by simp only; omega) j h1 h5) (fun c => absurd rfl c) 5 1 rfl (Nat.le_refl _) g (by omega)
    unfold brk
    rw [e2]
    have hon : isOn (tokAt ts (n + m + 1 + q)) (str [41]) = true := by simp [isOn, d1, d2]
    simp [hon]
    omega
/-- Brackets that are not. -/
theorem deep_left (hT : n + m ≤ 24) (hk : k = 0) : ∀ (q i : Nat), i + q + 1 = n → ∀ f, 8 * (m + q + 1) + 1 ≤ f → one ts f i i = ([], n + m + 1, 11) := by
  intro q
  induction q with
  | zero =>
    intro i hi f hf
    obtain ⟨g, rfl⟩ : ∃ g, f = g + 1 := ⟨f - 1, by omega⟩
    obtain ⟨a, _⟩ := at_open h (by omega : i < n)
    obtain ⟨b, c⟩ := kd_open h (by omega : i < n)
    rw [one_brk (by omega) (by omega) b c (by omega)]
    obtain ⟨l, hl, e⟩ := deep_signs h hT m n rfl (Nat.le_refl _)
    obtain rfl : i + 1 = n := by omega
    have e2 := lev_of_one (R := (l, i + 1 + m + 1, 0)) (B := 8 * m + 1) (fun f hf => e f hf) (fun _ j h1 h5 => kd_behind h (by simp only; omega) (by simp only; omega) j h1 h5) (fun c => absurd rfl c) 5 1 rfl (Nat.le_refl _) g (by omega)
    unfold brk
    rw [e2]
    have d := at_fin h
    rw [hk, Nat.add_zero] at d
    have hon : isOn (tokAt ts (i + 1 + m + 1)) (str [41]) = false := by simp [isOn, d]
    simp [hon]
  | succ q ih =>
    intro i hi f hf
    obtain ⟨g, rfl⟩ : ∃ g, f = g + 1 := ⟨f - 1, by omega⟩
    obtain ⟨a, _⟩ := at_open h (by omega : i < n)
    obtain ⟨b, c⟩ := kd_open h (by omega : i < n)
    rw [one_brk (by omega) (by omega) b c (by omega)]
    have e2 := lev_of_one (R := ([], n + m + 1, 11)) (B := 8 * (m + q + 1) + 1) (fun f hf => ih (i + 1) (by omega) f hf) (by simp) (fun _ => rfl) 5 1 rfl (Nat.le_refl _) g (by omega)
    unfold brk
    rw [e2]
    simp

theorem ts_len : ts.length = n + m + 1 + k + 1 := by
  have := congrArg List.length h
  rw [List.length_map, deep_len] at this
  exact this
theorem ts_sizes : ∀ t ∈ ts, t.S.size ≤ maxLen := by
  intro t ht
  have : shp t ∈ deepS n m k := by rw [← h]; exact List.mem_map_of_mem ht
  unfold deepS at this
  simp only [List.mem_append, List.mem_cons, List.mem_replicate, List.not_mem_nil, or_false] at this
  have key : ∀ x : Int × ByteArray, shp t = x → x.2.size ≤ 1 → t.S.size ≤ maxLen := fun x e hx => by
    have : t.S = x.2 := congrArg Prod.snd e
    rw [this]; unfold maxLen; omega
  rcases this with ⟨_, e⟩ | ⟨_, e⟩ | e | ⟨_, e⟩ | e
  all_goals exact key _ e (by decide)
/-- All of it. -/
theorem deep_parse : (24 < n + m → parseI ts 0 = ([], 24, 5)) ∧ (n + m ≤ 24 → k = 0 → 0 < n → parseI ts 0 = ([], n + m + 1, 11)) ∧ (n + m ≤ 24 → k = n → ∃ l, parseI ts 0 = (l, n * 2 + m + 1, 0) ∧ l.length = m + 1) := by
  have hl := ts_len h
  have hp : parseI ts 0 = lev ts (fuelOf ts) 0 1 0 := by unfold parseI parseP; rw [if_neg (by omega)]; rfl
  rw [hp]
  unfold fuelOf
  refine ⟨fun hT => ?_, fun hT hk hn => ?_, fun hT hk => ?_⟩
  · exact lev_of_one (R := ([], 24, 5)) (B := 8 * 24 + 1) (fun f hf => deep_long h hT 24 0 rfl f hf) (by simp) (fun _ => rfl) 5 1 rfl (Nat.le_refl _) _ (by omega)
  · exact lev_of_one (R := ([], n + m + 1, 11)) (B := 8 * (m + (n - 1) + 1) + 1) (fun f hf => deep_left h hT hk (n - 1) 0 (by omega) f hf) (by simp) (fun _ => rfl) 5 1 rfl (Nat.le_refl _) _ (by omega)
  · obtain ⟨l, e1, e2⟩ := deep_close h hT hk n 0 (by omega)
    refine ⟨l, ?_, e1⟩
    rw [show n * 2 + m + 1 = n + m + 1 + n by omega]
    exact lev_of_one (R := (l, n + m + 1 + n, 0)) (B := 8 * (m + n) + 1) (fun f hf => e2 f hf) (fun _ j h1 h5 => kd_behind h (by simp only; omega) (by simp only; omega) j h1 h5) (fun c => absurd rfl c) 5 1 rfl (Nat.le_refl _) _ (by omega)
end
end Go.Proofs.Ytglmcjplglgnlaa
