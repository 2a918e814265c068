/-
  Terms plainly: the signs and their levels, by the program's table and by the document's; reading a term out of tokens.
-/
import Derived.Test.YtglmcjplglgnlaaTreeM
namespace Go.Proofs.Ytglmcjplglgnlaa
open Go.RowKit

/-! ### Signs -/
/-- The kinds of nodes that have a sign: the kind, the sign, the level. -/
def signT : List (Int × List UInt8 × Int) := [(17, [124, 124], 1), (16, [38, 38], 2), (10, [61, 61], 3), (11, [33, 61], 3), (12, [60], 3), (13, [60, 61], 3), (14, [62], 3), (15, [62, 61], 3), (5, [43], 4), (6, [45], 4), (7, [42], 5), (8, [47], 5), (9, [37], 5), (3, [45], 6), (4, [33], 6)]
def sgS (op : Int) : ByteArray := match signT.find? (fun x => x.1 == op) with
  | some x => str x.2.1
  | none => str []
def sgL (op : Int) : Int := match signT.find? (fun x => x.1 == op) with
  | some x => x.2.2
  | none => 0
def lvl (op : Int) : Int := if op = 1 ∨ op = 2 then 7 else sgL op
/-- The kind of which a text is the sign, on a level; 0: none. -/
def knd (s : ByteArray) (n : Int) : Int := match signT.find? (fun x => decide (str x.2.1 = s) && x.2.2 == n) with
  | some x => x.1
  | none => 0
/-- The document's row of signs between two terms. -/
def opT : List (List UInt8) := [[43], [45], [42], [47], [37], [61, 61], [33, 61], [60], [60, 61], [62], [62, 61], [38, 38], [124, 124]]
/-- Its kind: the place in that row, from k on. -/
def opF : List (List UInt8) → Int → ByteArray → Int
  | [], _, _ => 0
  | x :: l, k, s => if str x = s then k else opF l (k + 1) s
def opS (s : ByteArray) : Int := opF opT 5 s

theorem op_cases (s : ByteArray) : s = str [43] ∨ s = str [45] ∨ s = str [42] ∨ s = str [47] ∨ s = str [37] ∨ s = str [61, 61] ∨ s = str [33, 61] ∨ s = str [60] ∨ s = str [60, 61] ∨ s = str [62] ∨ s = str [62, 61] ∨ s = str [38, 38] ∨ s = str [124, 124] ∨ (∀ x ∈ opT, str x ≠ s) := by
  by_cases h : ∃ x ∈ opT, str x = s
  · obtain ⟨x, hx, rfl⟩ := h
    simp only [opT, List.mem_cons, List.not_mem_nil, or_false] at hx
    rcases hx with rfl | rfl | rfl | rfl | rfl | rfl | rfl | rfl | rfl | rfl | rfl | rfl | rfl <;> simp
  · exact .inr (.inr (.inr (.inr (.inr (.inr (.inr (.inr (.inr (.inr (.inr (.inr (.inr (fun x hx e => h ⟨x, hx, e⟩)))))))))))))
theorem opF_none : ∀ (l : List (List UInt8)) (k : Int) (s : ByteArray), (∀ x ∈ l, str x ≠ s) → opF l k s = 0
  | [], _, _, _ => rfl
  | x :: l, k, s, h => by rw [opF, if_neg (h x List.mem_cons_self), opF_none l _ s (fun y hy => h y (List.mem_cons_of_mem _ hy))]
theorem str_ne {a b : List UInt8} (h : a ≠ b) : str a ≠ str b := fun e => h (str_inj e)
theorem str_iff {a b : List UInt8} : (str a = str b) = (a = b) := propext ⟨str_inj, fun h => by rw [h]⟩
/-- Between two terms both tables agree. -/
theorem knd_op (s : ByteArray) (n : Nat) (h1 : 1 ≤ n) (h5 : n ≤ 5) : knd s (n : Int) = if opS s = 0 then 0 else if lvl (opS s) = (n : Int) then opS s else 0 := by
  obtain rfl | rfl | rfl | rfl | rfl : n = 1 ∨ n = 2 ∨ n = 3 ∨ n = 4 ∨ n = 5 := by omega
  all_goals
    rcases op_cases s with rfl | rfl | rfl | rfl | rfl | rfl | rfl | rfl | rfl | rfl | rfl | rfl | rfl | h
    all_goals first
      | (simp [knd, signT, opS, opT, opF, str_iff, lvl, sgL]; done)
      | (have e : opS s = 0 := opF_none _ _ _ h
         rw [e, if_pos rfl]
         have hn : ∀ x ∈ opT, ¬ (str x = s) := h
         simp only [opT, List.mem_cons, List.not_mem_nil, or_false, forall_eq_or_imp, forall_eq] at hn
         simp [knd, signT, hn])
/-- Ahead of a term. -/
theorem knd_six (s : ByteArray) : knd s 6 = if s = str [45] then 3 else if s = str [33] then 4 else 0 := by
  by_cases h1 : s = str [45]
  · subst h1; simp [knd, signT, str_iff]
  · by_cases h2 : s = str [33]
    · subst h2; simp [knd, signT, str_iff]
    · rw [if_neg h1, if_neg h2]
      have e1 : decide (str [45] = s) = false := decide_eq_false (fun e => h1 e.symm)
      have e2 : decide (str [33] = s) = false := decide_eq_false (fun e => h2 e.symm)
      simp [knd, signT, List.find?, e1, e2]
theorem knd_bd (s : ByteArray) (n : Int) : 0 ≤ knd s n ∧ knd s n ≤ 17 := by
  unfold knd
  split
  · next x hx =>
    have := List.mem_of_find?_eq_some hx
    simp only [signT, List.mem_cons, List.not_mem_nil, or_false] at this
    rcases this with rfl | rfl | rfl | rfl | rfl | rfl | rfl | rfl | rfl | rfl | rfl | rfl | rfl | rfl | rfl <;> decide
  · decide

/-! ### The document's search for a level -/
def signs5 : List (List (List UInt8)) := [[[124, 124]], [[38, 38]], [[61, 61], [33, 61], [60], [60, 61], [62], [62, 61]], [[43], [45]], [[42], [47], [37]]]
def srch : List (List (List UInt8)) → Int → Int → Int
  | [], _, _ => 0
  | l :: r, i, op => if l.any (fun t => opS (str t) == op) then i else srch r (i + 1) op
theorem opS_ids : opS (str [124, 124]) = 17 ∧ opS (str [38, 38]) = 16 ∧ opS (str [61, 61]) = 10 ∧ opS (str [33, 61]) = 11 ∧ opS (str [60]) = 12 ∧ opS (str [60, 61]) = 13 ∧ opS (str [62]) = 14 ∧ opS (str [62, 61]) = 15 ∧ opS (str [43]) = 5 ∧ opS (str [45]) = 6 ∧ opS (str [42]) = 7 ∧ opS (str [47]) = 8 ∧ opS (str [37]) = 9 := by
  simp [opS, opT, opF, str_iff]
theorem op_known (op : Int) : op = 17 ∨ op = 16 ∨ op = 10 ∨ op = 11 ∨ op = 12 ∨ op = 13 ∨ op = 14 ∨ op = 15 ∨ op = 5 ∨ op = 6 ∨ op = 7 ∨ op = 8 ∨ op = 9 ∨ op = 3 ∨ op = 4 ∨ (op < 3 ∨ 17 < op) := by omega
theorem srch_is {op : Int} (h3 : op ≠ 3) (h4 : op ≠ 4) : srch signs5 1 op = sgL op := by
  obtain ⟨e0, e1, e2, e3, e4, e5, e6, e7, e8, e9, e10, e11, e12⟩ := opS_ids
  rcases op_known op with rfl | rfl | rfl | rfl | rfl | rfl | rfl | rfl | rfl | rfl | rfl | rfl | rfl | rfl | rfl | h
  all_goals first
    | exact absurd rfl h3
    | exact absurd rfl h4
    | (simp [srch, signs5, sgL, signT, e0, e1, e2, e3, e4, e5, e6, e7, e8, e9, e10, e11, e12]; done)
    | (have g : ∀ k : Int, 3 ≤ k → k ≤ 17 → (k == op) = false := fun k h1 h2 => by rw [beq_eq_false_iff_ne]; omega
       simp [srch, signs5, sgL, signT, e0, e1, e2, e3, e4, e5, e6, e7, e8, e9, e10, e11, e12]
       have g' : ∀ k : Int, 3 ≤ k → k ≤ 17 → ¬ (k = op) := fun k h1 h2 => by omega
       simp [g', g])
/-- The document's row of all signs, from OpNeg on. -/
def allT : List (List UInt8) := [[45], [33], [43], [45], [42], [47], [37], [61, 61], [33, 61], [60], [60, 61], [62], [62, 61], [38, 38], [124, 124]]
theorem all_is {op : Int} (h3 : 3 ≤ op) (h17 : op ≤ 17) : ∃ x, allT[(op - 3).toNat]? = some x ∧ sgS op = str x := by
  rcases op_known op with rfl | rfl | rfl | rfl | rfl | rfl | rfl | rfl | rfl | rfl | rfl | rfl | rfl | rfl | rfl | h
  all_goals first
    | exact ⟨_, rfl, by simp [sgS, signT]⟩
    | omega
theorem sgS_out {op : Int} (h : op < 3 ∨ 17 < op) : sgS op = str [] := by
  have g' : ∀ k : Int, 3 ≤ k → k ≤ 17 → ¬ (k = op) := fun k h1 h2 => by omega
  simp [sgS, signT, g']
theorem sgL_out {op : Int} (h : op < 3 ∨ 17 < op) : sgL op = 0 := by
  have g' : ∀ k : Int, 3 ≤ k → k ≤ 17 → ¬ (k = op) := fun k h1 h2 => by omega
  simp [sgL, signT, g']

/-! ### Terms -/
/-- The token at a place; the end, where there is none. -/
def tokAt (ts : List Tok) (i : Nat) : Tok := ts.getD i zt
theorem tokAt_in {ts : List Tok} {i : Nat} {t : Tok} (h : ts[i]? = some t) : tokAt ts i = t := by unfold tokAt; rw [List.getD_eq_getElem?_getD, h]; rfl
theorem tokAt_out {ts : List Tok} {i : Nat} (h : ts.length ≤ i) : tokAt ts i = zt := by unfold tokAt; rw [List.getD_eq_getElem?_getD, List.getElem?_eq_none h]; rfl
/-- The kind of which a token is the sign, on a level. -/
def kd (t : Tok) (n : Int) : Int := if t.K = 4 then knd t.S n else 0
theorem kd_out {ts : List Tok} {i : Nat} (h : ts.length ≤ i) (n : Int) : kd (tokAt ts i) n = 0 := by rw [tokAt_out h]; rfl
theorem kd_bd (t : Tok) (n : Int) : 0 ≤ kd t n ∧ kd t n ≤ 17 := by
  unfold kd; split
  · exact knd_bd _ _
  · decide
/-- Is the token this sign? -/
def isOn (t : Tok) (s : ByteArray) : Bool := decide (t.K = 4) && decide (t.S = s)

mutual
/-- A term of the level n at i, that lies so deep: its nodes, the place behind it, the error. -/
def lev (ts : List Tok) : (f i n d : Nat) → List Nd × Nat × Int
  | 0, i, _, _ => ([], i, -1)
  | f + 1, i, n, d => if n = 6 then one ts f i d else
    match lev ts f i (n + 1) d with
    | (l, a, e) => if e ≠ 0 then ([], a, e) else goL ts f n d [] l a
/-- What goes on with it: the signs so far, and what stands between them. -/
def goL (ts : List Tok) : (f n d : Nat) → List Nd → List Nd → Nat → List Nd × Nat × Int
  | 0, _, _, _, _, a => ([], a, -1)
  | f + 1, n, d, bt, cur, a =>
    if kd (tokAt ts a) n = 0 ∨ (n = 3 ∧ bt.length = 1) then (bt.reverse ++ cur, a, 0) else
    match lev ts f (a + 1) (n + 1) d with
    | (l, b, e) => if e ≠ 0 then ([], b, e) else goL ts f n d (bt ++ [⟨kd (tokAt ts a) n, ⟨#[]⟩, 0, 2, (tokAt ts a).A⟩]) (cur ++ l) b
/-- One without signs between. -/
def one (ts : List Tok) : (f i d : Nat) → List Nd × Nat × Int
  | 0, i, _ => ([], i, -1)
  | f + 1, i, d =>
    if (tokAt ts i).K = 2 then ([⟨1, ⟨#[]⟩, (tokAt ts i).V, 0, (tokAt ts i).A⟩], i + 1, 0)
    else if (tokAt ts i).K = 1 then ([⟨2, (tokAt ts i).S, 0, 0, (tokAt ts i).A⟩], i + 1, 0)
    else if kd (tokAt ts i) 6 = 0 ∧ isOn (tokAt ts i) (str [40]) = false then ([], i, 11)
    else if d = 24 then ([], i, 5)
    else if kd (tokAt ts i) 6 = 0 then
      match lev ts f (i + 1) 1 (d + 1) with
      | (l, a, e) => if e ≠ 0 then ([], a, e) else if isOn (tokAt ts a) (str [41]) = true then (l, a + 1, 0) else ([], a, 11)
    else
      match one ts f (i + 1) (d + 1) with
      | (l, a, e) => if e ≠ 0 then ([], a, e) else (⟨kd (tokAt ts i) 6, ⟨#[]⟩, 0, 1, (tokAt ts i).A⟩ :: l, a, 0)
end
/-- So much is always enough. -/
def fuelOf (ts : List Tok) : Nat := 8 * ts.length + 16
def parseP (ts : List Tok) (i : Nat) : List Nd × Nat × Int := lev ts (fuelOf ts) i 1 0
/-- One round: a term of the next level, and what goes on with it. -/
def lp (ts : List Tok) (f n d : Nat) (bt cur : List Nd) (a : Nat) : List Nd × Nat × Int :=
  match lev ts f a (n + 1) d with
  | (l, b, e) => if e ≠ 0 then ([], b, e) else goL ts f n d bt (cur ++ l) b
theorem lev_six (ts : List Tok) (f i d : Nat) : lev ts (f + 1) i 6 d = one ts f i d := by rw [lev, if_pos rfl]
theorem lev_low (ts : List Tok) (f i d : Nat) {n : Nat} (h : n ≠ 6) : lev ts (f + 1) i n d = lp ts f n d [] [] i := by
  rw [lev, if_neg h]; rfl
theorem goL_stop {ts : List Tok} {f n d : Nat} {bt cur : List Nd} {a : Nat} (h : kd (tokAt ts a) n = 0 ∨ (n = 3 ∧ bt.length = 1)) : goL ts (f + 1) n d bt cur a = (bt.reverse ++ cur, a, 0) := by rw [goL, if_pos h]
theorem goL_on {ts : List Tok} {f n d : Nat} {bt cur : List Nd} {a : Nat} (h : ¬ (kd (tokAt ts a) n = 0 ∨ (n = 3 ∧ bt.length = 1))) :
    goL ts (f + 1) n d bt cur a = lp ts f n d (bt ++ [⟨kd (tokAt ts a) n, ⟨#[]⟩, 0, 2, (tokAt ts a).A⟩]) cur (a + 1) := by rw [goL, if_neg h]; rfl
theorem lp_bad {ts : List Tok} {f n d : Nat} {bt cur l : List Nd} {a b : Nat} {e : Int} (h : lev ts f a (n + 1) d = (l, b, e)) (he : e ≠ 0) : lp ts f n d bt cur a = ([], b, e) := by
  unfold lp; rw [h]; exact if_pos he
theorem lp_ok {ts : List Tok} {f n d : Nat} {bt cur l : List Nd} {a b : Nat} (h : lev ts f a (n + 1) d = (l, b, 0)) : lp ts f n d bt cur a = goL ts f n d bt (cur ++ l) b := by
  unfold lp; rw [h]; exact if_neg (fun c => c rfl)

/-- What is read lies behind the place, within the tokens, and has no more nodes than tokens. -/
def Fits (ts : List Tok) (i : Nat) (R : List Nd × Nat × Int) : Prop := R.2.2 = 0 → R.1.length ≤ R.2.1 - i ∧ i < R.2.1 ∧ R.2.1 ≤ ts.length
theorem in_of {ts : List Tok} {i : Nat} (h : (tokAt ts i).K ≠ 0) : i < ts.length := by
  rcases Nat.lt_or_ge i ts.length with c | c
  · exact c
  · rw [tokAt_out c] at h; exact absurd rfl h
theorem kd_in {ts : List Tok} {i : Nat} {n : Int} (h : kd (tokAt ts i) n ≠ 0) : i < ts.length := by
  rcases Nat.lt_or_ge i ts.length with c | c
  · exact c
  · rw [kd_out c] at h; exact absurd rfl h
theorem on_in {ts : List Tok} {i : Nat} {s : ByteArray} (h : isOn (tokAt ts i) s = true) : i < ts.length := by
  rcases Nat.lt_or_ge i ts.length with c | c
  · exact c
  · rw [tokAt_out c] at h; simp [isOn, zt] at h
theorem fits_all (ts : List Tok) : ∀ f : Nat, (∀ i n d, Fits ts i (lev ts f i n d)) ∧ (∀ i d, Fits ts i (one ts f i d)) ∧
    (∀ n d bt cur a, (goL ts f n d bt cur a).2.2 = 0 → a ≤ ts.length → a ≤ (goL ts f n d bt cur a).2.1 ∧ (goL ts f n d bt cur a).1.length ≤ bt.length + cur.length + ((goL ts f n d bt cur a).2.1 - a) ∧ (goL ts f n d bt cur a).2.1 ≤ ts.length) := by
  intro f
  induction f with
  | zero =>
    refine ⟨fun i n d h => ?_, fun i d h => ?_, fun n d bt cur a h => ?_⟩
    · simp [lev] at h
    · simp [one] at h
    · simp [goL] at h
  | succ f ih =>
    obtain ⟨i1, i2, i3⟩ := ih
    refine ⟨fun i n d => ?_, fun i d => ?_, fun n d bt cur a => ?_⟩
    · by_cases hn : n = 6
      · subst hn; rw [lev_six]; exact i2 i d
      · rw [lev_low ts f i d hn]
        have g := i1 i (n + 1) d
        obtain ⟨R, hR⟩ : ∃ R, lev ts f i (n + 1) d = R := ⟨_, rfl⟩
        obtain ⟨l, b, e⟩ := R
        by_cases he : e = 0
        · subst he
          rw [lp_ok hR]
          rw [hR] at g
          obtain ⟨g1, g2, g3⟩ := g rfl
          intro h
          obtain ⟨k1, k2, k3⟩ := i3 n d [] ([] ++ l) b h g3
          simp only [List.nil_append, List.length_nil] at k1 k2 k3 g1 g2 g3 ⊢
          exact ⟨by omega, by omega, k3⟩
        · rw [lp_bad hR he]
          exact fun h => absurd h he
    · rw [one]
      split
      · exact fun _ => ⟨by simp, by simp, by have := in_of (ts := ts) (i := i) (by omega); show i + 1 ≤ _; omega⟩
      · split
        · exact fun _ => ⟨by simp, by simp, by have := in_of (ts := ts) (i := i) (by omega); show i + 1 ≤ _; omega⟩
        · split
          · exact fun h => by simp at h
          · split
            · exact fun h => by simp at h
            · split
              · have g := i1 (i + 1) 1 (d + 1)
                obtain ⟨R, hR⟩ : ∃ R, lev ts f (i + 1) 1 (d + 1) = R := ⟨_, rfl⟩
                obtain ⟨l, a, e⟩ := R
                rw [hR] at g ⊢
                simp only
                by_cases he : e = 0
                · rw [if_neg (by simp [he])]
                  subst he
                  obtain ⟨g1, g2, g3⟩ := g rfl
                  split
                  · next hon => exact fun _ => ⟨by simp only at g1 g2 ⊢; omega, by simp only at g1 g2 ⊢; omega, on_in hon⟩
                  · exact fun h => by simp at h
                · rw [if_pos he]
                  exact fun h => absurd h he
              · have g := i2 (i + 1) (d + 1)
                obtain ⟨R, hR⟩ : ∃ R, one ts f (i + 1) (d + 1) = R := ⟨_, rfl⟩
                obtain ⟨l, a, e⟩ := R
                rw [hR] at g ⊢
                simp only
                by_cases he : e = 0
                · rw [if_neg (by simp [he])]
                  subst he
                  obtain ⟨g1, g2, g3⟩ := g rfl
                  exact fun _ => ⟨by simp only [List.length_cons] at g1 g2 ⊢; omega, by simp only at g1 g2 ⊢; omega, g3⟩
                · rw [if_pos he]
                  exact fun h => absurd h he
    · by_cases hs : kd (tokAt ts a) n = 0 ∨ (n = 3 ∧ bt.length = 1)
      · rw [goL_stop hs]
        exact fun _ ha => ⟨Nat.le_refl _, by simp, ha⟩
      · rw [goL_on hs]
        have g := i1 (a + 1) (n + 1) d
        obtain ⟨R, hR⟩ : ∃ R, lev ts f (a + 1) (n + 1) d = R := ⟨_, rfl⟩
        obtain ⟨l, b, e⟩ := R
        by_cases he : e = 0
        · subst he
          rw [lp_ok hR]
          rw [hR] at g
          obtain ⟨g1, g2, g3⟩ := g rfl
          intro h _
          obtain ⟨k1, k2, k3⟩ := i3 n d _ (cur ++ l) b h g3
          simp only [List.length_append, List.length_cons, List.length_nil] at k1 k2 k3 g1 g2 g3 ⊢
          exact ⟨by omega, by omega, k3⟩
        · rw [lp_bad hR he]
          exact fun h => absurd h he
end Go.Proofs.Ytglmcjplglgnlaa
