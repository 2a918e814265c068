/-
  All tokens plainly; rows of tokens in memory; the program's All.
-/
import Derived.Test.YtglmcjplglgnlaaTokV
import Derived.Laws.OwnMore
import Derived.Test.YtglmcjplglgnlaaLoop
namespace Go.Proofs.Ytglmcjplglgnlaa
open Go.RowKit Go.Joins

/-! ### All tokens from a place on -/
theorem pc_pos {l : List UInt8} (h : (pc l).2.2 = 0) (hK : (pc l).1 ≠ 0) : 1 ≤ (pc l).2.1 := by
  unfold pc at h hK ⊢
  by_cases h0 : l = []
  · rw [if_pos h0] at hK; exact absurd rfl hK
  · rw [if_neg h0] at h hK ⊢
    obtain ⟨b, t, rfl⟩ : ∃ b t, l = b :: t := by
      cases l with
      | nil => exact absurd rfl h0
      | cons b t => exact ⟨b, t, rfl⟩
    by_cases hL : isL (byteAt (b :: t) 0) = true
    · rw [if_pos hL] at h hK ⊢
      have h1 : 1 ≤ spn isN (b :: t) := by
        rw [spn, if_pos (by unfold isN; rw [show isL (ob b) = true from hL]; rfl)]; omega
      unfold pcName at h hK ⊢
      split at h
      · simp at h
      · rw [if_neg (by assumption)] at hK ⊢
        split <;> exact h1
    · rw [if_neg hL] at h hK ⊢
      by_cases hD : isD (byteAt (b :: t) 0) = true
      · rw [if_pos hD] at h hK ⊢
        rw [pcNum_ok h]
        show 1 ≤ spn isD (b :: t)
        rw [spn, if_pos (show isD (ob b) = true from hD)]; omega
      · rw [if_neg hD] at h hK ⊢
        unfold pcSign at h hK ⊢
        split at h
        · simp at h
        · rw [if_neg (by assumption)]
          simp only; omega
theorem nxt_step {s : List UInt8} {a : Nat} (ha : a ≤ s.length) {t : Tok} {p : Int} (h : nxt s a = (t, p, 0)) : (t.K = 0 ∧ t.A = p) ∨ (t.K ≠ 0 ∧ ∃ b : Nat, p = b ∧ a < b ∧ b ≤ s.length) := by
  obtain ⟨b, hb⟩ : ∃ b, b = a + skp false (s.drop a) := ⟨_, rfl⟩
  have hbl : b ≤ s.length := by have := skp_le (s.drop a) false; rw [List.length_drop] at this; omega
  obtain ⟨P, hp⟩ : ∃ P, pc (s.drop b) = P := ⟨_, rfl⟩
  obtain ⟨K, n, E⟩ := P
  have hbd := (pc_bd (s.drop b)).1
  rw [hp, List.length_drop] at hbd
  simp only at hbd
  by_cases hE : E = 0
  · subst hE
    rw [nxt_good hb hp] at h
    obtain ⟨rfl, h2⟩ := Prod.mk.inj h
    obtain ⟨rfl, -⟩ := Prod.mk.inj h2
    by_cases hK : K = 0
    · refine .inl ⟨hK, ?_⟩
      have : n = 0 := by
        subst hK
        unfold pc at hp
        by_cases h0 : s.drop b = []
        · rw [if_pos h0] at hp; simp at hp; omega
        · rw [if_neg h0] at hp
          split at hp
          · unfold pcName at hp; split at hp
            · simp at hp
            · split at hp <;> simp at hp
          · split at hp
            · have h3 : (pcNum (s.drop b)).2.2 = 0 := by rw [hp]
              rw [pcNum_ok h3] at hp; simp at hp
            · unfold pcSign at hp; split at hp <;> simp at hp
      subst this
      simp
    · refine .inr ⟨hK, b + n, by simp, ?_, by omega⟩
      have := pc_pos (l := s.drop b) (by rw [hp]) (by rw [hp]; exact hK)
      rw [hp] at this
      simp only at this
      omega
  · rw [nxt_bad hb hp hE] at h
    have := (Prod.mk.inj (Prod.mk.inj h).2).2
    exact absurd this hE

/-- From a place on: the tokens, and where and how they end. -/
inductive Toks (s : List UInt8) : Nat → List Tok → Int × Int → Prop
  | bad (a : Nat) (t : Tok) (p e : Int) : nxt s a = (t, p, e) → e ≠ 0 → Toks s a [] (p, e)
  | fin (a : Nat) (t : Tok) (p : Int) : nxt s a = (t, p, 0) → t.K = 0 → Toks s a [t] (t.A, 0)
  | step (a b : Nat) (t : Tok) (ts : List Tok) (r : Int × Int) : nxt s a = (t, (b : Int), 0) → t.K ≠ 0 → a < b → b ≤ s.length → Toks s b ts r → Toks s a (t :: ts) r
theorem toks_of (s : List UInt8) : ∀ (n a : Nat), a ≤ s.length → s.length - a ≤ n → ∃ ts r, Toks s a ts r := by
  intro n
  induction n with
  | zero =>
    intro a ha hn
    obtain ⟨X, hX⟩ : ∃ X, nxt s a = X := ⟨_, rfl⟩
    obtain ⟨t, p, e⟩ := X
    by_cases he : e = 0
    · subst he
      rcases nxt_step ha hX with ⟨h1, _⟩ | ⟨_, b, _, h3, h4⟩
      · exact ⟨_, _, .fin a t p hX h1⟩
      · omega
    · exact ⟨_, _, .bad a t p e hX he⟩
  | succ n ih =>
    intro a ha hn
    obtain ⟨X, hX⟩ : ∃ X, nxt s a = X := ⟨_, rfl⟩
    obtain ⟨t, p, e⟩ := X
    by_cases he : e = 0
    · subst he
      rcases nxt_step ha hX with ⟨h1, _⟩ | ⟨h1, b, rfl, h3, h4⟩
      · exact ⟨_, _, .fin a t p hX h1⟩
      · obtain ⟨ts, r, h⟩ := ih b h4 (by omega)
        exact ⟨_, _, .step a b t ts r hX h1 h3 h4 h⟩
    · exact ⟨_, _, .bad a t p e hX he⟩
theorem toks_any (s : List UInt8) : ∃ ts r, Toks s 0 ts r := toks_of s s.length 0 (Nat.zero_le _) (by omega)
/-- What is told in the end. -/
def told (ts : List Tok) (r : Int × Int) : List Tok := if r.2 = 0 then ts else []

/-! ### Rows of tokens -/
def tcs : List Tok → List Value
  | [] => []
  | t :: r => .int .i64 t.K :: .string t.S :: .int .i64 t.V :: .int .i64 t.A :: tcs r
theorem tcs_append (a b : List Tok) : tcs (a ++ b) = tcs a ++ tcs b := by
  induction a with
  | nil => rfl
  | cons x a ih => rw [List.cons_append, tcs, tcs, ih]; rfl
theorem tcs_len : ∀ l, (tcs l).length = l.length * 4
  | [] => rfl
  | t :: r => by rw [tcs]; simp only [List.length_cons]; rw [tcs_len r]; omega
theorem tcs_at : ∀ (l : List Tok) (i : Nat) (t : Tok), l[i]? = some t → (tcs l)[i * 4]? = some (.int .i64 t.K) ∧ (tcs l)[i * 4 + 1]? = some (.string t.S) ∧ (tcs l)[i * 4 + 2]? = some (.int .i64 t.V) ∧ (tcs l)[i * 4 + 3]? = some (.int .i64 t.A)
  | [], i, t, h => by simp at h
  | x :: r, 0, t, h => by
    obtain rfl : x = t := by simpa using h
    exact ⟨rfl, rfl, rfl, rfl⟩
  | x :: r, i + 1, t, h => by
    have ih := tcs_at r i t (by simpa using h)
    rw [show (i + 1) * 4 = i * 4 + 1 + 1 + 1 + 1 by omega, tcs]
    simpa using ih
/-- The slice v reads as the tokens, in a block below B. -/
structure TkRow (B : Nat) (w : World) (v : Value) (ts : List Tok) : Prop where
  room : ts.length ≤ 1000000
  out : (ts = [] ∧ ∃ o cap, v = .slice o 0 cap) ∨ ∃ b off cap, v = .slice (some ⟨b, off, none⟩) ts.length cap ∧ b < B ∧ ∀ i t, ts[i]? = some t → w.cell? ⟨b, off + i * 4, none⟩ = some (.int .i64 t.K) ∧ w.cell? ⟨b, off + i * 4 + 1, none⟩ = some (.string t.S) ∧ w.cell? ⟨b, off + i * 4 + 2, none⟩ = some (.int .i64 t.V) ∧ w.cell? ⟨b, off + i * 4 + 3, none⟩ = some (.int .i64 t.A)
theorem TkRow.below {B : Nat} {w w' : World} {v : Value} {ts : List Tok} (h : TkRow B w v ts) (hb : Below B w w') : TkRow B w' v ts := by
  refine ⟨h.room, ?_⟩
  rcases h.out with h | ⟨b, off, cap, h1, h2, h3⟩
  · exact .inl h
  · refine .inr ⟨b, off, cap, h1, h2, fun i t hi => ?_⟩
    obtain ⟨c0, c1, c2, c3⟩ := h3 i t hi
    exact ⟨(hb.cell (p := ⟨b, off + i * 4, none⟩) h2).trans c0, (hb.cell (p := ⟨b, off + i * 4 + 1, none⟩) h2).trans c1, (hb.cell (p := ⟨b, off + i * 4 + 2, none⟩) h2).trans c2, (hb.cell (p := ⟨b, off + i * 4 + 3, none⟩) h2).trans c3⟩
theorem TkRow.mono {B B' : Nat} {w : World} {v : Value} {ts : List Tok} (h : TkRow B w v ts) (hb : B ≤ B') : TkRow B' w v ts := by
  refine ⟨h.room, ?_⟩
  rcases h.out with h | ⟨b, off, cap, h1, h2, h3⟩
  · exact .inl h
  · exact .inr ⟨b, off, cap, h1, by omega, h3⟩
theorem TkRow.to {w w' : World} {v : Value} {ts : List Tok} (h : TkRow w.heap.size w v ts) (hb : Below w.heap.size w w') : TkRow w'.heap.size w' v ts := (h.below hb).mono hb.size
theorem TkRow.nil (B : Nat) (w : World) : TkRow B w (.slice none 0 0) [] := ⟨by simp, .inl ⟨rfl, _, _, rfl⟩⟩
theorem TkRow.form {B : Nat} {w : World} {v : Value} {ts : List Tok} (h : TkRow B w v ts) : ∃ o cap, v = .slice o ts.length cap ∧ ∀ i t, ts[i]? = some t → ∃ b off, o = some ⟨b, off, none⟩ ∧ b < B ∧ ∀ W, Below B w W → W.cell? ⟨b, off + i * 4, none⟩ = some (.int .i64 t.K) ∧ W.cell? ⟨b, off + i * 4 + 1, none⟩ = some (.string t.S) ∧ W.cell? ⟨b, off + i * 4 + 2, none⟩ = some (.int .i64 t.V) ∧ W.cell? ⟨b, off + i * 4 + 3, none⟩ = some (.int .i64 t.A) := by
  rcases h.out with ⟨rfl, o, cap, rfl⟩ | ⟨b, off, cap, rfl, hb, hc⟩
  · exact ⟨o, cap, rfl, fun i t hi => by simp at hi⟩
  · refine ⟨_, cap, rfl, fun i t hi => ⟨b, off, rfl, hb, fun W hW => ?_⟩⟩
    obtain ⟨c0, c1, c2, c3⟩ := hc i t hi
    exact ⟨(hW.cell (p := ⟨b, off + i * 4, none⟩) hb).trans c0, (hW.cell (p := ⟨b, off + i * 4 + 1, none⟩) hb).trans c1, (hW.cell (p := ⟨b, off + i * 4 + 2, none⟩) hb).trans c2, (hW.cell (p := ⟨b, off + i * 4 + 3, none⟩) hb).trans c3⟩
theorem TkRow.of_own {B : Nat} {w : World} {v : Value} {ts : List Tok} (h : w.ownsRow B 51 4 v ts.length (tcs ts)) (hl : ts.length ≤ 1000000) : TkRow w.heap.size w v ts := by
  refine ⟨hl, ?_⟩
  rcases h.2 with ⟨rfl, h0⟩ | ⟨g, cap, cur, rfl, hb, hg, hcap, _⟩
  · exact .inl ⟨List.length_eq_zero_iff.1 h0, _, _, rfl⟩
  · refine .inr ⟨g, 0, cap, rfl, (Array.getElem?_eq_some_iff.1 hg).1, fun i t hi => ?_⟩
    obtain ⟨c0, c1, c2, c3⟩ := tcs_at ts i t hi
    have h0 := h.cells (g := g) rfl (i * 4) _ c0
    have h1 := h.cells (g := g) rfl (i * 4 + 1) _ c1
    have h2 := h.cells (g := g) rfl (i * 4 + 2) _ c2
    have h3 := h.cells (g := g) rfl (i * 4 + 3) _ c3
    have ea : ∀ j, (⟨g, 0, none⟩ : Addr).add j = ⟨g, 0 + j, none⟩ := fun j => by unfold Addr.add; split <;> simp_all
    rw [ea] at h0 h1 h2 h3
    exact ⟨h0, h1, h2, h3⟩
theorem elK : (Try.prog.info? 51).map (fun i => (i.zero, i.size, i.bytes)) = some (some (.agg #[.int .i64 0, .string ⟨#[]⟩, .int .i64 0, .int .i64 0]), 4, 40) := by kernel_rfl
theorem wpList_append_k {ops : Array Oper} {rest : List Oper} {o : Oper} {a : Act} {W : World} {Q : Exit → Act → World → Prop} (hgd : o.guard = none) (s x : Operand)
    (ho : o.op = .call { callee := .builtin .append, args := #[s, x], argTypes := #[22, 22] })
    (B : Nat) (v : Value) (l : List Tok) (hs : a.eval s = v) (h : W.ownsRow B 51 4 v l.length (tcs l)) (hB : B ≤ W.heap.size) (hl : l.length ≤ 1000000) (b : Nat) (c : Nat) (t : Tok) (hx : a.eval x = .slice (some ⟨b, 0, none⟩) 1 c)
    (ha : ∀ j u, ([.int .i64 t.K, .string t.S, .int .i64 t.V, .int .i64 t.A] : List Value)[j]? = some u → W.cell? ⟨b, j, none⟩ = some u)
    (hK : ∀ v' W', W'.ownsRow B 51 4 v' (l ++ [t]).length (tcs (l ++ [t])) → W.grownBy W' v.ownBlock → wpList Try.prog ops Q rest (a.put o.dst v') W') : wpList Try.prog ops Q (o :: rest) a W := by
  obtain ⟨i0, hi, hz0, hz1, hz2⟩ := info_parts elK
  refine wpList_append_own _ hgd s x 22 ho B 51 i0 (.agg #[.int .i64 0, .string ⟨#[]⟩, .int .i64 0, .int .i64 0]) 4 40 Try.underlying22 hi hz0 hz1 hz2 rfl (by decide) v l.length (tcs l) hs h ⟨b, 0, none⟩ 1 c [.int .i64 t.K, .string t.S, .int .i64 t.V, .int .i64 t.A] hx rfl ?_ ?_ (by unfold maxLen; omega) (by omega) hB ?_
  · intro j u hj
    rw [show (⟨b, 0, none⟩ : Addr).add j = ⟨b, j, none⟩ by rw [Addr.add_mid, Nat.zero_add]]
    exact ha j u hj
  · intro u hu
    simp only [List.mem_cons, List.not_mem_nil, or_false] at hu
    rcases hu with rfl | rfl | rfl | rfl <;> rfl
  · intro v' w' hown hgrow _
    refine hK v' w' ?_ hgrow
    rw [List.length_append, tcs_append]
    exact hown
end Go.Proofs.Ytglmcjplglgnlaa
