/-
  Tokens plainly: what is skipped, the piece with which a text begins, the first token from a place on, all tokens.
-/
import Derived.Test.YtglmcjplglgnlaaStr
import Derived.Test.YtglmcjplglgnlaaSpotM
namespace Go.Proofs.Ytglmcjplglgnlaa
open Go.RowKit

/-! ### Bytes -/
def isL (c : Int) : Bool := decide (97 ≤ c ∧ c ≤ 122) || decide (65 ≤ c ∧ c ≤ 90) || decide (c = 95)
def isD (c : Int) : Bool := decide (48 ≤ c ∧ c ≤ 57)
def isN (c : Int) : Bool := isL c || isD c
theorem isD_bd {c : Int} (h : isD c = true) : 48 ≤ c ∧ c ≤ 57 := of_decide_eq_true h
def ob (b : UInt8) : Int := (b.toNat : Int)
theorem ob_inj {a b : UInt8} (h : ob a = ob b) : a = b := UInt8.toNat_inj.1 (Int.ofNat.inj h)
theorem ob_eq {b : UInt8} {n : Nat} (hn : n < 256) (h : ob b = (n : Int)) : b = UInt8.ofNat n := by
  apply UInt8.toNat_inj.1
  rw [UInt8.toNat_ofNat']
  unfold ob at h
  have : b.toNat = n := by omega
  rw [this, Nat.mod_eq_of_lt hn]

/-! ### How many bytes at the beginning are of a kind -/
def spn (p : Int → Bool) : List UInt8 → Nat
  | [] => 0
  | b :: t => if p (ob b) then spn p t + 1 else 0
theorem spn_le (p : Int → Bool) : ∀ l, spn p l ≤ l.length
  | [] => Nat.le_refl _
  | b :: t => by
    rw [spn]
    have := spn_le p t
    split
    · rw [List.length_cons]; omega
    · omega
theorem spn_step {p : Int → Bool} {l : List UInt8} {b : UInt8} {t : List UInt8} {k : Nat} (h : l.drop k = b :: t) (hk : k + spn p (l.drop k) = spn p l) (hb : p (ob b) = true) : k + 1 + spn p (l.drop (k + 1)) = spn p l := by
  rw [h, spn, if_pos hb] at hk
  have : l.drop (k + 1) = t := by rw [← List.drop_drop, h]; rfl
  rw [this]; omega
theorem spn_stop {p : Int → Bool} {l : List UInt8} {b : UInt8} {t : List UInt8} {k : Nat} (h : l.drop k = b :: t) (hk : k + spn p (l.drop k) = spn p l) (hb : p (ob b) = false) : k = spn p l := by
  rw [h, spn, hb] at hk; simpa using hk
theorem spn_end {p : Int → Bool} {l : List UInt8} {k : Nat} (h : l.drop k = []) (hk : k + spn p (l.drop k) = spn p l) : k = spn p l := by
  rw [h, spn] at hk; simpa using hk
theorem spn_behind {p : Int → Bool} : ∀ (l : List UInt8) (b : UInt8) (t : List UInt8), l.drop (spn p l) = b :: t → p (ob b) = false
  | [], b, t, h => by simp at h
  | c :: r, b, t, h => by
    rw [spn] at h
    by_cases hc : p (ob c) = true
    · rw [if_pos hc, List.drop_succ_cons] at h; exact spn_behind r b t h
    · rw [if_neg hc] at h
      obtain ⟨rfl, rfl⟩ := List.cons.inj h
      simpa using hc
/-- Behind what is wholly of a kind stands a byte that is not. -/
theorem spn_cut {p : Int → Bool} : ∀ (x : List UInt8) (c : UInt8) (r : List UInt8), spn p x = x.length → p (ob c) = false → spn p (x ++ c :: r) = x.length
  | [], c, r, _, hc => by simp [spn, hc]
  | b :: x, c, r, hx, hc => by
    rw [spn] at hx
    by_cases hb : p (ob b) = true
    · rw [if_pos hb, List.length_cons] at hx
      rw [List.cons_append, spn, if_pos hb, spn_cut x c r (by omega) hc, List.length_cons]
    · rw [if_neg hb, List.length_cons] at hx; omega
theorem spn_all {p : Int → Bool} : ∀ (l : List UInt8), spn p l = l.length ↔ ∀ b ∈ l, p (ob b) = true
  | [] => by simp [spn]
  | b :: t => by
    rw [spn]
    by_cases hb : p (ob b) = true
    · rw [if_pos hb, List.length_cons, Nat.add_right_cancel_iff, spn_all t]
      simp [hb]
    · rw [if_neg hb]
      simp [hb]
theorem spn_take {p : Int → Bool} : ∀ (l : List UInt8), ∀ b ∈ l.take (spn p l), p (ob b) = true
  | [] => by simp
  | b :: t => by
    rw [spn]
    by_cases hb : p (ob b) = true
    · rw [if_pos hb, List.take_succ_cons]
      intro c hc
      rcases List.mem_cons.1 hc with rfl | h
      · exact hb
      · exact spn_take t c h
    · rw [if_neg hb]; simp

/-! ### What is skipped -/
def blk (c : Int) : Bool := decide (c = 9) || decide (c = 10) || decide (c = 13) || decide (c = 32)
/-- How many bytes of blanks and remarks stand at the beginning; is one within a remark? -/
def skp : Bool → List UInt8 → Nat
  | _, [] => 0
  | r, b :: t => if ob b = 10 then skp false t + 1 else if ob b = 35 then skp true t + 1 else if r = true ∨ blk (ob b) = true then skp r t + 1 else 0
theorem skp_le : ∀ (l : List UInt8) (r : Bool), skp r l ≤ l.length
  | [], _ => Nat.le_refl _
  | b :: t, r => by
    rw [skp]
    have h1 := skp_le t false
    have h2 := skp_le t true
    have h3 := skp_le t r
    rw [List.length_cons]
    split
    · omega
    · split
      · omega
      · split <;> omega
theorem skp_blank {b : UInt8} {t : List UInt8} (h : blk (ob b) = true) : skp false (b :: t) = skp false t + 1 := by
  rw [skp]
  by_cases h1 : ob b = 10
  · rw [if_pos h1]
  · rw [if_neg h1]
    by_cases h2 : ob b = 35
    · rw [h2] at h; simp [blk] at h
    · rw [if_neg h2, if_pos (.inr h)]
theorem skp_hash {b : UInt8} {t : List UInt8} (h : ob b = 35) : skp false (b :: t) = skp true t + 1 := by
  rw [skp, if_neg (by omega), if_pos h]
theorem skp_none {b : UInt8} {t : List UInt8} (h : blk (ob b) = false) (h2 : ob b ≠ 35) : skp false (b :: t) = 0 := by
  rw [skp]
  have h1 : ob b ≠ 10 := by intro e; rw [e] at h; simp [blk] at h
  rw [if_neg h1, if_neg h2, if_neg (by simp [h])]
theorem skp_remark : ∀ (a : List UInt8) (r : List UInt8), (∀ b ∈ a, b ≠ 10) → skp true (a ++ 10 :: r) = a.length + skp false (10 :: r)
  | [], r, _ => by
    rw [List.nil_append, List.length_nil, Nat.zero_add, skp, skp, if_pos (by rfl), if_pos (by rfl)]
  | b :: a, r, h => by
    have hb : ob b ≠ 10 := fun e => h b List.mem_cons_self (ob_inj e)
    have ih := skp_remark a r (fun c hc => h c (List.mem_cons_of_mem _ hc))
    rw [List.cons_append, skp, if_neg hb, if_pos (c := true = true ∨ _) (.inl rfl), ih, ite_self, List.length_cons]; omega
theorem skp_remark_end : ∀ (a : List UInt8), (∀ b ∈ a, b ≠ 10) → skp true a = a.length
  | [], _ => rfl
  | b :: a, h => by
    have hb : ob b ≠ 10 := fun e => h b List.mem_cons_self (ob_inj e)
    have ih := skp_remark_end a (fun c hc => h c (List.mem_cons_of_mem _ hc))
    rw [skp, if_neg hb, if_pos (c := true = true ∨ _) (.inl rfl), ih, ite_self, List.length_cons]
/-- Behind the skipped bytes stands none that is skipped. -/
theorem skp_behind : ∀ (l : List UInt8) (r : Bool) (b : UInt8) (t : List UInt8), l.drop (skp r l) = b :: t → blk (ob b) = false ∧ ob b ≠ 35
  | [], r, b, t, h => by simp at h
  | c :: l, r, b, t, h => by
    rw [skp] at h
    by_cases h1 : ob c = 10
    · rw [if_pos h1, List.drop_succ_cons] at h; exact skp_behind l _ b t h
    · rw [if_neg h1] at h
      by_cases h2 : ob c = 35
      · rw [if_pos h2, List.drop_succ_cons] at h; exact skp_behind l _ b t h
      · rw [if_neg h2] at h
        by_cases h3 : r = true ∨ blk (ob c) = true
        · rw [if_pos h3, List.drop_succ_cons] at h; exact skp_behind l _ b t h
        · rw [if_neg h3, List.drop_zero] at h
          obtain ⟨rfl, rfl⟩ := List.cons.inj h
          exact ⟨by simpa using fun e => h3 (.inr e), h2⟩
theorem skp_blanks : ∀ (x r : List UInt8), (∀ b ∈ x, blk (ob b) = true) → skp false (x ++ r) = x.length + skp false r
  | [], r, _ => by simp
  | b :: x, r, h => by
    rw [List.cons_append, skp_blank (h b List.mem_cons_self), skp_blanks x r (fun c hc => h c (List.mem_cons_of_mem _ hc)), List.length_cons]; omega

/-! ### The piece with which a text begins: its kind, its length, the error -/
def wordsL : List (List UInt8) := [[99, 104, 97, 110], [112, 114, 111, 99], [109, 97, 105, 110], [118, 97, 114], [105, 102], [101, 108, 115, 101], [119, 104, 105, 108, 101], [115, 101, 108, 101, 99, 116], [99, 97, 115, 101], [119, 104, 101, 110], [97, 102, 116, 101, 114], [115, 116, 97, 114, 116], [115, 108, 101, 101, 112], [114, 97, 110, 100, 111, 109], [112, 114, 105, 110, 116], [97, 115, 115, 101, 114, 116], [115, 107, 105, 112], [115, 116, 111, 112]]
def isW (x : List UInt8) : Bool := decide (x ∈ wordsL)
def signsL : List (List UInt8) := [[61, 61], [33, 61], [60, 61], [62, 61], [38, 38], [124, 124], [123], [125], [40], [41], [91], [93], [59], [44], [58], [61], [33], [63], [43], [45], [42], [47], [37], [60], [62]]
/-- Of a byte and what stands behind it (below 0: nothing): how long a sign they begin. -/
def sgn (b c : Int) : Nat :=
  if (b = 38 ∨ b = 124) then (if c = b then 2 else 0)
  else if (b = 61 ∨ b = 33 ∨ b = 60 ∨ b = 62) then (if c = 61 then 2 else 1)
  else if (b = 123 ∨ b = 125 ∨ b = 40 ∨ b = 41 ∨ b = 91 ∨ b = 93 ∨ b = 59 ∨ b = 44 ∨ b = 58 ∨ b = 63 ∨ b = 43 ∨ b = 45 ∨ b = 42 ∨ b = 47 ∨ b = 37) then 1 else 0
/-- The byte at a place; -1: there is none. -/
def byteAt (l : List UInt8) (k : Nat) : Int := match l[k]? with
  | some b => ob b
  | none => -1
def pcName (l : List UInt8) : Int × Nat × Int :=
  if 16 < spn isN l then (0, 0, 5) else if isW (l.take (spn isN l)) then (3, spn isN l, 0) else (1, spn isN l, 0)
def pcNum (l : List UInt8) : Int × Nat × Int :=
  if byteAt l 0 = 48 ∧ 1 < spn isD l then (0, 0, 3) else if 18 < spn isD l then (0, 0, 5) else if isL (byteAt l (spn isD l)) then (0, 0, 3) else (2, spn isD l, 0)
def pcSign (l : List UInt8) : Int × Nat × Int := if sgn (byteAt l 0) (byteAt l 1) = 0 then (0, 0, 10) else (4, sgn (byteAt l 0) (byteAt l 1), 0)
def pc (l : List UInt8) : Int × Nat × Int :=
  if l = [] then (0, 0, 0) else if isL (byteAt l 0) then pcName l else if isD (byteAt l 0) then pcNum l else pcSign l

/-- The worth of digits. -/
def worth (l : List UInt8) : Int := l.foldl (fun n b => n * 10 + (ob b - 48)) 0
theorem worth_snoc (l : List UInt8) (b : UInt8) : worth (l ++ [b]) = worth l * 10 + (ob b - 48) := by unfold worth; rw [List.foldl_append]; rfl
theorem worth_bd : ∀ (n : Nat) (l : List UInt8), l.length = n → (∀ b ∈ l, isD (ob b) = true) → 0 ≤ worth l ∧ worth l < 10 ^ n := by
  intro n
  induction n with
  | zero => intro l hl _; rw [List.length_eq_zero_iff.1 hl]; decide
  | succ n ih =>
    intro l hl hd
    rcases List.eq_nil_or_concat l with rfl | ⟨q, b, rfl⟩
    · simp at hl
    · rw [List.concat_eq_append] at *
      have hq := ih q (by simpa using hl) (fun c hc => hd c (by simp [hc]))
      have hb := hd b (by simp)
      unfold isD at hb
      have hb := of_decide_eq_true hb
      rw [worth_snoc, Int.pow_succ]
      omega

/-! ### A token -/
structure Tok where
  K : Int
  S : ByteArray
  V : Int
  A : Int
def zt : Tok := ⟨0, ⟨#[]⟩, 0, 0⟩
def Tok.agg (t : Tok) : Value := .agg #[.int .i64 t.K, .string t.S, .int .i64 t.V, .int .i64 t.A]
/-- The first token from a place within the text on, the place behind it, the error. -/
def nxt (s : List UInt8) (a : Nat) : Tok × Int × Int :=
  let b := a + skp false (s.drop a)
  let p := pc (s.drop b)
  if p.2.2 ≠ 0 then (zt, b, p.2.2)
  else (⟨p.1, str ((s.drop b).take p.2.1), if p.1 = 2 then worth ((s.drop b).take p.2.1) else 0, b⟩, (b : Int) + p.2.1, 0)
def nxtI (s : List UInt8) (a : Int) : Tok × Int × Int := if a < 0 ∨ (s.length : Int) < a then (zt, 0, 1) else nxt s a.toNat
theorem nxtI_out {s : List UInt8} {a : Int} (h : a < 0 ∨ (s.length : Int) < a) : nxtI s a = (zt, 0, 1) := if_pos h
theorem nxtI_in {s : List UInt8} {a : Nat} (h : a ≤ s.length) : nxtI s (a : Int) = nxt s a := by unfold nxtI; rw [if_neg (by omega)]; rfl
end Go.Proofs.Ytglmcjplglgnlaa
