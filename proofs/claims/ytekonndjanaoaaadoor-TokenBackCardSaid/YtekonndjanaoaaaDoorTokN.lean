/-
  Tokens that are put together with blanks between them, plainly.
-/
import Derived.Test.YtekonndjanaoaaaDoorTokW
namespace Go.Proofs.YtekonndjanaoaaaDoor
open Go.RowKit Go.Joins

theorem pc_zero {l : List UInt8} {n : Nat} (h : pc l = (0, n, 0)) : n = 0 := by
  unfold pc at h
  by_cases h0 : l = []
  · rw [if_pos h0] at h; simp at h; omega
  · rw [if_neg h0] at h
    split at h
    · unfold pcName at h; split at h
      · simp at h
      · split at h <;> simp at h
    · split at h
      · have h3 : (pcNum l).2.2 = 0 := by rw [h]
        rw [pcNum_ok h3] at h; simp at h
      · unfold pcSign at h; split at h <;> simp at h
/-- A text that is a token, and nothing else. -/
def Piece (x : List UInt8) : Prop := x ≠ [] ∧ skp false x = 0 ∧ ∃ K : Int, K ≠ 0 ∧ pc x = (K, x.length, 0)
theorem piece_of {x : List UInt8} {t : Tok} {p : Int} (h0 : x ≠ []) (h : nxt x 0 = (t, p, 0)) (hS : t.S = str x) : Piece x := by
  have hlen : 0 < x.length := List.length_pos_iff.2 h0
  obtain ⟨b, hb⟩ : ∃ b, b = 0 + skp false (x.drop 0) := ⟨_, rfl⟩
  obtain ⟨P, hp⟩ : ∃ P, pc (x.drop b) = P := ⟨_, rfl⟩
  obtain ⟨K, n, E⟩ := P
  have hbd := (pc_bd (x.drop b)).1
  rw [hp, List.length_drop] at hbd
  simp only at hbd
  by_cases hE : E = 0
  · subst hE
    rw [nxt_good hb hp] at h
    obtain ⟨rfl, -⟩ := Prod.mk.inj h
    simp only at hS
    have he := str_inj hS
    have hl := congrArg List.length he
    rw [List.length_take, List.length_drop] at hl
    have hb0 : b = 0 := by omega
    rw [hb0, List.drop_zero] at hp
    have hn : n = x.length := by omega
    rw [hn] at hp
    refine ⟨h0, by rw [hb0] at hb; simpa using hb.symm, K, fun hK => ?_, hp⟩
    rw [hK] at hp
    have := pc_zero hp
    omega
  · rw [nxt_bad hb hp hE] at h
    exact absurd (Prod.mk.inj (Prod.mk.inj h).2).2 hE
theorem at_app {x r : List UInt8} {k : Nat} (h : k < x.length) : byteAt (x ++ r) k = byteAt x k := by unfold byteAt; rw [List.getElem?_append_left h]
theorem at_behind (x : List UInt8) (c : UInt8) (r : List UInt8) : byteAt (x ++ c :: r) x.length = ob c := by unfold byteAt; rw [List.getElem?_append_right (Nat.le_refl _)]; simp
theorem sgn_same {b c d : Int} (h1 : c ≠ 38) (h2 : c ≠ 124) (h3 : c ≠ 61) (k1 : d ≠ 38) (k2 : d ≠ 124) (k3 : d ≠ 61) : sgn b c = sgn b d := by
  unfold sgn
  rw [if_neg h3, if_neg k3]
  by_cases hb : b = 38 ∨ b = 124
  · rw [if_pos hb, if_pos hb, if_neg (by rcases hb with rfl | rfl <;> assumption), if_neg (by rcases hb with rfl | rfl <;> assumption)]
  · rw [if_neg hb, if_neg hb]
theorem pc_follow {x : List UInt8} {K : Int} (h0 : x ≠ []) (hp : pc x = (K, x.length, 0)) (hK : K ≠ 0) (r : List UInt8) : pc (x ++ 32 :: r) = (K, x.length, 0) := by
  have hlen : 0 < x.length := List.length_pos_iff.2 h0
  have h0' : x ++ 32 :: r ≠ [] := by simp
  have ha : byteAt (x ++ 32 :: r) 0 = byteAt x 0 := at_app hlen
  unfold pc at hp ⊢
  rw [if_neg h0] at hp
  rw [if_neg h0', ha]
  by_cases hL : isL (byteAt x 0) = true
  · rw [if_pos hL] at hp ⊢
    have hspn : spn isN x = x.length := by
      unfold pcName at hp
      split at hp
      · have := (Prod.mk.inj hp).1; exact absurd this.symm hK
      · split at hp
        · exact (Prod.mk.inj (Prod.mk.inj hp).2).1
        · exact (Prod.mk.inj (Prod.mk.inj hp).2).1
    have hcut : spn isN (x ++ 32 :: r) = x.length := spn_cut x 32 r hspn (by decide)
    unfold pcName at hp ⊢
    rw [hcut, List.take_left]
    rw [hspn, List.take_length] at hp
    exact hp
  · rw [if_neg hL] at hp ⊢
    by_cases hD : isD (byteAt x 0) = true
    · rw [if_pos hD] at hp ⊢
      have h3 : (pcNum x).2.2 = 0 := by rw [hp]
      have hok := pcNum_ok h3
      rw [hok] at hp
      have hspn : spn isD x = x.length := (Prod.mk.inj (Prod.mk.inj hp).2).1
      have hcut : spn isD (x ++ 32 :: r) = x.length := spn_cut x 32 r hspn (by decide)
      unfold pcNum at hok ⊢
      rw [hspn] at hok
      rw [hcut, ha]
      split at hok
      · simp at hok
      · rw [if_neg (by assumption)]
        split at hok
        · simp at hok
        · rw [if_neg (by assumption), at_behind, if_neg (by decide)]
          exact hp ▸ (by rw [hspn])
    · rw [if_neg hD] at hp ⊢
      unfold pcSign at hp ⊢
      rw [ha]
      split at hp
      · have := (Prod.mk.inj hp).1; exact absurd this.symm hK
      · rename_i hz
        have hsz : sgn (byteAt x 0) (byteAt x 1) = x.length := (Prod.mk.inj (Prod.mk.inj hp).2).1
        have hsame : sgn (byteAt x 0) (byteAt (x ++ 32 :: r) 1) = sgn (byteAt x 0) (byteAt x 1) := by
          rcases Nat.lt_or_ge 1 x.length with h | h
          · rw [at_app h]
          · have hx1 : x.length = 1 := by omega
            have e1 : byteAt (x ++ 32 :: r) 1 = 32 := by have := at_behind x 32 r; rw [hx1] at this; exact this
            rw [e1, at_end x h]
            exact sgn_same (by decide) (by decide) (by decide) (by decide) (by decide) (by decide)
        rw [hsame, if_neg hz]
        exact hp
theorem skp_piece {x : List UInt8} (h0 : x ≠ []) (h : skp false x = 0) (r : List UInt8) : skp false (x ++ r) = 0 := by
  cases x with
  | nil => exact absurd rfl h0
  | cons b t =>
    obtain ⟨h1, h2⟩ := skp_behind (b :: t) false b t (by rw [h]; rfl)
    rw [List.cons_append]
    exact skp_none h1 h2

/-- Texts, each with a byte 32 and blanks behind it. -/
def cc (bl : List UInt8) : List (List UInt8) → List UInt8
  | [] => []
  | x :: r => x ++ 32 :: (bl ++ cc bl r)
theorem cc_snoc (bl : List UInt8) (p : List (List UInt8)) (x : List UInt8) : cc bl (p ++ [x]) = cc bl p ++ (x ++ 32 :: bl) := by
  induction p with
  | nil => simp [cc]
  | cons y p ih => rw [List.cons_append, cc, cc, ih]; simp
theorem cc_len (bl : List UInt8) (hb : bl.length ≤ 50) : ∀ (l : List (List UInt8)), (∀ x ∈ l, x.length ≤ 100) → (cc bl l).length ≤ 151 * l.length
  | [], _ => Nat.le_refl _
  | x :: r, h => by
    have ih := cc_len bl hb r (fun y hy => h y (List.mem_cons_of_mem _ hy))
    have hx := h x List.mem_cons_self
    rw [cc]
    simp only [List.length_append, List.length_cons]
    omega
/-- What All tells of them. -/
structure Again (s : List UInt8) (k : Nat) (ls : List (List UInt8)) (ts : List Tok) (r : Int × Int) : Prop where
  toks : Toks s k ts r
  ok : r.2 = 0
  len : ts.length = ls.length + 1
  same : ∀ (i : Nat) (x : List UInt8), ls[i]? = some x → ∃ t, ts[i]? = some t ∧ t.S = str x
  last : ∃ t, ts[ls.length]? = some t ∧ t.K = 0
theorem again_any (bl : List UInt8) (hbl : ∀ b ∈ bl, blk (ob b) = true) : ∀ (ls : List (List UInt8)), (∀ x ∈ ls, Piece x) → ∀ (s : List UInt8) (k : Nat) (q : List UInt8), k ≤ s.length → (∀ b ∈ q, blk (ob b) = true) → s.drop k = q ++ cc bl ls → ∃ ts r, Again s k ls ts r := by
  intro ls
  induction ls with
  | nil =>
    intro _ s k q hk hq hd
    rw [cc, List.append_nil] at hd
    have hsk : skp false (s.drop k) = q.length := by rw [hd]; have := skp_blanks q [] hq; simpa [skp] using this
    have hl := congrArg List.length hd
    rw [List.length_drop] at hl
    have hb : k + q.length = k + skp false (s.drop k) := by rw [hsk]
    have he := nxt_end hb (List.drop_eq_nil_of_le (by omega))
    exact ⟨_, _, .fin k _ _ he rfl, rfl, rfl, fun i x hi => by simp at hi, ⟨_, rfl, rfl⟩⟩
  | cons x ls ih =>
    intro hP s k q hk hq hd
    obtain ⟨h0, hskx, K, hK, hp⟩ := hP x List.mem_cons_self
    rw [cc] at hd
    have hsk : skp false (s.drop k) = q.length := by rw [hd, skp_blanks q _ hq, skp_piece h0 hskx]; rfl
    have hb : k + q.length = k + skp false (s.drop k) := by rw [hsk]
    have hdb : s.drop (k + q.length) = x ++ 32 :: (bl ++ cc bl ls) := by rw [← List.drop_drop, hd, List.drop_left]
    have hpc : pc (s.drop (k + q.length)) = (K, x.length, 0) := by rw [hdb]; exact pc_follow h0 hp hK _
    have hn := nxt_good hb hpc
    rw [hdb, List.take_left] at hn
    rw [show ((k + q.length : Nat) : Int) + (x.length : Int) = ((k + q.length + x.length : Nat) : Int) by omega] at hn
    have hlen : 0 < x.length := List.length_pos_iff.2 h0
    have hl := congrArg List.length hdb
    rw [List.length_drop, List.length_append] at hl
    have hle : k + q.length + x.length ≤ s.length := by omega
    have hd2 : s.drop (k + q.length + x.length) = (32 :: bl) ++ cc bl ls := by rw [← List.drop_drop, hdb, List.drop_left]; rfl
    obtain ⟨ts, r, h⟩ := ih (fun y hy => hP y (List.mem_cons_of_mem _ hy)) s (k + q.length + x.length) (32 :: bl) hle (by
      intro b hb'
      rcases List.mem_cons.1 hb' with rfl | h
      · decide
      · exact hbl b h) hd2
    refine ⟨_ :: ts, r, .step k (k + q.length + x.length) _ ts r hn hK (by omega) hle h.toks, h.ok, by rw [List.length_cons, h.len, List.length_cons], ?_, ?_⟩
    · intro i y hi
      cases i with
      | zero =>
        obtain rfl : x = y := by simpa using hi
        exact ⟨_, rfl, rfl⟩
      | succ i =>
        obtain ⟨t, h1, h2⟩ := h.same i y (by simpa using hi)
        exact ⟨t, by simpa using h1, h2⟩
    · obtain ⟨t, h1, h2⟩ := h.last
      exact ⟨t, by simpa using h1, h2⟩
end Go.Proofs.YtekonndjanaoaaaDoor
