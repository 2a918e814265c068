/-
  The reader between calls; brackets; a part without signs between.
-/
import Derived.Test.YtglmcjplglgnlaaTermG
namespace Go.Proofs.Ytglmcjplglgnlaa
open Go.RowKit Go.Joins

/-- The reader in block b: at the token i, with the nodes l; the tokens and the map of kinds lie below it. -/
structure Rd (ts : List Tok) (tv : Value) (km b i : Nat) (l : List Nd) (nv : Value) (w : World) : Prop where
  box : BoxL w b [tv, .int .i64 i, nv, .map (some km)]
  own : w.ownsRow (b + 1) 42 5 nv l.length (ncs l)
  toks : TkRow b w tv ts
  map : KMap w km
  lt : km < b
  len : l.length ≤ i
/-- What a reading call leaves. -/
def ReadTo (tv : Value) (km b : Nat) (l : List Nd) (nv : Value) (R : List Nd × Nat × Int) (w : World) (e : Ending) (w' : World) : Prop :=
  e = .returned (.int .i64 R.2.2) ∧ ∃ nv', BoxL w' b [tv, .int .i64 R.2.1, nv', .map (some km)] ∧ RKept b nv.ownBlock nv'.ownBlock w w' ∧ (R.2.2 = 0 → w'.ownsRow (b + 1) 42 5 nv' (l ++ R.1).length (ncs (l ++ R.1)))

section
variable {ts : List Tok} {tv : Value} {km b i : Nat} {l : List Nd} {nv : Value} {w w' : World}
theorem Rd.size (h : Rd ts tv km b i l nv w) : b < w.heap.size := h.box.lt
theorem Rd.to (h : Rd ts tv km b i l nv w) (hb : Below w.heap.size w w') : Rd ts tv km b i l nv w' :=
  ⟨h.box.to hb, own_to h.own hb, h.toks.below (hb.mono (Nat.le_of_lt h.size)), h.map.to hb (Nat.lt_trans h.lt h.size), h.lt, h.len⟩
theorem Rd.above (h : Rd ts tv km b i l nv w) : ∀ k, nv.ownBlock = some k → b ≤ k := fun k hk => by have := (h.own.lt k hk).1; omega
/-- The place one on. -/
theorem Rd.step (h : Rd ts tv km b i l nv w) : Rd ts tv km b (i + 1) l nv (w.setCell ⟨b, 1, none⟩ (.int .i64 ((i : Int) + 1))) := by
  have hb : Below b w (w.setCell ⟨b, 1, none⟩ (.int .i64 ((i : Int) + 1))) := (Below.refl _ w).setCell (p := ⟨b, 1, none⟩) (Nat.le_refl b) _
  exact ⟨h.box.set 1 _ (by simp), own_other h.own b 1 _ (fun e => by have := (h.own.lt _ e).1; omega), h.toks.below hb, h.map.to hb h.lt, h.lt, by have := h.len; omega⟩
theorem step_kept (b : Nat) (r : Option Nat) (w : World) (x : Value) : RKept b r r w (w.setCell ⟨b, 1, none⟩ x) := RKept.cell (grown_at w b 1 x)
/-- Behind a call. -/
theorem Rd.after {a : Nat} {m : List Nd} {nv' : Value} (h : Rd ts tv km b i l nv w) (hb : BoxL w' b [tv, .int .i64 a, nv', .map (some km)]) (hk : RKept b nv.ownBlock nv'.ownBlock w w') (ho : w'.ownsRow (b + 1) 42 5 nv' m.length (ncs m)) (hl : m.length ≤ a) : Rd ts tv km b a m nv' w' := by
  have hB := hk.below (Nat.le_refl b) h.above (Nat.le_of_lt h.size)
  exact ⟨hb, ho, h.toks.below hB, h.map.to hB h.lt, h.lt, hl⟩
end

/-- Brackets: the term in them, and what closes them. -/
def brk (ts : List Tok) (f i d : Nat) : List Nd × Nat × Int :=
  match lev ts f (i + 1) 1 d with
  | (l, a, e) => if e ≠ 0 then ([], a, e) else if isOn (tokAt ts a) (str [41]) = true then (l, a + 1, 0) else ([], a, 11)
/-- The contract of row, at so much fuel. -/
def RowOk (ts : List Tok) (tv : Value) (km b f : Nat) : Prop := ∀ (i n d : Nat) (l : List Nd) (nv : Value) (w : World), 1 ≤ n → n ≤ 6 → d ≤ 24 → 8 * (ts.length - i) + 8 - n ≤ f → Rd ts tv km b i l nv w →
  Calls Try.prog 17 #[.pointer (some ⟨b, 0, none⟩), .int .i64 (n : Int), .int .i64 (d : Int)] w fun e w' => ReadTo tv km b l nv (lev ts f i n d) w e w'
/-- The contract of part. -/
def PartOk (ts : List Tok) (tv : Value) (km b f : Nat) : Prop := ∀ (i d : Nat) (l : List Nd) (nv : Value) (w : World), d ≤ 24 → 8 * (ts.length - i) + 1 ≤ f → Rd ts tv km b i l nv w →
  Calls Try.prog 24 #[.pointer (some ⟨b, 0, none⟩), .int .i64 (d : Int)] w fun e w' => ReadTo tv km b l nv (one ts f i d) w e w'

theorem str40 : (⟨#[40]⟩ : ByteArray) = str [40] := rfl
theorem str41 : (⟨#[41]⟩ : ByteArray) = str [41] := rfl

set_option maxHeartbeats 4000000 in
theorem bracket_any (ts : List Tok) (tv : Value) (km b f : Nat) (hlen : ts.length ≤ 1000) (HR : RowOk ts tv km b f) (i d : Nat) (l : List Nd) (nv : Value) (w : World) (hd : d ≤ 24) (hi : i < ts.length) (hf : 8 * (ts.length - (i + 1)) + 7 ≤ f) (h : Rd ts tv km b i l nv w) :
    Calls Try.prog 40 #[.pointer (some ⟨b, 0, none⟩), .int .i64 (d : Int)] w fun e w' => ReadTo tv km b l nv (brk ts f i d) w e w' := by
  have HC := keep (HR (i + 1) 1 d l nv _ (Nat.le_refl _) (by omega) hd (by omega) h.step)
  have HFT := keep ((fits_all ts f).1 (i + 1) 1 d)
  obtain ⟨RB, hRB⟩ : ∃ RB, brk ts f i d = RB := ⟨_, rfl⟩
  rw [hRB]
  unfold brk at hRB
  obtain ⟨R, hR⟩ : ∃ R, lev ts f (i + 1) 1 d = R := ⟨_, rfl⟩
  obtain ⟨m, a, E⟩ := R
  rw [hR] at HC HFT hRB
  simp only at hRB
  have HRD := keep h
  have c1 := h.box.row 1 _ rfl
  have f1 := h.box.free 1
  have hbl := h.size
  have hiI : (i : Int) < 1000 := by omega
  have HL := keep hlen
  clear hR hd hf h hi hlen HR
  by_cases hE : E = 0
  · subst hE
    rw [if_neg (by simp)] at hRB
    obtain ⟨k1, k2, k3⟩ := HFT.out rfl
    simp only at k1 k2 k3
    have HK := keep (show m.length ≤ a - (i + 1) ∧ i + 1 < a ∧ a ≤ ts.length from ⟨k1, k2, k3⟩)
    have haI : (a : Int) ≤ 1000 := by have := HL.out; omega
    clear k1 k2 k3 HFT
    by_cases hon : isOn (tokAt ts a) (str [41]) = true
    · rw [if_pos hon] at hRB
      subst hRB
      go_enter Try.func40, Try.ntmps40
      go_wp2_with fail
      refine HC.out.mono ?_
      rintro e w1 ⟨rfl, nv1, hb1, hk1, ho1⟩
      have HRD1 := keep (HRD.out.step.after (a := a) (m := l ++ m) hb1 hk1 (ho1 rfl) (by have := HK.out; have := HRD.out.len; rw [List.length_append]; omega))
      have HK1 := keep ((step_kept b nv.ownBlock w (.int .i64 ((i : Int) + 1))).trans hk1)
      have HON := keep (on_any b b tv nv1 (.map (some km)) ts a (str [41]) w1 hb1 HRD1.out.toks (Nat.le_of_lt HRD1.out.size))
      rw [hon] at HON
      clear hb1 hk1 ho1 HC hon c1 f1
      go_wp2_with fail
      refine HON.out.mono ?_
      rintro e w2 ⟨rfl, h2⟩
      have HRD2 := keep (HRD1.out.to h2)
      have HK2 := keep (HK1.out.trans (RKept.of h2))
      have c1 := HRD2.out.box.row 1 _ rfl
      have f1 := HRD2.out.box.free 1
      clear h2 HON
      go_wp2_with fail
      go_ret
      exact ⟨rfl, nv1, HRD2.out.step.box, HK2.out.trans (step_kept b nv1.ownBlock w2 _), fun _ => HRD2.out.step.own⟩
    · have hon' : isOn (tokAt ts a) (str [41]) = false := by simpa using hon
      rw [if_neg hon] at hRB
      subst hRB
      clear hon
      go_enter Try.func40, Try.ntmps40
      go_wp2_with fail
      refine HC.out.mono ?_
      rintro e w1 ⟨rfl, nv1, hb1, hk1, ho1⟩
      have HRD1 := keep (HRD.out.step.after (a := a) (m := l ++ m) hb1 hk1 (ho1 rfl) (by have := HK.out; have := HRD.out.len; rw [List.length_append]; omega))
      have HK1 := keep ((step_kept b nv.ownBlock w (.int .i64 ((i : Int) + 1))).trans hk1)
      have HON := keep (on_any b b tv nv1 (.map (some km)) ts a (str [41]) w1 hb1 HRD1.out.toks (Nat.le_of_lt HRD1.out.size))
      rw [hon'] at HON
      clear hb1 hk1 ho1 HC hon' c1 f1
      go_wp2_with fail
      refine HON.out.mono ?_
      rintro e w2 ⟨rfl, h2⟩
      have HRD2 := keep (HRD1.out.to h2)
      have HK2 := keep (HK1.out.trans (RKept.of h2))
      clear h2 HON
      go_wp2_with fail
      go_ret
      exact ⟨rfl, nv1, HRD2.out.box, HK2.out, fun e => by simp at e⟩
  · rw [if_pos hE] at hRB
    subst hRB
    have bE : (E == 0) = false := by simpa using hE
    have bE' : (E != 0) = true := by simpa using hE
    have HE := keep hE
    clear hE HFT
    go_enter Try.func40, Try.ntmps40
    go_wp2_with fail
    refine HC.out.mono ?_
    rintro e w1 ⟨rfl, nv1, hb1, hk1, ho1⟩
    have HB1 := keep hb1
    have HK1 := keep ((step_kept b nv.ownBlock w (.int .i64 ((i : Int) + 1))).trans hk1)
    clear hb1 hk1 ho1 HC c1 f1
    go_wp2_with fail
    go_ret
    exact ⟨rfl, nv1, HB1.out, HK1.out, fun e => absurd e HE.out⟩
end Go.Proofs.Ytglmcjplglgnlaa
