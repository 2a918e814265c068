/-
  The whole reader; Parse.
-/
import Derived.Test.YtglmcjplglgnlaaTermV
import Derived.BigQuiet
namespace Go.Proofs.Ytglmcjplglgnlaa
open Go.RowKit Go.Joins

theorem reads_ok (ts : List Tok) (tv : Value) (km b : Nat) (hlen : ts.length ≤ 1000) (hts : ∀ t ∈ ts, t.S.size ≤ maxLen) : ∀ f : Nat, (∀ g, g ≤ f → RowOk ts tv km b g) ∧ PartOk ts tv km b f := by
  intro f
  induction f with
  | zero =>
    refine ⟨fun g hg i n d l nv w h1 h6 hd hf h => ?_, fun i d l nv w hd hf h => ?_⟩
    · omega
    · omega
  | succ f ih =>
    obtain ⟨i1, i2⟩ := ih
    refine ⟨fun g hg => ?_, part_any ts tv km b f hlen hts (i1 f (Nat.le_refl _)) i2⟩
    rcases Nat.lt_or_ge g (f + 1) with hlt | hge
    · exact i1 g (by omega)
    · obtain rfl : g = f + 1 := by omega
      intro i n d l nv w h1 h6 hd hf h
      by_cases e6 : n = 6
      · subst e6
        exact row_six ts tv km b f i2 i d l nv w hd (by omega) h
      · exact row_low ts tv km b f hlen hts i1 i n d l nv w h1 (by omega) hd hf h

/-- What is wrong has no nodes. -/
theorem bad_all (ts : List Tok) : ∀ f : Nat, (∀ i n d, (lev ts f i n d).2.2 ≠ 0 → (lev ts f i n d).1 = []) ∧ (∀ i d, (one ts f i d).2.2 ≠ 0 → (one ts f i d).1 = []) ∧
    (∀ n d bt cur a, (goL ts f n d bt cur a).2.2 ≠ 0 → (goL ts f n d bt cur a).1 = []) := by
  intro f
  induction f with
  | zero => exact ⟨fun i n d _ => by simp [lev], fun i d _ => by simp [one], fun n d bt cur a _ => by simp [goL]⟩
  | succ f ih =>
    obtain ⟨i1, i2, i3⟩ := ih
    have hlp : ∀ n d bt cur a, (lp ts f n d bt cur a).2.2 ≠ 0 → (lp ts f n d bt cur a).1 = [] := by
      intro n d bt cur a
      obtain ⟨R, hR⟩ : ∃ R, lev ts f a (n + 1) d = R := ⟨_, rfl⟩
      obtain ⟨l, b, e⟩ := R
      by_cases he : e = 0
      · subst he
        rw [lp_ok hR]
        exact i3 _ _ _ _ _
      · rw [lp_bad hR he]
        exact fun _ => rfl
    refine ⟨fun i n d => ?_, fun i d => ?_, fun n d bt cur a => ?_⟩
    · by_cases hn : n = 6
      · subst hn; rw [lev_six]; exact i2 i d
      · rw [lev_low ts f i d hn]; exact hlp _ _ _ _ _
    · rw [one]
      split
      · exact fun h => absurd rfl h
      · split
        · exact fun h => absurd rfl h
        · split
          · exact fun _ => rfl
          · split
            · exact fun _ => rfl
            · split
              · obtain ⟨R, hR⟩ : ∃ R, lev ts f (i + 1) 1 (d + 1) = R := ⟨_, rfl⟩
                obtain ⟨l, a, e⟩ := R
                rw [hR]
                simp only
                split
                · exact fun _ => rfl
                · split
                  · exact fun h => absurd rfl h
                  · exact fun _ => rfl
              · obtain ⟨R, hR⟩ : ∃ R, one ts f (i + 1) (d + 1) = R := ⟨_, rfl⟩
                obtain ⟨l, a, e⟩ := R
                rw [hR]
                simp only
                split
                · exact fun _ => rfl
                · exact fun h => absurd rfl h
    · by_cases hs : kd (tokAt ts a) n = 0 ∨ (n = 3 ∧ bt.length = 1)
      · rw [goL_stop hs]
        exact fun h => absurd rfl h
      · rw [goL_on hs]; exact hlp _ _ _ _ _

/-- Parse, from any place. -/
def parseI (ts : List Tok) (a : Int) : List Nd × Nat × Int := if a < 0 then ([], 0, 1) else parseP ts a.toNat
/-- Nodes, a place, an error. -/
def PsIs (R : List Nd × Nat × Int) (w : World) (e : Ending) (w' : World) : Prop := ∃ v, e = .returned (.tuple #[v, .int .i64 R.2.1, .int .i64 R.2.2]) ∧ NRow w'.heap.size w' v R.1 ∧ Below w.heap.size w w'

set_option maxRecDepth 100000 in
set_option maxHeartbeats 8000000 in
theorem parse_any (ts : List Tok) (tv : Value) (a : Int) (hlen : ts.length ≤ 1000) (hts : ∀ t ∈ ts, t.S.size ≤ maxLen) (ha : a ≤ 9223372036854775807) (w : World) (h : TkRow w.heap.size w tv ts) :
    Calls Try.prog 8 #[tv, .int .i64 a] w fun e w' => PsIs (parseI ts a) w e w' := by
  obtain ⟨o, cap, rfl, -⟩ := h.form
  by_cases h0 : a < 0
  · have hR : parseI ts a = ([], 0, 1) := if_pos h0
    rw [hR]
    generalize ts.length = n
    clear h hts hlen hR ha
    go_enter Try.func8, Try.ntmps8
    go_wp2_with fail
    go_ret3
    exact ⟨_, rfl, NRow.nil _ _, Below.refl _ _⟩
  · obtain ⟨i, rfl⟩ := Int.eq_ofNat_of_zero_le (by omega : 0 ≤ a)
    have hR : parseI ts (i : Int) = lev ts (fuelOf ts) i 1 0 := by unfold parseI parseP; rw [if_neg h0, Int.toNat_natCast]
    rw [hR]
    have HROW := keep (fun km b => (reads_ok ts (.slice o ts.length cap) km b hlen hts (fuelOf ts)).1 (fuelOf ts) (Nat.le_refl _) i 1 0)
    have HFT := keep ((fits_all ts (fuelOf ts)).1 i 1 0)
    have HBAD := keep ((bad_all ts (fuelOf ts)).1 i 1 0)
    have HFU : Keep (8 * (ts.length - i) + 8 - 1 ≤ fuelOf ts) := keep (by unfold fuelOf; omega)
    have HTK := keep h
    have HLEN := keep hlen
    obtain ⟨R, hRR⟩ : ∃ R, lev ts (fuelOf ts) i 1 0 = R := ⟨_, rfl⟩
    obtain ⟨m, p, E⟩ := R
    rw [hRR] at HROW HFT HBAD ⊢
    obtain ⟨n, hn⟩ : ∃ n, n = ts.length := ⟨_, rfl⟩
    rw [← hn] at HROW HTK HFU ⊢
    clear hR hRR h hts hlen ha hn h0
    go_enter Try.func8, Try.ntmps8
    go_wp2_with fail
    refine (kinds_any _).mono ?_
    rintro e w1 ⟨km, rfl, hkm, hmap, hb1⟩
    have HB1 := keep hb1
    have HRD : Keep (Rd ts (.slice o n cap) km w1.heap.size i [] (.slice none 0 0) (w1.alloc (.cells #[.slice o n cap, .int .i64 i, .slice none 0 0, .map (some km)] 46))) := keep
      ⟨BoxL.new w1 _ _, World.ownsRow_nil _ _ _ _, ((HTK.out.to hb1).below ((Below.refl _ w1).alloc (Nat.le_refl _) _)), hmap.to ((Below.refl _ w1).alloc (Nat.le_refl _) _) hmap.lt, hmap.lt, Nat.zero_le _⟩
    have HC := keep (HROW.out km w1.heap.size [] (.slice none 0 0) _ (Nat.le_refl 1) (by omega) (by omega) HFU.out HRD.out)
    clear hkm hmap hb1 HROW
    go_wp2_with fail
    refine HC.out.mono ?_
    rintro e w2 ⟨rfl, nv', h1, h2, h3⟩
    simp only at h1 h3
    have HB2 : Keep (Below w.heap.size w w2) := keep (by
      have a1 := h2.below (B := w1.heap.size) (Nat.le_refl _) (fun k e => by simp [Value.ownBlock] at e) (by simp)
      have a2 := ((Below.refl w1.heap.size w1).alloc (Nat.le_refl _) (.cells #[.slice o n cap, .int .i64 i, .slice none 0 0, .map (some km)] 46)).trans a1
      exact HB1.out.trans (a2.mono HB1.out.size))
    have HBX := keep h1
    have x1 := h1.row 1 _ rfl
    by_cases hE : E = 0
    · subst hE
      have ho := h3 rfl
      rw [List.nil_append] at ho
      have HNR := keep (NRow.of_own ho (by have := HFT.out rfl; have := HLEN.out; simp only at *; omega))
      obtain ⟨vo, vc, rfl⟩ := own_form ho
      have x2 := h1.row 2 _ rfl
      clear h1 h2 h3 HC ho
      go_wp2_with fail
      go_quiet (fail)
      go_wp2_with fail
      go_ret3
      exact ⟨_, rfl, HNR.out.below (drewN_below (Below.refl _ w2) _), drewN_below HB2.out _⟩
    · have hm : m = [] := HBAD.out hE
      subst hm
      have bE : (E == 0) = false := by simpa using hE
      have bE' : (E != 0) = true := by simpa using hE
      clear h1 h2 h3 HC hE
      go_wp2_with fail
      go_quiet (fail)
      go_wp2_with fail
      go_ret3
      exact ⟨_, rfl, NRow.nil _ _, drewN_below HB2.out _⟩
end Go.Proofs.Ytglmcjplglgnlaa
