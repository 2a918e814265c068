/-
  The frames of bytes: the document's All.
-/
import Derived.Test.YtghgahcgbnpidaaFrameC
import Derived.Test.YtghgahcgbnpidaaFrameD
import Derived.Deep.LoopGhost
namespace Go.Proofs.Ytghgahcgbnpidaa
open Go.RowKit Go.Joins

theorem infoFr : (Try.prog.info? 23).map (fun i => (i.zero, i.size, i.bytes)) = some (some (.agg #[.int .i64 0, .string ⟨#[]⟩]), 2, 24) := by kernel_rfl

/-- Why no further frame stands there. -/
def lastE (s : ByteArray) (e : Nat) : Nat := if e = s.size then 0 else (nx s e).2.2

/-- What a store of three cells leaves. -/
structure Set3 (W : World) (B : Nat) : Prop where
  s0 : ∀ x, (W.setCell ⟨B, 0, none⟩ x).cell? ⟨B, 0, none⟩ = some x
  s1 : ∀ x y, ((W.setCell ⟨B, 0, none⟩ x).setCell ⟨B, 1, none⟩ y).cell? ⟨B, 1, none⟩ = some y
  s2 : ∀ x y z, (((W.setCell ⟨B, 0, none⟩ x).setCell ⟨B, 1, none⟩ y).setCell ⟨B, 2, none⟩ z).cell? ⟨B, 2, none⟩ = some z
theorem BoxL.set3 {W : World} {B : Nat} {v0 v1 v2 : Value} (h : BoxL W B [v0, v1, v2]) : Set3 W B :=
  ⟨fun x => (h.set 0 x (by simp)).row 0 _ rfl, fun x y => ((h.set 0 x (by simp)).set 1 y (by simp)).row 1 _ rfl,
   fun x y z => (((h.set 0 x (by simp)).set 1 y (by simp)).set 2 z (by simp)).row 2 _ rfl⟩

theorem BoxL.grown {W W' : World} {B : Nat} {vs : List Value} {row : Option Nat} (h : BoxL W B vs) (hg : W.grownBy W' row) (hne : some B ≠ row) : BoxL W' B vs :=
  ⟨fun i v hi => (World.cell?_of_block (w := W) (a := ⟨B, i, none⟩) (hg.block B h.lt hne)).trans (h.row i v hi), fun i => (World.frozen?_of_block (w := W) (a := ⟨B, i, none⟩) (hg.block B h.lt hne)).trans (h.free i), Nat.lt_of_lt_of_le h.lt hg.size⟩
theorem below_set3 {n : Nat} {w W : World} {B : Nat} (h : Below n w W) (hB : n ≤ B) (x y z : Value) : Below n w (((W.setCell ⟨B, 0, none⟩ x).setCell ⟨B, 1, none⟩ y).setCell ⟨B, 2, none⟩ z) :=
  ((h.setCell hB _).setCell hB _).setCell hB _
theorem owns_set3 {W : World} {base : Nat} {v : Value} {n : Nat} {cs : List Value} {B : Nat} (h : W.ownsRow base 23 2 v n cs) (hB : B < base) (x y z : Value) : (((W.setCell ⟨B, 0, none⟩ x).setCell ⟨B, 1, none⟩ y).setCell ⟨B, 2, none⟩ z).ownsRow base 23 2 v n cs :=
  ownsRow_setCell_below (ownsRow_setCell_below (ownsRow_setCell_below h hB _) hB _) hB _
theorem own_kept {w w' : World} {B : Nat} {v : Value} {n : Nat} {cs : List Value} (h : w.ownsRow B 23 2 v n cs) (hb : Below w.heap.size w w') : w'.ownsRow B 23 2 v n cs :=
  h.kept (row := none) ⟨hb.os, hb.tape, hb.output, hb.size, fun j hj _ => hb.block j hj⟩ (by cases v.ownBlock <;> simp)

/-- A round of All: m frames are still to come. -/
structure AllAt (s : ByteArray) (xs : List (Nat × Fr)) (e : Nat) (m a : Nat) (o : Option Addr) (k c : Nat) (w wr : World) : Prop where
  res : BoxL wr w.heap.size [.slice none 0 0, .int .i64 0, .int .i64 0]
  box : BoxL wr (w.heap.size + 1) [.slice o k c, .int .i64 a, .int .i64 0]
  below : Below w.heap.size w wr
  split : ∃ pre rest, xs = pre ++ rest ∧ rest.length = m ∧ runs s a rest e ∧ a ≤ s.size ∧ pre.length = k ∧ wr.ownsRow (w.heap.size + 2) 23 2 (.slice o k c) k (fcs (pre.map (·.2)))

/-- The frames, the place behind them and the error are answered. -/
def AllTo (xs : List (Nat × Fr)) (e er : Nat) (w : World) (en : Ending) (w' : World) : Prop :=
  ∃ v, en = .returned (.agg #[v, .int .i64 e, .int .i64 er]) ∧ FrRow w'.heap.size w' v (xs.map (·.2)) ∧ Below w.heap.size w w'

set_option maxHeartbeats 2000000 in
theorem refAll_any (s : ByteArray) (xs : List (Nat × Fr)) (e : Nat) (w : World) (hs : s.size ≤ 100000) (h : Whole s xs e) : Calls Try.prog 15 #[.string s] w (AllTo xs e (lastE s e) w) := by
  obtain ⟨i0, hi, hz0, hz1, hz2⟩ := info_parts infoFr
  have HI := keep hi
  have HZ0 := keep hz0
  have HZ1 := keep hz1
  have HZ2 := keep hz2
  have HW := keep h
  have HS := keep hs
  have hsI : (s.size : Int) ≤ 100000 := by omega
  have HX0 := keep ((BoxL.new w [.slice none 0 0, .int .i64 0, .int .i64 0] 42).alloc (.cells #[.slice none 0 0, .int .i64 0, .int .i64 0] 42))
  have HY1 := BoxL.new (w.alloc (.cells #[.slice none 0 0, .int .i64 0, .int .i64 0] 42)) [.slice none 0 0, .int .i64 0, .int .i64 0] 42
  rw [World.size_alloc] at HY1
  have HX1 := keep HY1
  have HB0 : Keep (Below w.heap.size w ((w.alloc (.cells #[.slice none 0 0, .int .i64 0, .int .i64 0] 42)).alloc (.cells #[.slice none 0 0, .int .i64 0, .int .i64 0] 42))) := ⟨((Below.refl _ w).alloc (Nat.le_refl _) _).alloc (by simp) _⟩
  clear hi hz0 hz1 hz2 h hs HY1
  go_enter Try.func15, Try.ntmps15
  go_wp2_with fail
  go_loopg [4] xs.length (fun m u wr => ∃ (a : Nat) (o : Option Addr) (k c : Nat), Keep (AllAt s xs e m a o k c w wr))
  case atStart => exact ⟨0, none, 0, 0, ⟨⟨HX0.out, HX1.out, HB0.out, [], xs, rfl, rfl, HW.out.run, Nat.zero_le _, rfl, World.ownsRow_nil _ _ _ _⟩⟩⟩
  case round =>
    obtain ⟨a, o, k, c, HA⟩ := hrel
    obtain ⟨pre, rest, hxs, hm, hrun, hale, hpl, hown⟩ := HA.out.split
    have hb0 := HA.out.box.row 0 _ rfl
    have hb1 := HA.out.box.row 1 _ rfl
    have hb2 := HA.out.box.row 2 _ rfl
    have hbf := HA.out.box.free
    have hbl := HA.out.box.lt
    have haI : (a : Int) ≤ 100000 := by have := HS.out; omega
    have HBIG : Keep (∀ f ∈ xs.map (·.2), f.S.size ≤ 9223372036854775807) := ⟨fun f hf => by
      have := (runs_zp HW.out.run (Nat.zero_le _)).2.2.2 f hf
      have := this.2.2
      omega⟩
    cases rest with
    | nil =>
      obtain rfl : a = e := hrun
      rw [List.append_nil] at hxs
      subst hxs
      rw [← List.length_map (f := (·.2))] at hpl
      subst hpl
      have HO := keep hown
      have hr0 := HA.out.res.row 0 _ rfl
      have hr1 := HA.out.res.row 1 _ rfl
      have hr2 := HA.out.res.row 2 _ rfl
      have hrf := HA.out.res.free
      have hrl := HA.out.res.lt
      by_cases hend : a = s.size
      · have HE : Keep (lastE s a = 0) := ⟨by unfold lastE; rw [if_pos hend]⟩
        have hlt : ¬ (a : Int) < (s.size : Int) := by omega
        obtain ⟨hs0, hs1, hs2⟩ := HA.out.res.set3
        clear hm hown hend hale
        go_wp2_with fail
        refine bodyPost_ret (v := .agg #[.slice o _ c, .int .i64 a, .int .i64 0]) ?_ rfl ⟨_, by rw [HE.out]; rfl, FrRow.of_own (owns_set3 HO.out (by omega) _ _ _) HBIG.out, below_set3 HA.out.below (Nat.le_refl _) _ _ _⟩
        simp [results, Try.results15, go_sem, hs0, hs1, hs2]
      · have HN0 := fun W => refNext_any s (a : Int) W HS.out
        rw [nxI_in hale] at HN0
        have hne := HW.out.last
        have HE0 : lastE s a = (nx s a).2.2 := by unfold lastE; rw [if_neg hend]
        generalize nx s a = N at *
        obtain ⟨⟨K, S⟩, n, er⟩ := N
        unfold gotT at HN0
        simp only at HN0 hne HE0
        have HN := keep HN0
        have HE := keep HE0
        have hlt : (a : Int) < (s.size : Int) := by omega
        obtain ⟨E, hE⟩ : ∃ E : Int, E = (er : Int) := ⟨_, rfl⟩
        rw [← hE] at HN
        have HEE := keep hE
        have herI : (E == 0) = false := by simp; omega
        clear hm hown hend hale HN0 HE0 hE hne
        go_wp2_with fail
        refine (HN.out _).mono ?_
        rintro e w1 ⟨rfl, hb⟩
        have HB1 := keep (HA.out.below.trans (hb.mono HA.out.below.size))
        have HR1 := keep (HA.out.res.to hb)
        have HX1 := keep (HA.out.box.to hb)
        have HO1 := keep (own_kept HO.out hb)
        clear hb hr0 hr1 hr2 hrf hrl hb0 hb1 hb2 hbf hbl
        have hr0 := HR1.out.row 0 _ rfl
        have hr1 := HR1.out.row 1 _ rfl
        have hr2 := HR1.out.row 2 _ rfl
        have hrf := HR1.out.free
        have hrl := HR1.out.lt
        have hb0 := HX1.out.row 0 _ rfl
        have hb1 := HX1.out.row 1 _ rfl
        have hb2 := HX1.out.row 2 _ rfl
        have hbf := HX1.out.free
        have hbl := HX1.out.lt
        have hq2 : ∀ x, (w1.setCell ⟨w.heap.size + 1, 2, none⟩ x).cell? ⟨w.heap.size + 1, 2, none⟩ = some x := fun x => (HX1.out.set 2 x (by simp)).row 2 _ rfl
        obtain ⟨hs0, hs1, hs2⟩ := (HR1.out.other (p := ⟨w.heap.size + 1, 2, none⟩) (.int .i64 E) (by simp)).set3
        go_wp2_with fail
        refine bodyPost_ret (v := .agg #[.slice o _ c, .int .i64 a, .int .i64 E]) ?_ rfl ⟨_, by rw [HE.out, ← HEE.out], FrRow.of_own ((owns_set3 (ownsRow_setCell_below HO1.out (a := ⟨w.heap.size + 1, 2, none⟩) (by show w.heap.size + 1 < _; omega) _) (by omega) _ _ _).alloc _) HBIG.out, (below_set3 (HB1.out.setCell (p := ⟨w.heap.size + 1, 2, none⟩) (by show w.heap.size ≤ w.heap.size + 1; omega) _) (Nat.le_refl _) _ _ _).alloc (by simp only [World.size_setCell]; exact HB1.out.size) _⟩
        simp [results, Try.results15, go_sem, hs0, hs1, hs2, hrl]
    | cons x r =>
      obtain ⟨p, f⟩ := x
      obtain ⟨hp, n, hn, hr⟩ := hrun
      simp only at hn hp
      obtain ⟨hfok, hnl, hnle, _⟩ := nx_ok hale hn
      have hlnb := ln_bd f
      have hlt : (a : Int) < (s.size : Int) := by omega
      have HN0 := fun W => refNext_any s (a : Int) W HS.out
      rw [nxI_in hale, hn] at HN0
      have HSP : Keep (xs = (pre ++ [(p, f)]) ++ r ∧ r.length + 1 = gk ∧ runs s n r e ∧ n ≤ s.size ∧ (pre ++ [(p, f)]).length = k + 1 ∧ fcs ((pre ++ [(p, f)]).map (·.2)) = fcs (pre.map (·.2)) ++ [.int .i64 f.K, .string f.S]) := ⟨by rw [hxs]; simp, by simpa using hm, hr, hnle, by simp [hpl], by rw [List.map_append, fcs_append]; rfl⟩
      obtain ⟨K, S⟩ := f
      unfold gotT at HN0
      simp only at HN0
      have HN := keep HN0
      have HO := keep hown
      have hkI : k ≤ 100000 := by
        have h1 := runs_le HW.out.run (Nat.zero_le _)
        have h2 := congrArg List.length hxs
        rw [List.length_append] at h2
        have := HS.out
        omega
      have HKI := keep hkI
      clear hxs hm hp hn hr hfok hnl hnle hlnb hale hpl hown HN0 hkI
      go_wp2_with fail
      refine (HN.out _).mono ?_
      rintro e w1 ⟨rfl, hb⟩
      have HB1 := keep (HA.out.below.trans (hb.mono HA.out.below.size))
      have HR1 := keep (HA.out.res.to hb)
      have HX1 := keep (HA.out.box.to hb)
      have HO1 := keep (own_kept HO.out hb)
      clear hb hb0 hb1 hb2 hbf hbl
      have hb0 := HX1.out.row 0 _ rfl
      have hb1 := HX1.out.row 1 _ rfl
      have hb2 := HX1.out.row 2 _ rfl
      have hbf := HX1.out.free
      have hbl := HX1.out.lt
      go_wp2_with (at_builtin; refine wpList_append_own _ rfl _ _ 38 rfl (w.heap.size + 2) 23 i0 (.agg #[.int .i64 0, .string ⟨#[]⟩]) 2 24 Try.underlying38 HI.out HZ0.out HZ1.out HZ2.out rfl (by decide) _ k _ rfl ((HO1.out.alloc _).alloc _) ⟨w1.heap.size + 1, 0, none⟩ 1 1 [.int .i64 K, .string S] rfl rfl ?c1 ?c2 ?c3 ?c4 ?c5 ?_)
      case c1 =>
        intro j u hj
        have := (BoxL.new (w1.alloc (.cells #[.int .i64 K, .string S, .int .i64 n, .int .i64 0] 35)) [.int .i64 K, .string S] 23).row j u hj
        rw [World.size_alloc] at this
        rw [show (⟨w1.heap.size + 1, 0, none⟩ : Addr).add j = ⟨w1.heap.size + 1, j, none⟩ by rw [Addr.add_mid, Nat.zero_add]]
        exact this
      case c2 => intro u hu; simp at hu; rcases hu with rfl | rfl <;> rfl
      case c3 => unfold maxLen; have := HKI.out; omega
      case c4 => have := HKI.out; omega
      case c5 => have := HX1.out.lt; simp; omega
      intro v' w3 hown' hgrow _
      obtain ⟨g', c', rfl⟩ := ownsRow_form hown' (by omega)
      have hrow : ∀ j, (Value.slice o k c).ownBlock = some j → w.heap.size + 2 ≤ j ∧ j < w1.heap.size := HO1.out.lt
      have HG3 := keep ((((BoxL.new w1 [.int .i64 K, .string S, .int .i64 n, .int .i64 0] 35)).alloc _).grown hgrow (fun e => by have := hrow _ e.symm; omega))
      have HR3 := keep (((HR1.out.alloc _).alloc _).grown hgrow (fun e => by have := hrow _ e.symm; omega))
      have HX3 := keep (((HX1.out.alloc _).alloc _).grown hgrow (fun e => by have := hrow _ e.symm; omega))
      have HB3 := keep (((HB1.out.alloc HB1.out.size _).alloc (by have := HB1.out.size; simp; omega) _).grown hgrow (by have := HB1.out.size; simp; omega) (fun j e => by have := hrow j e; omega))
      have HO3 := keep hown'
      clear hown' hgrow hrow hb0 hb1 hb2 hbf hbl
      have hb0 := HX3.out.row 0 _ rfl
      have hb1 := HX3.out.row 1 _ rfl
      have hb2 := HX3.out.row 2 _ rfl
      have hbf := HX3.out.free
      have hbl := HX3.out.lt
      have hg0 := HG3.out.row 0 _ rfl
      have hg1 := HG3.out.row 1 _ rfl
      have hg2 := HG3.out.row 2 _ rfl
      have hg3 := HG3.out.row 3 _ rfl
      have HNE : Keep (w.heap.size + 1 < w1.heap.size) := ⟨HX1.out.lt⟩
      have hne := HNE.out
      go_wp2_with fail
      go_roundg r.length
      case measure => have := HSP.out.2.1; omega
      case rel =>
        refine ⟨n, some ⟨g', 0, none⟩, k + 1, c', ⟨⟨?_, ?_, ?_, ?_⟩⟩⟩
        · exact (HR3.out.other _ (by simp)).other _ (by simp)
        · exact (HX3.out.set 0 _ (by simp)).set 1 _ (by simp)
        · exact (HB3.out.setCell (by show w.heap.size ≤ w.heap.size + 1; omega) _).setCell (by show w.heap.size ≤ w.heap.size + 1; omega) _
        · obtain ⟨h1, h2, h3, h4, h5, h6⟩ := HSP.out
          refine ⟨_, r, h1, rfl, h3, h4, h5, ?_⟩
          rw [h6]
          exact ownsRow_setCell_below (ownsRow_setCell_below HO3.out (by show w.heap.size + 1 < _; omega) _) (by show w.heap.size + 1 < _; omega) _
end Go.Proofs.Ytghgahcgbnpidaa
