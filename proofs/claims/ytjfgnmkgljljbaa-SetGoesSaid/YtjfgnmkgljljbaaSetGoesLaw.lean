/-
  For every list of ints and every int, retracelaw06.SetGoes answers true, and what it is given reads as before. No condition.
-/
import Derived.Test.YtjfgnmkgljljbaaRows
import Derived.Test.YtjfgnmkgljljbaaSetT
namespace Go.Proofs.Ytjfgnmkgljljbaa.setGoes
open Go.ChangeShapes Go.WideShapes Go.ChangeAt Go.RowKit Go.Shelf
open Go.ChangeMaps (open_string shut_string)
attribute [local go_sem] Oper.semAt_some

/-- Something has come that is not there. -/
def Bad (l : List Int) (pre : List (Nat × Int)) : Prop := ∃ ini x, pre = ini ++ [x] ∧ (prs 0 l)[ini.length]? ≠ some x
theorem bad_not (l : List Int) (pre : List (Nat × Int)) (h : pre <+: prs 0 l) : ¬ Bad l pre := by
  rintro ⟨ini, x, rfl, hne⟩
  obtain ⟨t, ht⟩ := h
  apply hne
  rw [← ht, List.append_assoc, List.getElem?_append_right (Nat.le_refl _), Nat.sub_self]
  rfl

/-- Between two rounds. -/
def GoI (d Bn : Nat) (w6 : World) (m : List Int) (pre : List (Nat × Int)) (W : World) : Prop :=
  SAt d (m.drop pre.length) W ∧ Kept2 Bn d w6 W ∧ Boxed W Bn 3 (.int .i64 (pre.length : Int))
theorem GoI.own (d Bn : Nat) (w6 : World) (m : List Int) : OwnFrom w6.heap.size (GoI d Bn w6 m) := fun s X Y row ⟨hs, hk, hb⟩ hg hr =>
  ⟨hs.grown hg (fun k e => (hr k e).2), hk.grown hg (fun k e => .inl (hr k e).1), hb.kept hg (fun e' => by obtain ⟨_, o, ho, hc⟩ := hr Bn e'.symm; rw [show X.heap[Bn]? = _ from hb] at ho; cases ho; cases hc)⟩

/-- The boxes of the law. -/
structure Boxes (B P d : Nat) (o : Option Addr) (N c : Nat) (stop : Int) (W : World) : Prop where
  t : Boxed W B 3 (.int .i64 stop)
  r : Boxed W (B + 1) 4 (.bool false)
  s : Boxed W P 25 (.pointer (some ⟨d, 0, none⟩))
  h : Boxed W (P + 1) 22 (.slice o N c)
theorem Boxes.kept {B P d : Nat} {o : Option Addr} {N c : Nat} {stop : Int} {w W : World} (h : Boxes B P d o N c stop w) (hk : Kept2 (P + 1 + 1 + 1) d w W) (h1 : B + 1 < d) (h2 : d < P) : Boxes B P d o N c stop W :=
  ⟨hk.heap h.t (by omega) (by omega), hk.heap h.r (by omega) (by omega), hk.heap h.s (by omega) (by omega), hk.heap h.h (by omega) (by omega)⟩
theorem row_kept {A B d : Nat} {l0 l : List Int} {w w' : World} {v : Value} (h : RowAt EV B w v l) (hs : SAt d l0 w) (hg : Kept2 A d w w') (hA : B ≤ A) : RowAt EV B w' v l := by
  refine ⟨h.room, ?_⟩
  obtain ⟨p, T, hb, -, -⟩ := hs.out
  rcases h.out with h | ⟨b, off, cap, h1, h2, h3⟩
  · exact .inl h
  · refine .inr ⟨b, off, cap, h1, h2, fun i x hi => ?_⟩
    have hc := h3 i x hi
    refine hg.cell hc (by show b ≠ A; omega) (fun e => ?_)
    simp only at e
    subst e
    rw [cell_of_row w b _ _ _ _ hb] at hc
    generalize off + i = j at hc
    cases j with
    | zero => simp at hc
    | succ k => simp at hc
theorem others {d : Nat} {l : List Int} {W W' : World} (h : SAt d l W) (hg : W.grownBy W' (some d)) : KeepsOthers W W' := by
  obtain ⟨p, T, hb, -, -⟩ := h.out
  refine ⟨hg.size, fun k o hk ho => (hg.block k (Array.getElem?_eq_some_iff.1 hk).1 (fun e => ?_)).trans hk⟩
  injection e with e
  subst e
  have he := hk.symm.trans hb
  injection he with he
  subst he
  cases ho
theorem nk {d : Nat} {l : List Int} {W W' : World} (h : SAt d l W) (hg : W.grownBy W' (some d)) : NK W W' := by
  obtain ⟨p, T, hb, -, -⟩ := h.out
  exact NKept.grown hg hb (by decide)
theorem del_drop {m : List Int} {q : Nat} {y : Int} (hu : Up lt' m) (hy : m[q]? = some y) : del lt' y (m.drop q) = m.drop (q + 1) ∧ y ∈ m.drop q := by
  obtain ⟨h, rfl⟩ := List.getElem?_eq_some_iff.1 hy
  have he := List.drop_eq_getElem_cons h
  have hu2 : Up lt' (m.drop q) := List.Pairwise.sublist (List.drop_sublist _ _) hu
  rw [he] at hu2 ⊢
  exact ⟨del_mid hlt' (a := []) hu2, List.mem_cons_self⟩

set_option maxRecDepth 100000 in
set_option maxHeartbeats 8000000 in
theorem walk (v0 : Value) (a0 : List Int) (stop : Int) (w : World) (h0 : RowAt EV w.heap.size w v0 a0) (_ : (Lit.int .i64 stop).wf = true) :
    Calls Try.prog 4 #[v0, .int .i64 stop] w fun e w' => e = .returned (.bool true) ∧ Below w.heap.size w w' := by
  have HROW := keep h0
  obtain ⟨o0, c0, rfl, -⟩ := h0.form
  have hm0 := h0.room
  obtain ⟨n, hn⟩ : ∃ n, n = a0.length := ⟨_, rfl⟩
  have HN := keep hn
  rw [← hn] at hm0 HROW ⊢
  have hnI : (n : Int) ≤ 9223372036854775807 := by omega
  have HBS0 := keep ((Boxed.new w 3 (.int .i64 stop)).alloc (.cells #[.bool false] 4))
  have hr0 := Boxed.new (w.alloc (.cells #[.int .i64 stop] 3)) 4 (.bool false)
  rw [World.size_alloc] at hr0
  have HBR0 := keep hr0
  have HBW0 := keep (((Below.refl _ w).alloc (Nat.le_refl _) (.cells #[.int .i64 stop] 3)).alloc (by simp) (.cells #[.bool false] 4))
  clear h0 hm0 hn hr0
  by_cases hbig : (100 : Int) < (n : Int)
  · go_enter Try.func4, Try.ntmps4
    go_wp2_with fail
    refine (live_any _).mono ?_
    rintro e w4 ⟨rfl, hb⟩
    have HR4 := keep (HBR0.out.kept (below_grown hb) (by simp))
    have HB4 := keep (HBW0.out.trans (hb.mono HBW0.out.size))
    have q0 := HR4.out.cell
    have q1 := HR4.out.frozen
    have q2 := (HR4.out.set (.bool true)).cell
    clear hb
    go_wp2_with fail
    refine bodyPost_ret (v := .bool true) ?_ rfl ⟨rfl, HB4.out.setCell (p := ⟨w.heap.size + 1, 0, none⟩) (by show w.heap.size ≤ w.heap.size + 1; omega) _⟩
    simp [results, Try.results4, go_sem, q2]
  · have hn1 : (n : Int) ≤ 100 := by omega
    clear hbig hnI
    have hfn := func_nil
    have HOF : Keep (∀ W, Below w.heap.size w W → Calls Try.prog 8 #[.slice o0 n c0] W fun e w' => (∃ d, e = .returned (.pointer (some ⟨d, 0, none⟩)) ∧ W.heap.size ≤ d ∧ SAt d (rowOf lt' a0) w') ∧ Below W.heap.size W w') := ⟨fun W h => of_any ((HROW.out.below h).mono h.size) (by rw [← HN.out]; omega)⟩
    have HROF : Keep (∀ W, Below w.heap.size w W → Calls Try.prog 9 #[.slice o0 n c0] W fun e w' => ∃ o c, e = .returned (.slice o (rowOf lt' a0).length c) ∧ Keep (RowAt EV w'.heap.size w' (.slice o (rowOf lt' a0).length c) (rowOf lt' a0) ∧ Below W.heap.size W w')) := ⟨fun W h => (rof_any ((HROW.out.below h).mono h.size) (by rw [← HN.out]; omega)).mono (by
      rintro e w' ⟨v, rfl, hr, hb⟩
      obtain ⟨o, c, rfl, -⟩ := hr.form
      exact ⟨o, c, rfl, ⟨hr, hb⟩⟩)⟩
    have HML : Keep ((rowOf lt' a0).length ≤ 100) := ⟨by have := rowOf_length (lt := lt') a0; rw [← HN.out] at this; omega⟩
    obtain ⟨m, hm⟩ : ∃ m, m = rowOf lt' a0 := ⟨_, rfl⟩
    rw [← hm] at HOF HROF HML
    clear hm HROW
    refine (callsIn_wide (n := 4)).1 ?_
    refine callsIn_of_wp_marks Try.func4 rfl trivial ?_ rfl
    simp only [Try.ntmps4, List.size_toArray, List.length_cons, List.length_nil, Nat.reduceAdd, Nat.reduceSub, Array.replicate_succ, Array.replicate_zero, List.push_toArray, List.append_toArray, List.nil_append, List.cons_append]
    gi_wp2_with (first
      | (refine ⟨trivial, ?_⟩; gi_at_call 7; refine (callsIn_wide.2 (live_any _)).mono ?_; rintro e1 w1 ⟨rfl, hb⟩; have HBW1 := keep (HBW0.out.trans (hb.mono HBW0.out.size)); have HBS1 := keep (HBS0.out.kept (below_grown hb) (by simp)); have HBR1 := keep (HBR0.out.kept (below_grown hb) (by simp)); clear hb HBS0 HBR0)
      | (refine ⟨trivial, ?_⟩; gi_at_call 8; refine (callsIn_wide.2 (HOF.out _ HBW1.out)).mono ?_; clear HOF; rintro e1 w2 ⟨⟨d, rfl, hd, hs⟩, hb⟩; have HS2 := keep hs; have HDD : Keep (w.heap.size + 1 < d) := ⟨Nat.lt_of_lt_of_le HBR1.out.lt hd⟩; have HBW2 := keep (HBW1.out.trans (hb.mono HBW1.out.size)); have HBS2 := keep (HBS1.out.kept (below_grown hb) (by simp)); have HBR2 := keep (HBR1.out.kept (below_grown hb) (by simp)); clear hs hd hb HBS1 HBR1)
      | (refine ⟨trivial, ?_⟩; gi_at_call 9; refine (callsIn_wide.2 (HROF.out _ HBW2.out)).mono ?_; clear HROF; rintro e1 w3 ⟨o, c, rfl, HR3⟩; have HBW3 := keep (HBW2.out.trans (HR3.out.2.mono HBW2.out.size)); have HBS3 := keep (HBS2.out.kept (below_grown HR3.out.2) (by simp)); have HBR3 := keep (HBR2.out.kept (below_grown HR3.out.2) (by simp)); have HS3 := keep (HS2.out.below HR3.out.2); clear HBS2 HBR2 HS2)
      | (refine ⟨trivial, ?_⟩; gi_at_call 20; refine (callsIn_wide.2 (allf_any _ _)).mono ?_; rintro e1 w' ⟨rfl, rfl⟩))
    obtain ⟨N, hN⟩ : ∃ N, N = m.length := ⟨_, rfl⟩
    have HNN := keep hN
    rw [← hN] at HR3 HML ⊢
    have hb6 : Below w3.heap.size w3 ((((w3.alloc (.cells #[.pointer (some ⟨d, 0, none⟩)] 25)).alloc (.cells #[.slice o N c] 22)).alloc (.cells #[.pointer (some ⟨d, 0, none⟩)] 25)).alloc (.cells #[.int .i64 0] 3)) := ((((Below.refl _ w3).alloc (Nat.le_refl _) _).alloc (by simp) _).alloc (by simp; omega) _).alloc (by simp; omega) _
    have b0 := Boxed.new w3 25 (.pointer (some ⟨d, 0, none⟩))
    have b1 := Boxed.new (w3.alloc (.cells #[.pointer (some ⟨d, 0, none⟩)] 25)) 22 (.slice o N c)
    have b2 := Boxed.new ((w3.alloc (.cells #[.pointer (some ⟨d, 0, none⟩)] 25)).alloc (.cells #[.slice o N c] 22)) 25 (.pointer (some ⟨d, 0, none⟩))
    have b3 := Boxed.new (((w3.alloc (.cells #[.pointer (some ⟨d, 0, none⟩)] 25)).alloc (.cells #[.slice o N c] 22)).alloc (.cells #[.pointer (some ⟨d, 0, none⟩)] 25)) 3 (.int .i64 0)
    simp only [World.size_alloc] at b1 b2 b3
    have HSZ : Keep (((((w3.alloc (.cells #[.pointer (some ⟨d, 0, none⟩)] 25)).alloc (.cells #[.slice o N c] 22)).alloc (.cells #[.pointer (some ⟨d, 0, none⟩)] 25)).alloc (.cells #[.int .i64 0] 3)).heap.size = w3.heap.size + 1 + 1 + 1 + 1) := ⟨by simp⟩
    have HBX6 : Keep (Boxes w.heap.size w3.heap.size d o N c stop ((((w3.alloc (.cells #[.pointer (some ⟨d, 0, none⟩)] 25)).alloc (.cells #[.slice o N c] 22)).alloc (.cells #[.pointer (some ⟨d, 0, none⟩)] 25)).alloc (.cells #[.int .i64 0] 3))) := ⟨(hb6.block _ HBS3.out.lt).trans HBS3.out, (hb6.block _ HBR3.out.lt).trans HBR3.out, ((b0.alloc _).alloc _).alloc _, (b1.alloc _).alloc _⟩
    have HP6 := keep (b2.alloc (.cells #[.int .i64 0] 3))
    have HN6 := keep b3
    have HS6 := keep (HS3.out.below hb6)
    have HROW6 := keep (HR3.out.1.below hb6)
    have HBW6 := keep (HBW3.out.trans (hb6.mono HBW3.out.size))
    have HDP : Keep (d < w3.heap.size) := ⟨HS3.out.lt⟩
    clear hb6 b0 b1 b2 b3 hN HR3 HS3 HBW3 HBW2 HBW1 HBW0 HBS3 HBR3
    generalize (((w3.alloc (.cells #[.pointer (some ⟨d, 0, none⟩)] 25)).alloc (.cells #[.slice o N c] 22)).alloc (.cells #[.pointer (some ⟨d, 0, none⟩)] 25)).alloc (.cells #[.int .i64 0] 3) = w6 at *
    generalize w3.heap.size = P at *
    refine range_prs 0 28 29 9 10 (P + 1 + 1) (some ⟨d, 0, none⟩) m (by have := HML.out; have := HNN.out; omega) rfl HS6.out.sv HP6.out
      (GoI d (P + 1 + 1 + 1) w6 m) (GoI.own _ _ _ _) ⟨HS6.out, Kept2.refl _ _ _, HN6.out⟩ (Bad m) (fun pre => (pre.length : Int) = stop) (bad_not m) ?assign ?body ?rest
    case assign =>
      intro L x W K hK
      unfold asg2 at hK
      simp only [List.setIfInBounds_toArray, List.set_cons_succ, List.set_cons_zero] at hK
      gi_wp2
      exact hK
    case body =>
      rintro L pre ⟨i, y⟩ W ⟨hs, hk, hn⟩ hlt
      unfold asg2
      simp only [List.setIfInBounds_toArray, List.set_cons_succ, List.set_cons_zero]
      have hsz := HSZ.out
      have hdd := HDD.out
      have hdp := HDP.out
      have hbx := HBX6.out.kept hk hdd hdp
      obtain ⟨q, hqq⟩ : ∃ q, q = pre.length := ⟨_, rfl⟩
      have HQQ := keep hqq
      rw [← hqq] at hs hn hlt
      obtain ⟨y0, hy0⟩ := get_of_lt hlt
      obtain ⟨o', cap, he, hr⟩ := (row_kept HROW6.out HS6.out hk (by omega)).form
      injection he with he1 he2 he3
      subst he1 he3
      obtain ⟨b, off, ho, hbP, hc⟩ := hr q y0 hy0
      subst ho
      have hcell := hc W (Below.refl _ _)
      obtain ⟨hdel, hmem⟩ := del_drop HS6.out.up hy0
      have HY0 : Keep ((prs 0 m)[pre.length]? = some (q, y0)) := ⟨by rw [prs_get, ← hqq, hy0]; simp⟩
      have hlt' : q < N := by rw [HNN.out]; exact hlt
      have hltI : (q : Int) < (N : Int) := by omega
      have hd1 : decide (N ≤ q) = false := by simp; omega
      have hq0 : (0 : Int) ≤ (q : Int) := by omega
      have hqI : (q : Int) ≤ 100 := by have := HML.out; omega
      have ch := hbx.h.cell
      have cs := hbx.s.cell
      have ct := hbx.t.cell
      have cr := hbx.r.cell
      have fr := hbx.r.frozen
      have cn := hn.cell
      have fn := hn.frozen
      have HS := keep hs
      have HK := keep hk
      have HNB := keep hn
      have HBX := keep hbx
      have HDEL := keep (del_in y0 hs (by rw [List.length_drop]; have := HML.out; have := HNN.out; omega) hmem)
      rw [hdel] at HDEL
      clear hs hk hn hbx hlt hlt' hqq hy0 hr hbP hc hdel hmem hsz hdd hdp he2
      by_cases hi : i = q
      · subst hi
        by_cases hy : y = y0
        · subst hy
          have HFW : Keep (∀ w2, W.grownBy w2 (some d) → w2.cell? ⟨P + 1 + 1 + 1, 0, none⟩ = some (.int .i64 (i : Int)) ∧ w2.frozen? ⟨P + 1 + 1 + 1, 0, none⟩ = false ∧ (w2.setCell ⟨P + 1 + 1 + 1, 0, none⟩ (.int .i64 ((i : Int) + 1))).cell? ⟨P + 1 + 1 + 1, 0, none⟩ = some (.int .i64 ((i : Int) + 1)) ∧ (w2.setCell ⟨P + 1 + 1 + 1, 0, none⟩ (.int .i64 ((i : Int) + 1))).cell? ⟨w.heap.size, 0, none⟩ = some (.int .i64 stop) ∧ Boxed w2 (P + 1 + 1 + 1) 3 (.int .i64 (i : Int)) ∧ Boxed (w2.setCell ⟨P + 1 + 1 + 1, 0, none⟩ (.int .i64 ((i : Int) + 1))) (P + 1 + 1 + 1) 3 (.int .i64 ((i : Int) + 1))) := ⟨fun w2 hg => by
            have hdd := HDD.out
            have hdp := HDP.out
            have hn2 : Boxed w2 (P + 1 + 1 + 1) 3 (.int .i64 (i : Int)) := (hg.block _ HNB.out.lt (fun e => by injection e with e; omega)).trans HNB.out
            have ht2 : Boxed w2 w.heap.size 3 (.int .i64 stop) := (hg.block _ HBX.out.t.lt (fun e => by injection e with e; omega)).trans HBX.out.t
            exact ⟨hn2.cell, hn2.frozen, (hn2.set _).cell, (ht2.other (by omega) _).cell, hn2, hn2.set _⟩⟩
          have HPRE : Keep ((pre ++ [(i, y)]).length = i + 1) := ⟨by rw [List.length_append, ← HQQ.out]; rfl⟩
          have HPL : Keep (((pre ++ [(i, y)]).length : Int) = (i : Int) + 1) := ⟨by rw [HPRE.out]; omega⟩
          have HEND : Keep (∀ w2, SAt d (m.drop (i + 1)) w2 → W.grownBy w2 (some d) → KeepsFrom w6.heap.size W (w2.setCell ⟨P + 1 + 1 + 1, 0, none⟩ (.int .i64 ((i : Int) + 1))) ∧ NK W (w2.setCell ⟨P + 1 + 1 + 1, 0, none⟩ (.int .i64 ((i : Int) + 1))) ∧ GoI d (P + 1 + 1 + 1) w6 m (pre ++ [(i, y)]) (w2.setCell ⟨P + 1 + 1 + 1, 0, none⟩ (.int .i64 ((i : Int) + 1)))) := ⟨fun w2 hs' hg => by
            obtain ⟨-, -, -, -, hn2, hn3⟩ := HFW.out w2 hg
            refine ⟨((others HS.out hg).trans (KeepsOthers.setCell _ _ _)).from _, (nk HS.out hg).trans (NKept.grown (grown_set w2 _ _) hn2 (by decide)), ?_, ?_, ?_⟩
            · rw [HPRE.out]; exact hs'.set hn2 _
            · exact (HK.out.grown hg (fun k e => by injection e with e; exact .inr (.inr e.symm))).grown (grown_set w2 _ _) (fun k e => by injection e with e; exact .inr (.inl e.symm))
            · rw [HPL.out]; exact hn3⟩
          by_cases hst : (i : Int) + 1 = stop
          · have hsb : ((i : Int) + 1 == stop) = true := by simp [hst]
            have HST := keep hst
            clear hst
            gi_wp2_with (refine ⟨trivial, ?_⟩; gi_at_call 13; refine (CallsIn.inRound L (callsIn_wide.2 HDEL.out)).mono ?_; rintro e w2 ⟨rfl, hs', hg'⟩; have HS2 := keep hs'; have HG2 := keep hg'; have HF2 := keep (HFW.out w2 hg'); clear hs' hg' ch cs ct cr fr cn fn hcell; obtain ⟨cn2, fn2, cn3, ct3, -⟩ := HF2.out)
            obtain ⟨h1, h2, h3⟩ := HEND.out w2 HS2.out HG2.out
            exact ⟨h1, .inr ⟨rfl, by show ((pre ++ [(i, y)]).length : Int) = stop; rw [HPL.out]; exact HST.out, h3⟩⟩
          · have hsb : ((i : Int) + 1 == stop) = false := by simp [hst]
            clear hst
            gi_wp2_with (refine ⟨trivial, ?_⟩; gi_at_call 13; refine (CallsIn.inRound L (callsIn_wide.2 HDEL.out)).mono ?_; rintro e w2 ⟨rfl, hs', hg'⟩; have HS2 := keep hs'; have HG2 := keep hg'; have HF2 := keep (HFW.out w2 hg'); clear hs' hg' ch cs ct cr fr cn fn hcell; obtain ⟨cn2, fn2, cn3, ct3, -⟩ := HF2.out)
            exact HEND.out w2 HS2.out HG2.out
        · have hyn : (y != y0) = true := by simpa using hy
          have HX := keep hy
          have hud : ∀ b : Bool, (undef = Value.bool b) = False := fun b => by unfold undef; simp
          clear hy
          gi_wp2
          refine ⟨trivial, ?_⟩
          gi_wp2
          exact ⟨(KeepsOthers.setCell _ _ _).from _, .inl ⟨rfl, pre, _, rfl, fun h => HX.out (by rw [HY0.out] at h; injection h with h; injection h with _ h; exact h.symm)⟩⟩
      · have hin : ((i : Int) != (q : Int)) = true := by simp; omega
        have HX := keep hi
        have hud : ∀ b : Bool, (undef = Value.bool b) = False := fun b => by unfold undef; simp
        clear hi
        gi_wp2
        refine ⟨trivial, ?_⟩
        gi_wp2
        exact ⟨(KeepsOthers.setCell _ _ _).from _, .inl ⟨rfl, pre, _, rfl, fun h => HX.out (by rw [HY0.out] at h; injection h with h; injection h with h _; exact h.symm)⟩⟩
    case rest =>
      rintro D pre W hD hle hT ⟨hs, hk, hn⟩ hDK
      have hsz := HSZ.out
      have hdd := HDD.out
      have hdp := HDP.out
      have hbx := HBX6.out.kept hk hdd hdp
      have hbw : Below w.heap.size w W := hk.below HBW6.out (by omega) (by omega) HBW6.out.size
      obtain ⟨q, hqq⟩ : ∃ q, q = pre.length := ⟨_, rfl⟩
      rw [← hqq] at hs hn hle hT
      rw [← HNN.out] at hle hT
      have HLEN : Keep (Calls Try.prog 21 #[.pointer (some ⟨d, 0, none⟩)] W.drew fun e w' => e = .returned (.int .i64 ((N : Int) - (q : Int))) ∧ W.drew = w') := ⟨by
        have hs2 : SAt d (m.drop q) W.drew := hs.below (Below.refl _ W).drew
        have := len_any hs2.sv
        rw [List.length_drop, ← HNN.out] at this
        rw [show (N : Int) - (q : Int) = ((N - q : Nat) : Int) by omega]
        exact this⟩
      have hqI : (q : Int) ≤ (N : Int) := by omega
      have hNI : (N : Int) ≤ 100 := by have := HML.out; omega
      have hq0 : (0 : Int) ≤ (q : Int) := by omega
      have hwq : IntKind.i64.wrap ((N : Int) - (q : Int)) = (N : Int) - (q : Int) := IntWalk.i64_in _ ⟨by omega, by omega⟩
      have HT : Keep ((q : Int) = (N : Int) ∨ ((q : Int) ≠ (N : Int) ∧ (q : Int) = stop)) := ⟨by
        by_cases e : (q : Int) = (N : Int)
        · exact .inl e
        · rcases hT with h | h
          · exact absurd (by rw [h]) e
          · exact .inr ⟨e, h⟩⟩
      have ch := hbx.h.cell
      have cs := hbx.s.cell
      have ct := hbx.t.cell
      have cn := hn.cell
      have HBX := keep hbx
      have HBW := keep hbw
      have HDK := keep hDK
      have HNL := keep hn.lt
      have HRL : Keep (w.heap.size + 1 < P ∧ P + 1 + 1 + 1 < D) := ⟨by omega⟩
      clear hs hk hn hbx hbw hDK hD hle hT hqq hsz hdd hdp
      rcases HT.out with hc | ⟨hc1, hc2⟩
      · have hqn : ((q : Int) == (N : Int)) = true := by simp [hc]
        clear hc
        gi_wp2
        refine AnyGo.regionM (fun W' => W'.cell? ⟨P + 1 + 1 + 1, 0, none⟩ = some (.int .i64 (q : Int)) ∧ W'.cell? ⟨P + 1, 0, none⟩ = some (.slice o N c) ∧ W'.cell? ⟨P, 0, none⟩ = some (.pointer (some ⟨d, 0, none⟩)) ∧ W'.cell? ⟨w.heap.size, 0, none⟩ = some (.int .i64 stop)) (by kernel_rfl) (by rfl) ⟨cn, ch, cs, ct⟩ ?_
        intro wd ewd
        subst ewd
        (refine AnyGo.take 0 (some 58) ?_ (a' := ?_) rfl (by kernel_rfl) (fun _ _ d _ _ h => by cases d <;> exact h) (by kernel_rfl) (by rfl) (by kernel_rfl) ?_ ?_ ?_; rotate_left 2; (focus (intro W hW; (try dsimp only at hW); go_simp; (try with_reducible rfl))); (focus (simp only [Act.put, List.setIfInBounds_toArray]; rfl)))
        (refine AnyGo.take 1 (some 59) ?_ (a' := ?_) rfl (by kernel_rfl) (fun _ _ d _ _ h => by cases d <;> exact h) (by kernel_rfl) (by rfl) (by kernel_rfl) ?_ ?_ ?_; rotate_left 2; (focus (intro W hW; (try dsimp only at hW); go_simp; (try with_reducible rfl))); (focus (simp only [Act.put, List.setIfInBounds_toArray]; rfl)))
        (refine AnyGo.take 2 (some 60) ?_ (a' := ?_) rfl (by kernel_rfl) (fun _ _ d _ _ h => by cases d <;> exact h) (by kernel_rfl) (by rfl) (by kernel_rfl) ?_ ?_ ?_; rotate_left 2; (focus (intro W hW; (try dsimp only at hW); go_simp; (try with_reducible rfl))); (focus (simp only [Act.put, List.setIfInBounds_toArray]; rfl)))
        (refine AnyGo.take 3 (some 61) ?_ (a' := ?_) rfl (by kernel_rfl) (fun _ _ d _ _ h => by cases d <;> exact h) (by kernel_rfl) (by rfl) (by kernel_rfl) ?_ ?_ ?_; rotate_left 2; (focus (intro W hW; (try dsimp only at hW); go_simp; (try with_reducible rfl))); (focus (simp only [Act.put, List.setIfInBounds_toArray]; rfl)))
        (refine AnyGo.take 4 (some 62) ?_ (a' := ?_) rfl (by kernel_rfl) (fun _ _ d _ _ h => by cases d <;> exact h) (by kernel_rfl) (by rfl) (by kernel_rfl) ?_ ?_ ?_; rotate_left 2; (focus (intro W hW; (try dsimp only at hW); go_simp; (try with_reducible rfl))); (focus (simp only [Act.put, List.setIfInBounds_toArray]; rfl)))
        (refine AnyGo.skip 5 (some 63) (a' := ?_) rfl (by kernel_rfl) (fun _ _ d _ _ h => by cases d <;> exact h) (by kernel_rfl) (by rfl) (by kernel_rfl) ?_ ?_; rotate_left 1; (focus (simp only [Act.put, List.setIfInBounds_toArray]; rfl)))
        (refine AnyGo.skip 6 (some 64) (a' := ?_) rfl (by kernel_rfl) (fun _ _ d _ _ h => by cases d <;> exact h) (by kernel_rfl) (by rfl) (by kernel_rfl) ?_ ?_; rotate_left 1; (focus (simp only [Act.put, List.setIfInBounds_toArray]; rfl)))
        (refine AnyGo.skip 7 (some 65) (a' := ?_) rfl (by kernel_rfl) (fun _ _ d _ _ h => by cases d <;> exact h) (by kernel_rfl) (by rfl) (by kernel_rfl) ?_ ?_; rotate_left 1; (focus (simp only [Act.put, List.setIfInBounds_toArray]; rfl)))
        (refine AnyGo.take 8 (some 66) ?_ (a' := ?_) rfl (by kernel_rfl) (fun _ _ d _ _ h => by cases d <;> exact h) (by kernel_rfl) (by rfl) (by kernel_rfl) ?_ ?_ ?_; rotate_left 2; (focus (intro W hW; (try dsimp only at hW); go_simp; (try with_reducible rfl))); (focus (simp only [Act.put, List.setIfInBounds_toArray]; rfl)))
        (refine AnyGo.take 9 (some 67) ?_ (a' := ?_) rfl (by kernel_rfl) (fun _ _ d _ _ h => by cases d <;> exact h) (by kernel_rfl) (by rfl) (by kernel_rfl) ?_ ?_ ?_; rotate_left 2; (focus (intro W hW; (try dsimp only at hW); go_simp; (try with_reducible rfl))); (focus (simp only [Act.put, List.setIfInBounds_toArray]; rfl)))
        (refine AnyGo.take 10 (some 68) ?_ (a' := ?_) rfl (by kernel_rfl) (fun _ _ d _ _ h => by cases d <;> exact h) (by kernel_rfl) (by rfl) (by kernel_rfl) ?_ ?_ ?_; rotate_left 2; (focus (intro W hW; (try dsimp only at hW); go_simp; (try with_reducible rfl))); (focus (simp only [Act.put, List.setIfInBounds_toArray]; rfl)))
        (refine AnyGo.take 12 (some 70) ?_ (a' := ?_) rfl (by kernel_rfl) (fun _ _ d _ _ h => by cases d <;> exact h) (by kernel_rfl) (by rfl) (by kernel_rfl) ?_ ?_ ?_; rotate_left 2; (focus (intro W hW; (try dsimp only at hW); go_simp; (try with_reducible rfl))); (focus (simp only [Act.put, List.setIfInBounds_toArray]; rfl)))
        (refine AnyGo.take 13 (some 71) ?_ (a' := ?_) rfl (by kernel_rfl) (fun _ _ d _ _ h => by cases d <;> exact h) (by kernel_rfl) (by rfl) (by kernel_rfl) ?_ ?_ ?_; rotate_left 2; (focus (intro W hW; (try dsimp only at hW); go_simp; (try with_reducible rfl))); (focus (simp only [Act.put, List.setIfInBounds_toArray]; rfl)))
        (refine AnyGo.take 14 (some 72) ?_ (a' := ?_) rfl (by kernel_rfl) (fun _ _ d _ _ h => by cases d <;> exact h) (by kernel_rfl) (by rfl) (by kernel_rfl) ?_ ?_ ?_; rotate_left 2; (focus (intro W hW; (try dsimp only at hW); go_simp; (try with_reducible rfl))); (focus (simp only [Act.put, List.setIfInBounds_toArray]; rfl)))
        (refine AnyGo.take 15 (some 73) ?_ (a' := ?_) rfl (by kernel_rfl) (fun _ _ d _ _ h => by cases d <;> exact h) (by kernel_rfl) (by rfl) (by kernel_rfl) ?_ ?_ ?_; rotate_left 2; (focus (intro W hW; (try dsimp only at hW); go_simp; (try with_reducible rfl))); (focus (simp only [Act.put, List.setIfInBounds_toArray]; rfl)))
        refine AnyGo.one (i := 11) (by kernel_rfl) rfl (by kernel_rfl) (fun K' hK' => ?_)
        go_simp
        refine HLEN.out.mono ?_
        rintro e w' ⟨rfl, rfl⟩
        refine hK'.out _ _ ⟨cn, ch, cs, ct⟩ ?_
        clear hK' K'
        (try simp only [Act.put, List.setIfInBounds_toArray])
        (refine AnyGo.take 16 (some 74) ?_ (a' := ?_) rfl (by kernel_rfl) (fun _ _ d _ _ h => by cases d <;> exact h) (by kernel_rfl) (by rfl) (by kernel_rfl) ?_ ?_ ?_; rotate_left 2; (focus (intro W hW; (try dsimp only at hW); go_simp; (try with_reducible rfl))); (focus (simp only [Act.put, List.setIfInBounds_toArray]; rfl)))
        (refine AnyGo.take 17 (some 75) ?_ (a' := ?_) rfl (by kernel_rfl) (fun _ _ d _ _ h => by cases d <;> exact h) (by kernel_rfl) (by rfl) (by kernel_rfl) ?_ ?_ ?_; rotate_left 2; (focus (intro W hW; (try dsimp only at hW); go_simp; (try with_reducible rfl))); (focus (simp only [Act.put, List.setIfInBounds_toArray]; rfl)))
        (refine AnyGo.take 18 (some 76) ?_ (a' := ?_) rfl (by kernel_rfl) (fun _ _ d _ _ h => by cases d <;> exact h) (by kernel_rfl) (by rfl) (by kernel_rfl) ?_ ?_ ?_; rotate_left 2; (focus (intro W hW; (try dsimp only at hW); go_simp; (try with_reducible rfl))); (focus (simp only [Act.put, List.setIfInBounds_toArray]; rfl)))
        refine AnyGo.one (i := 19) (by kernel_rfl) rfl (by kernel_rfl) (fun K' hK' => ?_)
        go_simp
        refine (live_any _).mono ?_
        rintro e w9 ⟨rfl, hb⟩
        have HB9 := keep (HBW.out.drew.trans (hb.mono HBW.out.drew.size))
        have hr9 : Boxed w9 (w.heap.size + 1) 4 (.bool false) := (hb.block _ HBX.out.r.lt).trans HBX.out.r
        have HR9 := keep hr9
        have cr := hr9.cell
        have fr := hr9.frozen
        have HDK9 : Keep (w9.heap[D]? = some (.deferred (some []))) := ⟨(hb.block D (Array.getElem?_eq_some_iff.1 HDK.out).1).trans HDK.out⟩
        have cn9 : w9.cell? ⟨P + 1 + 1 + 1, 0, none⟩ = some (.int .i64 (q : Int)) := (hb.cell (p := ⟨P + 1 + 1 + 1, 0, none⟩) HNL.out).trans cn
        have ch9 : w9.cell? ⟨P + 1, 0, none⟩ = some (.slice o N c) := (hb.cell (p := ⟨P + 1, 0, none⟩) HBX.out.h.lt).trans ch
        have cs9 : w9.cell? ⟨P, 0, none⟩ = some (.pointer (some ⟨d, 0, none⟩)) := (hb.cell (p := ⟨P, 0, none⟩) HBX.out.s.lt).trans cs
        have ct9 : w9.cell? ⟨w.heap.size, 0, none⟩ = some (.int .i64 stop) := (hb.cell (p := ⟨w.heap.size, 0, none⟩) HBX.out.t.lt).trans ct
        refine hK'.out _ _ ⟨cn9, ch9, cs9, ct9⟩ ?_
        clear hK' K' hb hr9 cn ch cs ct
        (try simp only [Act.put, List.setIfInBounds_toArray])
        (refine AnyGo.take 20 (some 78) ?_ (a' := ?_) rfl (by kernel_rfl) (fun _ _ d _ _ h => by cases d <;> exact h) (by kernel_rfl) (by rfl) (by kernel_rfl) ?_ ?_ ?_; rotate_left 2; (focus (intro W hW; (try dsimp only at hW); go_simp; (try with_reducible rfl))); (focus (simp only [Act.put, List.setIfInBounds_toArray]; rfl)))
        refine AnyGo.one (i := 21) (by kernel_rfl) rfl (by kernel_rfl) (fun K' hK' => ?_)
        go_simp
        have hne : ∀ k, k ≠ w.heap.size + 1 → ∀ v, w9.cell? ⟨k, 0, none⟩ = some v → (w9.setCell ⟨w.heap.size + 1, 0, none⟩ (.bool true)).cell? ⟨k, 0, none⟩ = some v := fun k hk v h => (World.cell?_setCell_other w9 _ _ _ (by intro c; injection c with c _; exact hk c.symm)).trans h
        refine hK'.out _ _ ⟨hne _ (by have := HRL.out; omega) _ cn9, hne _ (by have := HRL.out; omega) _ ch9, hne _ (by have := HRL.out; omega) _ cs9, hne _ (by omega) _ ct9⟩ ?_
        clear hK' K'
        refine AnyGo.fin (by kernel_rfl) ?_
        (try simp only [List.set_cons_succ, List.set_cons_zero])
        refine calm_normal ?_
        gi_wp2
        obtain ⟨hK1, hc5, hB5⟩ := lawEnd HB9.out HR9.out HDK9.out (by omega) (by have := HRL.out; omega) true
        refine ⟨by simp, .inl ⟨_, _, rfl, run_takeDeferred hK1, ?_⟩⟩
        refine ⟨.bool true, ?_, rfl, hB5⟩
        simp [results, Try.f4, go_sem, hc5]
      · have hqn : ((q : Int) == (N : Int)) = false := by simp [hc1]
        have hqs : ((q : Int) == stop) = true := by simp [hc2]
        clear hc1 hc2
        gi_wp2
        refine AnyGo.regionM (fun W' => W'.cell? ⟨P + 1 + 1 + 1, 0, none⟩ = some (.int .i64 (q : Int)) ∧ W'.cell? ⟨P + 1, 0, none⟩ = some (.slice o N c) ∧ W'.cell? ⟨P, 0, none⟩ = some (.pointer (some ⟨d, 0, none⟩)) ∧ W'.cell? ⟨w.heap.size, 0, none⟩ = some (.int .i64 stop)) (by kernel_rfl) (by rfl) ⟨cn, ch, cs, ct⟩ ?_
        intro wd ewd
        subst ewd
        (refine AnyGo.take 0 (some 58) ?_ (a' := ?_) rfl (by kernel_rfl) (fun _ _ d _ _ h => by cases d <;> exact h) (by kernel_rfl) (by rfl) (by kernel_rfl) ?_ ?_ ?_; rotate_left 2; (focus (intro W hW; (try dsimp only at hW); go_simp; (try with_reducible rfl))); (focus (simp only [Act.put, List.setIfInBounds_toArray]; rfl)))
        (refine AnyGo.take 1 (some 59) ?_ (a' := ?_) rfl (by kernel_rfl) (fun _ _ d _ _ h => by cases d <;> exact h) (by kernel_rfl) (by rfl) (by kernel_rfl) ?_ ?_ ?_; rotate_left 2; (focus (intro W hW; (try dsimp only at hW); go_simp; (try with_reducible rfl))); (focus (simp only [Act.put, List.setIfInBounds_toArray]; rfl)))
        (refine AnyGo.take 2 (some 60) ?_ (a' := ?_) rfl (by kernel_rfl) (fun _ _ d _ _ h => by cases d <;> exact h) (by kernel_rfl) (by rfl) (by kernel_rfl) ?_ ?_ ?_; rotate_left 2; (focus (intro W hW; (try dsimp only at hW); go_simp; (try with_reducible rfl))); (focus (simp only [Act.put, List.setIfInBounds_toArray]; rfl)))
        (refine AnyGo.take 3 (some 61) ?_ (a' := ?_) rfl (by kernel_rfl) (fun _ _ d _ _ h => by cases d <;> exact h) (by kernel_rfl) (by rfl) (by kernel_rfl) ?_ ?_ ?_; rotate_left 2; (focus (intro W hW; (try dsimp only at hW); go_simp; (try with_reducible rfl))); (focus (simp only [Act.put, List.setIfInBounds_toArray]; rfl)))
        (refine AnyGo.take 4 (some 62) ?_ (a' := ?_) rfl (by kernel_rfl) (fun _ _ d _ _ h => by cases d <;> exact h) (by kernel_rfl) (by rfl) (by kernel_rfl) ?_ ?_ ?_; rotate_left 2; (focus (intro W hW; (try dsimp only at hW); go_simp; (try with_reducible rfl))); (focus (simp only [Act.put, List.setIfInBounds_toArray]; rfl)))
        (refine AnyGo.take 5 (some 63) ?_ (a' := ?_) rfl (by kernel_rfl) (fun _ _ d _ _ h => by cases d <;> exact h) (by kernel_rfl) (by rfl) (by kernel_rfl) ?_ ?_ ?_; rotate_left 2; (focus (intro W hW; (try dsimp only at hW); go_simp; (try with_reducible rfl))); (focus (simp only [Act.put, List.setIfInBounds_toArray]; rfl)))
        (refine AnyGo.take 6 (some 64) ?_ (a' := ?_) rfl (by kernel_rfl) (fun _ _ d _ _ h => by cases d <;> exact h) (by kernel_rfl) (by rfl) (by kernel_rfl) ?_ ?_ ?_; rotate_left 2; (focus (intro W hW; (try dsimp only at hW); go_simp; (try with_reducible rfl))); (focus (simp only [Act.put, List.setIfInBounds_toArray]; rfl)))
        (refine AnyGo.take 7 (some 65) ?_ (a' := ?_) rfl (by kernel_rfl) (fun _ _ d _ _ h => by cases d <;> exact h) (by kernel_rfl) (by rfl) (by kernel_rfl) ?_ ?_ ?_; rotate_left 2; (focus (intro W hW; (try dsimp only at hW); go_simp; (try with_reducible rfl))); (focus (simp only [Act.put, List.setIfInBounds_toArray]; rfl)))
        (refine AnyGo.take 8 (some 66) ?_ (a' := ?_) rfl (by kernel_rfl) (fun _ _ d _ _ h => by cases d <;> exact h) (by kernel_rfl) (by rfl) (by kernel_rfl) ?_ ?_ ?_; rotate_left 2; (focus (intro W hW; (try dsimp only at hW); go_simp; (try with_reducible rfl))); (focus (simp only [Act.put, List.setIfInBounds_toArray]; rfl)))
        (refine AnyGo.take 9 (some 67) ?_ (a' := ?_) rfl (by kernel_rfl) (fun _ _ d _ _ h => by cases d <;> exact h) (by kernel_rfl) (by rfl) (by kernel_rfl) ?_ ?_ ?_; rotate_left 2; (focus (intro W hW; (try dsimp only at hW); go_simp; (try with_reducible rfl))); (focus (simp only [Act.put, List.setIfInBounds_toArray]; rfl)))
        (refine AnyGo.take 10 (some 68) ?_ (a' := ?_) rfl (by kernel_rfl) (fun _ _ d _ _ h => by cases d <;> exact h) (by kernel_rfl) (by rfl) (by kernel_rfl) ?_ ?_ ?_; rotate_left 2; (focus (intro W hW; (try dsimp only at hW); go_simp; (try with_reducible rfl))); (focus (simp only [Act.put, List.setIfInBounds_toArray]; rfl)))
        (refine AnyGo.take 12 (some 70) ?_ (a' := ?_) rfl (by kernel_rfl) (fun _ _ d _ _ h => by cases d <;> exact h) (by kernel_rfl) (by rfl) (by kernel_rfl) ?_ ?_ ?_; rotate_left 2; (focus (intro W hW; (try dsimp only at hW); go_simp; (try with_reducible rfl))); (focus (simp only [Act.put, List.setIfInBounds_toArray]; rfl)))
        (refine AnyGo.take 13 (some 71) ?_ (a' := ?_) rfl (by kernel_rfl) (fun _ _ d _ _ h => by cases d <;> exact h) (by kernel_rfl) (by rfl) (by kernel_rfl) ?_ ?_ ?_; rotate_left 2; (focus (intro W hW; (try dsimp only at hW); go_simp; (try with_reducible rfl))); (focus (simp only [Act.put, List.setIfInBounds_toArray]; rfl)))
        (refine AnyGo.take 14 (some 72) ?_ (a' := ?_) rfl (by kernel_rfl) (fun _ _ d _ _ h => by cases d <;> exact h) (by kernel_rfl) (by rfl) (by kernel_rfl) ?_ ?_ ?_; rotate_left 2; (focus (intro W hW; (try dsimp only at hW); go_simp; (try with_reducible rfl))); (focus (simp only [Act.put, List.setIfInBounds_toArray]; rfl)))
        (refine AnyGo.take 15 (some 73) ?_ (a' := ?_) rfl (by kernel_rfl) (fun _ _ d _ _ h => by cases d <;> exact h) (by kernel_rfl) (by rfl) (by kernel_rfl) ?_ ?_ ?_; rotate_left 2; (focus (intro W hW; (try dsimp only at hW); go_simp; (try with_reducible rfl))); (focus (simp only [Act.put, List.setIfInBounds_toArray]; rfl)))
        refine AnyGo.one (i := 11) (by kernel_rfl) rfl (by kernel_rfl) (fun K' hK' => ?_)
        go_simp
        refine HLEN.out.mono ?_
        rintro e w' ⟨rfl, rfl⟩
        refine hK'.out _ _ ⟨cn, ch, cs, ct⟩ ?_
        clear hK' K'
        (try simp only [Act.put, List.setIfInBounds_toArray])
        (refine AnyGo.take 16 (some 74) ?_ (a' := ?_) rfl (by kernel_rfl) (fun _ _ d _ _ h => by cases d <;> exact h) (by kernel_rfl) (by rfl) (by kernel_rfl) ?_ ?_ ?_; rotate_left 2; (focus (intro W hW; (try dsimp only at hW); go_simp; (try with_reducible rfl))); (focus (simp only [Act.put, List.setIfInBounds_toArray]; rfl)))
        (refine AnyGo.take 17 (some 75) ?_ (a' := ?_) rfl (by kernel_rfl) (fun _ _ d _ _ h => by cases d <;> exact h) (by kernel_rfl) (by rfl) (by kernel_rfl) ?_ ?_ ?_; rotate_left 2; (focus (intro W hW; (try dsimp only at hW); go_simp; (try with_reducible rfl))); (focus (simp only [Act.put, List.setIfInBounds_toArray]; rfl)))
        (refine AnyGo.take 18 (some 76) ?_ (a' := ?_) rfl (by kernel_rfl) (fun _ _ d _ _ h => by cases d <;> exact h) (by kernel_rfl) (by rfl) (by kernel_rfl) ?_ ?_ ?_; rotate_left 2; (focus (intro W hW; (try dsimp only at hW); go_simp; (try with_reducible rfl))); (focus (simp only [Act.put, List.setIfInBounds_toArray]; rfl)))
        refine AnyGo.one (i := 19) (by kernel_rfl) rfl (by kernel_rfl) (fun K' hK' => ?_)
        go_simp
        refine (live_any _).mono ?_
        rintro e w9 ⟨rfl, hb⟩
        have HB9 := keep (HBW.out.drew.trans (hb.mono HBW.out.drew.size))
        have hr9 : Boxed w9 (w.heap.size + 1) 4 (.bool false) := (hb.block _ HBX.out.r.lt).trans HBX.out.r
        have HR9 := keep hr9
        have cr := hr9.cell
        have fr := hr9.frozen
        have HDK9 : Keep (w9.heap[D]? = some (.deferred (some []))) := ⟨(hb.block D (Array.getElem?_eq_some_iff.1 HDK.out).1).trans HDK.out⟩
        have cn9 : w9.cell? ⟨P + 1 + 1 + 1, 0, none⟩ = some (.int .i64 (q : Int)) := (hb.cell (p := ⟨P + 1 + 1 + 1, 0, none⟩) HNL.out).trans cn
        have ch9 : w9.cell? ⟨P + 1, 0, none⟩ = some (.slice o N c) := (hb.cell (p := ⟨P + 1, 0, none⟩) HBX.out.h.lt).trans ch
        have cs9 : w9.cell? ⟨P, 0, none⟩ = some (.pointer (some ⟨d, 0, none⟩)) := (hb.cell (p := ⟨P, 0, none⟩) HBX.out.s.lt).trans cs
        have ct9 : w9.cell? ⟨w.heap.size, 0, none⟩ = some (.int .i64 stop) := (hb.cell (p := ⟨w.heap.size, 0, none⟩) HBX.out.t.lt).trans ct
        refine hK'.out _ _ ⟨cn9, ch9, cs9, ct9⟩ ?_
        clear hK' K' hb hr9 cn ch cs ct
        (try simp only [Act.put, List.setIfInBounds_toArray])
        (refine AnyGo.take 20 (some 78) ?_ (a' := ?_) rfl (by kernel_rfl) (fun _ _ d _ _ h => by cases d <;> exact h) (by kernel_rfl) (by rfl) (by kernel_rfl) ?_ ?_ ?_; rotate_left 2; (focus (intro W hW; (try dsimp only at hW); go_simp; (try with_reducible rfl))); (focus (simp only [Act.put, List.setIfInBounds_toArray]; rfl)))
        refine AnyGo.one (i := 21) (by kernel_rfl) rfl (by kernel_rfl) (fun K' hK' => ?_)
        go_simp
        have hne : ∀ k, k ≠ w.heap.size + 1 → ∀ v, w9.cell? ⟨k, 0, none⟩ = some v → (w9.setCell ⟨w.heap.size + 1, 0, none⟩ (.bool true)).cell? ⟨k, 0, none⟩ = some v := fun k hk v h => (World.cell?_setCell_other w9 _ _ _ (by intro c; injection c with c _; exact hk c.symm)).trans h
        refine hK'.out _ _ ⟨hne _ (by have := HRL.out; omega) _ cn9, hne _ (by have := HRL.out; omega) _ ch9, hne _ (by have := HRL.out; omega) _ cs9, hne _ (by omega) _ ct9⟩ ?_
        clear hK' K'
        refine AnyGo.fin (by kernel_rfl) ?_
        (try simp only [List.set_cons_succ, List.set_cons_zero])
        refine calm_normal ?_
        gi_wp2
        obtain ⟨hK1, hc5, hB5⟩ := lawEnd HB9.out HR9.out HDK9.out (by omega) (by have := HRL.out; omega) true
        refine ⟨by simp, .inl ⟨_, _, rfl, run_takeDeferred hK1, ?_⟩⟩
        refine ⟨.bool true, ?_, rfl, hB5⟩
        simp [results, Try.f4, go_sem, hc5]
theorem own : ownKnob Try.prog.godebug = none := by kernel_rfl
theorem laid : laidOutB Try.prog = true := by kernel_rfl

set_option maxRecDepth 100000 in
theorem lifted (os : Os) (started : os.Started) (H : Type) (enc : TypeId × Value → H) :
    ReturnsInHanded {} Try.checked os 4 .any (Rows.setGoesSpec.pre6 enc Try.prog Try.f4 Rows.setGoesRow.domain false) (Rows.setGoesSpec.post enc Try.prog Try.f4 false true false false) := by
  refine returnsInHanded_of_change (C := Try.checked) own started (by kernel_rfl) Try.func4
    (ChangeSpec.witness6 (enc := enc) (C := Try.checked) false ⟨#[], #[.slice none 0 0, .int .i64 0], []⟩ 8 (by kernel_rfl) (by kernel_rfl) (by kernel_rfl) (by kernel_rfl)) ?_
  intro W base args ds gs before hval0 hW hcnd _
  have hval : ∀ (j : Nat) t v, Try.f4.params[j]? = some t → args[j]? = some v → Value.okWide Try.prog W .any base t v := hval0
  have hW' := hW
  obtain ⟨p, q, hA0, hV, rfl, hfz, hnd⟩ := hW
  have hA : DataW.TrodAll enc Try.prog W 0 (fun _ => true) true Try.f4.params.toList args.toList ds p := hA0
  rw [Try.params4] at hA hval
  obtain ⟨v0, vs0, d0, ds0, p0, q0, hargs, rfl, rfl, h0, r0⟩ := trodAll_cons hA
  obtain ⟨v1, vs1, d1, ds1, p1, q1, rfl, rfl, rfl, h1, r1⟩ := trodAll_cons r0
  obtain ⟨rfl, rfl, rfl⟩ := trodAll_nil r1
  obtain rfl : args = #[v0, v1] := by cases args; simp_all
  obtain ⟨rfl, rfl⟩ := trodVars_none hV
  obtain ⟨a0, w0⟩ := ints_of (enc := enc) h0 (hval 0 22 v0 rfl rfl)
  obtain ⟨a1, rfl, rfl, rfl, w1⟩ := open_int Try.underlying3 (hval 1 3 v1 rfl rfl) h1
  clear hA0 hval0
  simp only [List.append_nil] at hW'
  have hlt0 : ∀ x ∈ p0, x.block < W.heap.size := fun x hx => by
    have := hW'.lt x (by simp [hx])
    simpa using this
  refine (walk v0 a0 a1 W w0 w1).mono fun e W' ⟨he, hg⟩ => ?_
  subst he
  exact ⟨_, rfl, _, _, _, [], _, [], hW', (trodAll_cons_mk (shut_bool Try.underlying4 _) trodAll_mk0), (trodAll_cons_mk (Below.trod laid (by kernel_rfl) (of_decide_eq_true (by kernel_rfl)) h0 hg hlt0) (trodAll_cons_mk (shut_int Try.underlying3 w1) trodAll_mk0)), rfl, hg.frame _, fun h => by cases h⟩

theorem over : Rows.setGoesRow.holds Try.pinned (OpenSpec.ofChange Rows.setGoesSpec) :=
  OpenClaim.holds_of_wide 4 Try.f4 rfl rfl rfl rfl rfl rfl rfl ⟨rfl, rfl, rfl, rfl, rfl⟩ rfl rfl rfl rfl rfl (by kernel_rfl) Try.func4 (by kernel_rfl)
    (of_decide_eq_true (by kernel_rfl)) (by unfold Func.isWrapper; first | (rw [if_pos (by decide +kernel)]; kernel_rfl) | (rw [if_neg (by decide +kernel)]; exact ⟨rfl, rfl⟩))
    (fun os started H enc _ => lifted os started H enc)

/-- The statement. -/
theorem proved : Rows.SetGoesSaid :=
  over
#print axioms proved
end Go.Proofs.Ytjfgnmkgljljbaa.setGoes
