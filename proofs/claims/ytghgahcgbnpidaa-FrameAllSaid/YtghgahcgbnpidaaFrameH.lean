/-
  The frames of bytes: the program's All, a range over Each's function.
-/
import Derived.Test.YtghgahcgbnpidaaFrameG
import Derived.Test.YtghgahcgbnpidaaFrameF
import Derived.RangeFuncBox
import Derived.RegionIn
namespace Go.Proofs.Ytghgahcgbnpidaa
open Go.RowKit Go.Shelf Go.Joins
attribute [local go_sem] Oper.semAt_some

theorem runs_small {s : ByteArray} (hs : s.size ≤ 100000) : ∀ {a : Nat} {xs : List (Nat × Fr)} {e : Nat}, runs s a xs e → a ≤ s.size → ∀ x ∈ xs, x.1 ≤ 100000 ∧ x.2.S.size ≤ 100000
  | a, [], e, _, _ => fun x hx => by cases hx
  | a, y :: r, e, ⟨h1, n, h2, h3⟩, ha => fun x hx => by
    obtain ⟨_, k1, k2, _⟩ := nx_ok ha h2
    have hb := ln_bd y.2
    rcases List.mem_cons.1 hx with rfl | hx
    · omega
    · exact runs_small hs h3 k2 x hx
theorem pf_of : ∀ (xs : List (Nat × Fr)), (∀ x ∈ xs, x.1 ≤ 100000 ∧ x.2.S.size ≤ 100000) → ∃ ys : List Pf, ys.map (·.1) = xs
  | [], _ => ⟨[], rfl⟩
  | x :: r, h => by
    obtain ⟨ys, hy⟩ := pf_of r (fun y hy => h y (by simp [hy]))
    exact ⟨⟨x, h x (by simp)⟩ :: ys, by simp [hy]⟩

theorem each_stops (n : Nat) (hn1 : 1 ≤ n) (Bs : Nat) (s : ByteArray) (ys : List Pf) (e : Nat) (hs : s.size ≤ 100000) (hW : Whole s (ys.map (·.1)) e) (w : World) (hB : w.heap[Bs]? = some (.cells #[.string s] 9 (0, 0))) :
    SeqStopsK Fence.wide n Try.prog 31 #[.pointer (some ⟨Bs, 0, none⟩)] encP (KpB Bs) (fun zs => zs = ys) (fun pre => pre <+: ys) ys.length w := fun l J Jx W hW' hJ _ hY h0 =>
  each1_in n hn1 l Bs s ys e hs hW J Jx W hJ hY ((hW'.block Bs (Array.getElem?_eq_some_iff.1 hB).1).trans hB) h0

/-- The place behind the last one. -/
def endP : List Pf → Nat
  | [] => 0
  | [x] => x.1.1 + ln x.1.2
  | _ :: y :: r => endP (y :: r)
theorem endP_snoc (pre : List Pf) (x : Pf) : endP (pre ++ [x]) = x.1.1 + ln x.1.2 := by
  induction pre with
  | nil => rfl
  | cons y r ih =>
    cases r with
    | nil => rfl
    | cons z r => exact ih
theorem endP_runs {s : ByteArray} (pre : List Pf) {e : Nat} (h : runs s 0 (pre.map (·.1)) e) : endP pre = e := by
  rcases List.eq_nil_or_concat pre with rfl | ⟨q, x, rfl⟩
  · exact h
  · rw [List.concat_eq_append] at h ⊢
    rw [List.map_append] at h
    obtain ⟨m, h1, h2⟩ := runs_split h
    rw [endP_snoc]
    obtain ⟨h3, n, h4, h5⟩ := h2
    obtain rfl : n = e := h5
    have hm := runs_le h1 (Nat.zero_le _)
    obtain ⟨_, k, _, _⟩ := nx_ok hm.2.1 h4
    rw [k, ← h3]

/-- The frames, the place behind them and the error are answered. -/
def AllGo (xs : List (Nat × Fr)) (e er : Nat) (w : World) (en : Ending) (w' : World) : Prop :=
  ∃ v, en = .returned (.tuple #[v, .int .i64 e, .int .i64 er]) ∧ FrRow w'.heap.size w' v (xs.map (·.2)) ∧ Below w.heap.size w w'

/-- Between two rounds of All. -/
def AllI (w : World) (s : ByteArray) (pre : List Pf) (W : World) : Prop :=
  (∃ v, Boxed W w.heap.size 38 v ∧ W.ownsRow w.heap.size 23 2 v pre.length (fcs (pre.map (·.1.2))) ∧ True) ∧ (Boxed W (w.heap.size + 1) 3 (.int .i64 (endP pre)) ∧ (Boxed W (w.heap.size + 2) 9 (.string s) ∧ Below w.heap.size w W))
theorem AllI.own (w w3 : World) (s : ByteArray) (hw : w.heap.size ≤ w3.heap.size) : OwnFrom w3.heap.size (AllI w s) :=
  OwnFrom.and (Own.from (holdsRow_own w.heap.size w.heap.size 38 23 2 (fun pre : List Pf => pre.length) (fun pre => fcs (pre.map (·.1.2))) (fun _ _ => True)) _)
    (OwnFrom.and (Own.from (boxed_own _ _ _) _) (OwnFrom.and (Own.from (boxed_own _ _ (fun _ => Value.string s)) _) (ownFrom_below (Nat.le_refl _) hw)))

/-- The activation behind the assignment to the round's variables. -/
def actA (s : ByteArray) (B : Nat) (p : Nat) (K : Int) (S : ByteArray) (Bx : Nat) : Act := { tmps := #[.string s, undef, .slice none 0 0, .int .i64 0, .int .i64 0, .pointer (some ⟨B, 0, none⟩), .pointer (some ⟨B + 1, 0, none⟩), .int .i64 (p : Int), .pointer (some ⟨Bx, 0, none⟩), undef, undef, undef, .string s, .func (.func 31) #[] #[.pointer (some ⟨B + 1 + 1, 0, none⟩)], .int .i64 (p : Int), .agg #[.int .i64 K, .string S], undef, undef, undef, undef, undef, undef, undef, undef, undef, undef, undef, undef, undef, undef, undef, undef, undef, undef, undef, undef, undef, undef, undef, undef], defers := [] }
/-- Behind the assignment to the round's variables. -/
def AllA (w : World) (s : ByteArray) (x : Pf) (a' : Act) (W : World) : Prop :=
  ∃ Bx v, w.heap.size + 2 < Bx ∧ Boxed W w.heap.size 38 v ∧ some Bx ≠ v.ownBlock ∧ W.heap[Bx]? = some (.cells #[.int .i64 x.1.2.K, .string x.1.2.S] 23 (0, 0)) ∧ a' = actA s w.heap.size x.1.1 x.1.2.K x.1.2.S Bx

theorem AllA.own (w w3 : World) (s : ByteArray) (x : Pf) (a' : Act) : OwnFrom w3.heap.size (fun (_ : Unit) W => AllA w s x a' W) := by
  rintro _ X Y row ⟨Bx, v, h1, h2, h3, h4, h5⟩ hg hr
  refine ⟨Bx, v, h1, h2.kept hg (fun e' => ?_), h3, ?_, h5⟩
  · obtain ⟨_, o, ho, hc⟩ := hr _ e'.symm
    rw [show X.heap[w.heap.size]? = _ from h2] at ho; cases ho; cases hc
  · refine (hg.block Bx (Array.getElem?_eq_some_iff.1 h4).1 (fun e' => ?_)).trans h4
    obtain ⟨_, o, ho, hc⟩ := hr _ e'.symm
    rw [h4] at ho; cases ho; cases hc

set_option maxRecDepth 100000 in
set_option maxHeartbeats 4000000 in
theorem all_any (s : ByteArray) (xs : List (Nat × Fr)) (e : Nat) (w : World) (hs : s.size ≤ 100000) (h : Whole s xs e) : Calls Try.prog 14 #[.string s] w (AllGo xs e (lastE s e) w) := by
  obtain ⟨ys, rfl⟩ := pf_of xs (runs_small hs h.run (Nat.zero_le _))
  have HW := keep h
  have HS := keep hs
  have hsI : (s.size : Int) ≤ 100000 := by omega
  obtain ⟨i0, hi, hz0, hz1, hz2⟩ := info_parts infoFr
  have HI := keep hi
  have HZ0 := keep hz0
  have HZ1 := keep hz1
  have HZ2 := keep hz2
  clear h hs hi hz0 hz1 hz2
  refine (callsIn_wide (n := 4)).1 ?_
  refine callsIn_of_wp_marks Try.func14 rfl trivial ?_ rfl
  simp only [Try.ntmps14, List.size_toArray, List.length_cons, List.length_nil, Nat.reduceAdd, Nat.reduceSub, Array.replicate_succ, Array.replicate_zero, List.push_toArray, List.append_toArray, List.nil_append, List.cons_append]
  gi_wp2_with (refine ⟨trivial, ?_⟩; gi_at_call 18; refine (callsIn_wide.2 (each_any _ _)).mono ?_; rintro e w' ⟨rfl, rfl⟩)
  have b0 := Boxed.new w 38 (.slice none 0 0)
  have b1 := Boxed.new (w.alloc (.cells #[.slice none 0 0] 38)) 3 (.int .i64 0)
  have b2 := Boxed.new ((w.alloc (.cells #[.slice none 0 0] 38)).alloc (.cells #[.int .i64 0] 3)) 9 (.string s)
  simp only [World.size_alloc] at b1 b2
  have HB0 : Keep (Below w.heap.size w (((w.alloc (.cells #[.slice none 0 0] 38)).alloc (.cells #[.int .i64 0] 3)).alloc (.cells #[.string s] 9))) := ⟨(((Below.refl _ w).alloc (Nat.le_refl _) _).alloc (by simp) _).alloc (by simp; omega) _⟩
  have HI0 : Keep (AllI w s [] (((w.alloc (.cells #[.slice none 0 0] 38)).alloc (.cells #[.int .i64 0] 3)).alloc (.cells #[.string s] 9))) := ⟨⟨⟨_, (b0.alloc _).alloc _, World.ownsRow_nil _ _ _ _, trivial⟩, b1.alloc _, b2, HB0.out⟩⟩
  have HSZ : Keep ((((w.alloc (.cells #[.slice none 0 0] 38)).alloc (.cells #[.int .i64 0] 3)).alloc (.cells #[.string s] 9)).heap.size = w.heap.size + 3) := ⟨by simp⟩
  have HST := keep (each_stops 3 (by omega) (w.heap.size + 2) s ys e HS.out HW.out _ b2)
  clear b0 b1 b2
  generalize (((w.alloc (.cells #[.slice none 0 0] 38)).alloc (.cells #[.int .i64 0] 3)).alloc (.cells #[.string s] 9)) = w3 at *
  refine wpIn_rangeFunc_ownH (n := 4) rfl (by omega) (gf := 31) (lb := #[.pointer (some ⟨w.heap.size + 2, 0, none⟩)]) rfl trivial (enters_of Try.func31 (by kernel_rfl) rfl)
    HST.out (fun h1 h2 => Eq.trans h2 h1) (fun W l o o' h1 _ _ _ => World.putObj_heap_other (by have := HSZ.out; omega)) (Below.refl _ _) (fun _ => rfl)
    (AllI w s) (fun _ _ _ => False) (AllI.own w w3 s (by rw [HSZ.out]; omega)) (fun _ _ _ _ _ hs _ _ => hs) HI0.out (AllA w s) (fun x a' => AllA.own w w3 s x a') ?assign ?body ?done ?stop
  case assign =>
    rintro l pre x W K hi hK
    dsimp only [encP]
    gi_wp2
    have hlt : w.heap.size + 2 < W.heap.size := hi.2.2.1.lt
    obtain ⟨⟨v, hv, hrow, _⟩, he, hs2, hB⟩ := hi
    have hI : AllI w s pre (W.alloc (.cells #[.int .i64 x.1.2.K, .string x.1.2.S] 23)) := ⟨⟨v, hv.alloc _, hrow.alloc _, trivial⟩, he.alloc _, hs2.alloc _, hB.alloc hB.size _⟩
    have hA : AllA w s x (actA s w.heap.size x.1.1 x.1.2.K x.1.2.S W.heap.size) (W.alloc (.cells #[.int .i64 x.1.2.K, .string x.1.2.S] 23)) := by
      refine ⟨W.heap.size, v, hlt, hv.alloc _, ?_, World.alloc_heap_new W _, rfl⟩
      intro h
      have := hrow.lt _ h.symm
      omega
    exact hK (actA s w.heap.size x.1.1 x.1.2.K x.1.2.S W.heap.size) _ ((KeepsOthers.alloc _ _).from _) (Below.heap_alloc W _ _ hlt) hI hA
  case body =>
    rintro l pre x a' W hl ⟨r, hr⟩ ⟨⟨v, hv, hrow, _⟩, he, hs2, hB⟩ ⟨Bx, v', hBx, hv', hne, hx, rfl⟩ hlt
    obtain rfl : v = v' := by
      have := hv.symm.trans hv'
      simp at this
      exact this
    have hp := x.2.1
    have hf := x.2.2
    have HEND := keep (endP_snoc pre x)
    have HFC : Keep (fcs ((pre ++ [x]).map (·.1.2)) = fcs (pre.map (·.1.2)) ++ [.int .i64 x.1.2.K, .string x.1.2.S]) := ⟨by rw [List.map_append, fcs_append]; rfl⟩
    have HLEN0 := fun W => length_any x.1.2 W hf
    have hlb := ln_bd x.1.2
    unfold Fr.agg at HLEN0
    unfold actA
    generalize ln x.1.2 = L at *
    generalize x.1.1 = p at *
    generalize x.1.2.K = K at *
    generalize x.1.2.S = S at *
    have HLEN := keep HLEN0
    have hc := hv.cell
    have hx0 : W.cell? ⟨Bx, 0, none⟩ = some (.int .i64 K) := by rw [cell_of_row W Bx 0 _ _ _ hx]; rfl
    have hx1 : W.cell? ⟨Bx, 1, none⟩ = some (.string S) := by rw [cell_of_row W Bx 1 _ _ _ hx]; rfl
    have hn1 : ¬ w.heap.size = Bx := by omega
    have hn2 : ¬ Bx = w.heap.size := by omega
    have HBX := keep hBx
    have HV := keep hv
    have HROW := keep hrow
    have HE := keep he
    have HS2 := keep hs2
    have HB := keep hB
    have HNE := keep hne
    have HX := keep hx
    have hpI : (p : Int) ≤ 100000 := by omega
    have hpl : pre.length ≤ 100000 := by
      have h1 := runs_le HW.out.run (Nat.zero_le _)
      rw [List.length_map] at h1
      have := HS.out
      omega
    have HPL := keep hpl
    have hLI : (L : Int) ≤ 100016 := by omega
    have HC1 : Keep (∀ j u, ([.int .i64 K, .string S] : List Value)[j]? = some u → (W.alloc (.cells #[.int .i64 K, .string S] 23)).cell? ((⟨W.heap.size, 0, none⟩ : Addr).add j) = some u) := ⟨fun j u hj => by
      have := (BoxL.new W [.int .i64 K, .string S] 23).row j u hj
      rw [show (⟨W.heap.size, 0, none⟩ : Addr).add j = ⟨W.heap.size, j, none⟩ by rw [Addr.add_mid, Nat.zero_add]]
      exact this⟩
    have HBS : Keep (w.heap.size ≤ (W.alloc (.cells #[.int .i64 K, .string S] 23)).heap.size) := ⟨by have := hB.size; simp; omega⟩
    clear hv hv' hrow he hs2 hB hne hx hp hBx hl hr hlb hf hpl hlt HLEN0
    have HFRM : Keep (∀ (w1 : World), ((W.alloc (.cells #[.int .i64 K, .string S] 23)).grownBy w1 v.ownBlock) → w1.heap[Bx]? = some (.cells #[.int .i64 K, .string S] 23 (0, 0)) ∧ w1.cell? ⟨Bx, 0, none⟩ = some (.int .i64 K) ∧ w1.cell? ⟨Bx, 1, none⟩ = some (.string S)) := ⟨fun w1 hg => by
      have hlt := (Array.getElem?_eq_some_iff.1 HX.out).1
      have h1 : w1.heap[Bx]? = some (.cells #[.int .i64 K, .string S] 23 (0, 0)) := (hg.block Bx (by simp; omega) HNE.out).trans ((Below.heap_alloc W _ Bx hlt).trans HX.out)
      exact ⟨h1, by rw [cell_of_row w1 Bx 0 _ _ _ h1]; rfl, by rw [cell_of_row w1 Bx 1 _ _ _ h1]; rfl⟩⟩
    have HBX1 : Keep (∀ w1 : World, ((W.alloc (.cells #[.int .i64 K, .string S] 23)).grownBy w1 v.ownBlock) → Boxed w1 (w.heap.size + 1) 3 (.int .i64 (endP pre)) ∧ Boxed w1 (w.heap.size + 2) 9 (.string s)) := ⟨fun w1 hg => ⟨(HE.out.alloc _).kept hg (HE.out.not_row (by decide) HROW.out), (HS2.out.alloc _).kept hg (HS2.out.not_row (by decide) HROW.out)⟩⟩
    gi_wp2_with (first
      | (gi_at_builtin; refine wpListIn_append_own _ rfl _ _ 38 rfl w.heap.size 23 i0 (.agg #[.int .i64 0, .string ⟨#[]⟩]) 2 24 Try.underlying38 HI.out HZ0.out HZ1.out HZ2.out rfl (by decide) _ _ _ rfl (HROW.out.alloc _) ⟨W.heap.size, 0, none⟩ 1 1 [.int .i64 K, .string S] rfl rfl HC1.out (by intro u hu; simp at hu; rcases hu with rfl | rfl <;> rfl) (by have := HPL.out; unfold maxLen; omega) (by have := HPL.out; omega) HBS.out ?_; intro v' w1 hown' hgrow _; obtain ⟨g', cap', rfl⟩ := ownsRow_succ hown'; have HAPP := keep (HV.out.appended (by decide) HROW.out HB.out.size (Nat.le_refl _) hown' hgrow); have hc1 := HAPP.out.1.cell; have hf1 := HAPP.out.1.frozen; obtain ⟨hq, hq0, hq1⟩ := HFRM.out w1 hgrow; have HB12 := keep (HBX1.out w1 hgrow); clear hown' hgrow hq)
      | (refine ⟨trivial, ?_⟩; gi_at_call 30; refine (CallsIn.inRound l (callsIn_wide.2 (HLEN.out _))).mono ?_; rintro e w2 ⟨rfl, hb⟩; have HE2 := keep ((HB12.out.1.other (by omega) _).kept (grown_of_below hb) (by simp)); have HS22 := keep ((HB12.out.2.other (by omega) _).kept (grown_of_below hb) (by simp)); have HV2 := keep (HAPP.out.2.1.kept (grown_of_below hb) (by simp)); have HR2 := keep (own_kept HAPP.out.2.2.1 hb); have HK2 := keep (HAPP.out.2.2.2.1.trans (KeepsOthers.of_grownBy (grown_of_below hb) (fun j o e => by cases e))); have HB2 := keep (HAPP.out.2.2.2.2.trans (hb.mono (Nat.le_trans HB.out.size HAPP.out.2.2.2.2.size))); have he1 := HE2.out.cell; have hef := HE2.out.frozen; clear hb))
    refine ⟨(HK2.out.trans (KeepsOthers.setCell _ _ _)).from _, ?_, ⟨⟨_, HV2.out.other (by omega) _, ?_, trivial⟩, ?_, HS22.out.other (by omega) _, (HB.out.trans HB2.out).setCell (p := ⟨w.heap.size + 1, 0, none⟩) (by show w.heap.size ≤ w.heap.size + 1; omega) _⟩⟩
    · exact (HS22.out.other (B' := w.heap.size + 1) (by omega) _).trans HS2.out.symm
    · have := HR2.out.kept (grownBy_setCell' _ (w.heap.size + 1) (.int .i64 ((p : Int) + L))) (.inr (HE2.out.not_row (by decide) HR2.out).symm)
      rw [HFC.out, List.length_append]
      exact this
    · rw [HEND.out]
      have := HE2.out.set (.int .i64 ((p : Int) + L))
      exact this
  case done =>
    rintro D zs W hD rfl ⟨⟨v, hv, hrow, _⟩, he, hs2, hB⟩ hK
    have HE0 : Keep (endP zs = e) := ⟨endP_runs zs HW.out.run⟩
    rw [HE0.out] at he
    have hle := HW.out.le
    have hc0 := hv.cell
    have hc1 := he.cell
    have HBIG : Keep (∀ f ∈ (zs.map (·.1)).map (·.2), f.S.size ≤ 9223372036854775807) := ⟨fun f hf => by
      have := (runs_zp HW.out.run (Nat.zero_le _)).2.2.2 f hf
      have := this.2.2
      omega⟩
    have HROW : Keep (W.ownsRow w.heap.size 23 2 v ((zs.map (·.1)).map (·.2)).length (fcs ((zs.map (·.1)).map (·.2)))) := ⟨by
      rw [List.map_map, List.length_map]; exact hrow⟩
    have HK := keep hK
    have HB := keep hB
    have HD : Keep (w.heap.size + 3 ≤ D) := ⟨by have := HSZ.out; omega⟩
    by_cases hend : e = s.size
    · have HL : Keep (lastE s e = 0) := ⟨by unfold lastE; rw [if_pos hend]⟩
      have hq : ((e : Int) == (s.size : Int)) = true := by simp [hend]
      have HEND := keep hend
      clear hend hle hv he hs2 hB hrow hK hD
      gi_wp2
      gi_region
      all_goals
        gi_wp2
        have HKD : Keep (W.drew.heap[D]? = some (.deferred (some []))) := ⟨HK.out⟩
        refine ⟨by simp, .inl ⟨_, _, rfl, run_takeDeferred HKD.out, ?_⟩⟩
        refine ⟨.tuple #[v, .int .i64 e, .int .i64 0], ?_, v, by rw [HL.out]; rfl, FrRow.of_own (ownsRow_putObj (World.ownsRow.drew HROW.out) _ HKD.out rfl) HBIG.out, (HB.out.drew).trans (belowK_b (w := w) (Nat.le_refl _) W.drew D _ _ (by have := HD.out; omega) HKD.out rfl rfl)⟩
        simp [results, Try.f14, go_sem]
    · have HL : Keep (lastE s e = (nx s e).2.2) := ⟨by unfold lastE; rw [if_neg hend]⟩
      have hq : ((e : Int) == (s.size : Int)) = false := by simp; omega
      have HN0 := fun W => fnext_any s (e : Int) W HS.out
      rw [nxI_in hle] at HN0
      generalize nx s e = N at *
      obtain ⟨⟨K, S⟩, m, er⟩ := N
      unfold nxT Fr.agg at HN0
      simp only at HN0 HL
      have HN := keep HN0
      have HV := keep hv
      have HE := keep he
      clear hend hle hv he hs2 hB hrow hK hD HN0
      gi_wp2_with (refine ⟨trivial, ?_⟩; gi_at_call 12; refine (callsIn_wide.2 (HN.out _)).mono ?_; rintro e1 w1 ⟨rfl, hb⟩; have HB1 := keep hb; have hd0 := (HV.out.kept (grown_of_below hb) (by simp)).cell; have hd1 := (HE.out.kept (grown_of_below hb) (by simp)).cell; have hdl := (HE.out.kept (grown_of_below hb) (by simp)).lt; have hdl0 := (HV.out.kept (grown_of_below hb) (by simp)).lt; clear hb hc0 hc1)
      gi_region
      all_goals
        gi_wp2
        have hDl := (Array.getElem?_eq_some_iff.1 HK.out).1
        have h1 := (HB1.out.block D hDl).trans HK.out
        have HKD : Keep ((w1.alloc (.cells #[.int .i64 K, .string S] 23)).drew.heap[D]? = some (.deferred (some []))) := ⟨(Below.heap_alloc w1 _ D (Array.getElem?_eq_some_iff.1 h1).1).trans h1⟩
        have HBF : Keep (Below w.heap.size w (w1.alloc (.cells #[.int .i64 K, .string S] 23)).drew) := ⟨((HB.out.trans (HB1.out.mono HB.out.size)).alloc (Nat.le_trans HB.out.size HB1.out.size) _).drew⟩
        refine ⟨by simp, .inl ⟨_, _, rfl, run_takeDeferred HKD.out, ?_⟩⟩
        refine ⟨.tuple #[v, .int .i64 e, .int .i64 er], ?_, v, by rw [HL.out], FrRow.of_own (ownsRow_putObj (World.ownsRow.drew ((own_kept HROW.out HB1.out).alloc _)) _ HKD.out rfl) HBIG.out, HBF.out.trans (belowK_b (w := w) (Nat.le_refl _) _ D _ _ (by have := HD.out; omega) HKD.out rfl rfl)⟩
        simp [results, Try.f14, go_sem]
  case stop =>
    rintro D c pre W _ _ h _
    exact h.elim
end Go.Proofs.Ytghgahcgbnpidaa
