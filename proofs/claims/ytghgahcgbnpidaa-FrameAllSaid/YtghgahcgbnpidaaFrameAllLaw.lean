/-
  For every string and every int, retracelaw04.FrameAll answers true, and what it is given reads as before. No condition.
-/
import Derived.Test.YtghgahcgbnpidaaRows
import Derived.Test.YtghgahcgbnpidaaFrameQ
import Derived.Test.YtghgahcgbnpidaaAnyIn
import Derived.Test.YtghgahcgbnpidaaRangeBox
namespace Go.Proofs.Ytghgahcgbnpidaa.frameAll
open Go.ChangeShapes Go.WideShapes Go.ChangeAt Go.RowKit Go.Joins Go.Shelf
open Go.ChangeMaps (open_string shut_string)
attribute [local go_sem] Oper.semAt_some

set_option maxHeartbeats 1000000 in
theorem walk_long (s : ByteArray) (stop : Int) (w : World) (h : 3000 < s.size) :
    Calls Try.prog 5 #[.string s, .int .i64 stop] w fun e w' => e = .returned (.bool true) ∧ Below w.heap.size w w' := by
  have hI : (3000 : Int) < (s.size : Int) := by omega
  have hr00 := Boxed.new (w.alloc (.cells #[.int .i64 stop] 3)) 4 (.bool false)
  rw [World.size_alloc] at hr00
  have HR0 := keep hr00
  clear h hr00
  go_enter Try.func5, Try.ntmps5
  go_wp2_with fail
  refine (live_any _).mono ?_
  rintro e w1 ⟨rfl, hb⟩
  have HB1 := keep (((((Below.refl _ w).alloc (Nat.le_refl _) _).alloc (by simp) _)).trans (hb.mono (by simp; omega)))
  have hr := HR0.out.kept (grown_of_below hb) (by simp)
  have hr0 := hr.cell
  have hrf := hr.frozen
  have hrl := hr.lt
  have hs0 := (hr.set (.bool true)).cell
  clear hb hr
  go_wp2_with fail
  refine bodyPost_ret (v := .bool true) ?_ rfl ⟨rfl, HB1.out.setCell (p := ⟨w.heap.size + 1, 0, none⟩) (by show w.heap.size ≤ w.heap.size + 1; omega) _⟩
  simp [results, Try.results5, go_sem, hs0]

/-- What a round of the law's own loop leaves alone: all that was there but two variables. -/
structure Kept2 (A B : Nat) (w W : World) : Prop where
  os : W.os = w.os
  tape : W.tape = w.tape
  output : W.output = w.output
  size : w.heap.size ≤ W.heap.size
  block : ∀ k, k < w.heap.size → k ≠ A → k ≠ B → W.heap[k]? = w.heap[k]?
theorem Kept2.refl (A B : Nat) (w : World) : Kept2 A B w w := ⟨rfl, rfl, rfl, Nat.le_refl _, fun _ _ _ _ => rfl⟩
theorem Kept2.grown {A B : Nat} {w W W' : World} {row : Option Nat} (h : Kept2 A B w W) (hg : W.grownBy W' row) (hr : ∀ k, row = some k → w.heap.size ≤ k ∨ k = A ∨ k = B) : Kept2 A B w W' :=
  ⟨hg.os.trans h.os, hg.tape.trans h.tape, hg.output.trans h.output, Nat.le_trans h.size hg.size, fun k hk ha hb => by
    rw [hg.block k (Nat.lt_of_lt_of_le hk h.size) (fun e => by have := hr k e.symm; omega)]
    exact h.block k hk ha hb⟩
theorem Kept2.own (A B : Nat) (w : World) {β : Type} : OwnFrom w.heap.size (fun (_ : β) W => Kept2 A B w W) := fun _ _ _ _ hs hg hr => hs.grown hg (fun k e => .inl (hr k e).1)
theorem Kept2.set {A B : Nat} {w W : World} (h : Kept2 A B w W) (v : Value) : Kept2 A B w (W.setCell ⟨A, 0, none⟩ v) := h.grown (grownBy_setCell' W A v) (fun k e => by cases e; exact .inr (.inl rfl))
theorem Kept2.set' {A B : Nat} {w W : World} (h : Kept2 A B w W) (v : Value) : Kept2 A B w (W.setCell ⟨B, 0, none⟩ v) := h.grown (grownBy_setCell' W B v) (fun k e => by cases e; exact .inr (.inr rfl))
theorem Kept2.alloc {A B : Nat} {w W : World} (h : Kept2 A B w W) (o : Obj) : Kept2 A B w (W.alloc o) := h.grown (World.grownBy_alloc W o none) (fun k e => by cases e)
theorem Kept2.drew {A B : Nat} {w W : World} (h : Kept2 A B w W) : Kept2 A B w W.drew := ⟨h.os, h.tape, h.output, h.size, h.block⟩
theorem Kept2.cell {A B : Nat} {w W : World} (h : Kept2 A B w W) {p : Addr} (h1 : p.block < w.heap.size) (h2 : p.block ≠ A) (h3 : p.block ≠ B) : W.cell? p = w.cell? p := World.cell?_of_block (h.block _ h1 h2 h3)
theorem Kept2.below {A B n : Nat} {w0 w W : World} (h : Kept2 A B w W) (h0 : Below n w0 w) (ha : n ≤ A) (hb : n ≤ B) (hn : n ≤ w.heap.size) : Below n w0 W :=
  h0.trans ⟨h.os, h.tape, h.output, h.size, fun k hk => h.block k (by omega) (by omega) (by omega)⟩

theorem zp_at : ∀ (a : Nat) (l : List Fr) (k : Nat) (h : k < l.length), (zp a l)[k]'(by rw [zp_len]; exact h) = (a + pl l k, l[k])
  | a, f :: r, 0, _ => rfl
  | a, f :: r, k + 1, h => by
    have ih := zp_at (a + ln f) r k (by simpa using h)
    have e : pl (f :: r) (k + 1) = ln f + pl r k := by
      unfold pl; rw [List.take_succ_cons, cat, List.length_append, frB_len]
    show (zp (a + ln f) r)[k]'_ = _
    rw [ih, e, Nat.add_assoc]; rfl

/-- What the law holds ready, between two rounds. -/
def LawI (Bn Br : Nat) (w6 : World) (pre : List Pf) (W : World) : Prop := Boxed W Bn 3 (.int .i64 (pre.length : Int)) ∧ (Boxed W Br 4 (.bool false) ∧ Kept2 Bn Bn w6 W)
theorem LawI.own (Bn Br : Nat) (w6 : World) : OwnFrom w6.heap.size (LawI Bn Br w6) :=
  OwnFrom.and (Own.from (boxed_own _ _ _) _) (OwnFrom.and (Own.from (boxed_own _ _ (fun _ => Value.bool false)) _) (Kept2.own _ _ _))
/-- A round has left: at what is not there, or where it was to stop. -/
def LawX (Bn Br : Nat) (w6 : World) (fs : List Fr) (stop : Int) (c : Code) (pre : List Pf) (W : World) : Prop :=
  (c = .ret ∧ ∃ ini x, pre = ini ++ [x] ∧ ¬ (x.1.1 = pl fs ini.length ∧ x.1.2 = fa fs ini.length)) ∨ (c = .exit 0 ∧ (pre.length : Int) = stop ∧ LawI Bn Br w6 pre W)
theorem LawX.own (Bn Br : Nat) (w6 : World) (fs : List Fr) (stop : Int) (c : Code) : OwnFrom w6.heap.size (LawX Bn Br w6 fs stop c) := fun s X Y row hs hg hr => by
  rcases hs with h | ⟨h1, h2, h3⟩
  · exact .inl h
  · exact .inr ⟨h1, h2, LawI.own Bn Br w6 s X Y row h3 hg hr⟩
/-- The box of a round's frame. -/
def LawR (w6 : World) (x : Pf) (B : Nat) (W : World) : Prop := w6.heap.size ≤ B ∧ W.heap[B]? = some (.cells #[.int .i64 x.1.2.K, .string x.1.2.S] 23 (0, 0))
theorem LawR.own (w6 : World) (x : Pf) (B : Nat) : OwnFrom w6.heap.size (fun (_ : Unit) W => LawR w6 x B W) := fun _ X Y row hs hg hr => by
  obtain ⟨h1, h2⟩ := hs
  refine ⟨h1, (hg.block B (Array.getElem?_eq_some_iff.1 h2).1 (fun e' => ?_)).trans h2⟩
  obtain ⟨_, o, ho, hc⟩ := hr _ e'.symm
  rw [h2] at ho; cases ho; cases hc

/-- The law's end: its answer is stored, what was collected is taken. -/
theorem lawEnd {w W w7 : World} {D B : Nat} (hB : Below w.heap.size w W) (hb : Below W.heap.size W w7) (hr : Boxed w7 B 4 (.bool false)) (hK : W.heap[D]? = some (.deferred (some []))) (hwB : w.heap.size ≤ B) (hD : B < D) :
    (w7.setCell ⟨B, 0, none⟩ (.bool true)).heap[D]? = some (.deferred (some [])) ∧ ((w7.setCell ⟨B, 0, none⟩ (.bool true)).putObj D (.deferred none)).cell? ⟨B, 0, none⟩ = some (.bool true) ∧ Below w.heap.size w ((w7.setCell ⟨B, 0, none⟩ (.bool true)).putObj D (.deferred none)) := by
  have h1 := (hb.block D (Array.getElem?_eq_some_iff.1 hK).1).trans hK
  have h2 := ((grownBy_setCell' w7 B (.bool true)).block D (Array.getElem?_eq_some_iff.1 h1).1 (fun e => by injection e; omega)).trans h1
  refine ⟨h2, cell_kept (hr.set (.bool true)).cell (grownBy_putObj' _ D (.deferred none)) (fun r e => by cases e; exact ⟨_, h2, rfl⟩), ?_⟩
  exact ((hB.trans (hb.mono hB.size)).setCell (p := ⟨B, 0, none⟩) (by simpa using hwB) _).trans (belowK_b (w := w) (Nat.le_refl _) _ D _ _ (by omega) h2 rfl rfl)

theorem func_nil (B : Nat) (W : World) : (binOp .eql 49 (.func (.func 31) #[] #[.pointer (some ⟨B, 0, none⟩)]) .nilFunc).run Try.prog W = .ok (.bool false) W := by kernel_rfl

set_option maxRecDepth 100000 in
set_option maxHeartbeats 8000000 in
theorem walk_in (s : ByteArray) (stop : Int) (w : World) (h : s.size ≤ 3000) :
    Calls Try.prog 5 #[.string s, .int .i64 stop] w fun e w' => e = .returned (.bool true) ∧ Below w.heap.size w w' := by
  obtain ⟨xs, e, hW⟩ := whole_ex s
  obtain ⟨ys, rfl⟩ := pf_of xs (runs_small (by omega) hW.run (Nat.zero_le _))
  have hzp := runs_zp hW.run (Nat.zero_le _)
  have HW := keep hW
  have HZP := keep hzp
  have HA := keep (fun W => all_any s _ e W (by omega) hW)
  have HRA := keep (fun W => refAll_any s _ e W (by omega) hW)
  have HFS : ∃ fs : List Fr, fs = (ys.map (·.1)).map (·.2) := ⟨_, rfl⟩
  obtain ⟨fs, hfs⟩ := HFS
  have HJO := keep (fun v W (hF : FrRow W.heap.size W v fs) => joined_any v fs W hF (by rw [hfs]; exact hzp.2.2.2) (by
    have h1 := hzp.2.1
    have h2 := hW.le
    rw [hfs]; omega))
  have HFSL : Keep (fs.length = ys.length) := ⟨by rw [hfs, List.length_map, List.length_map]⟩
  unfold AllGo at HA
  unfold AllTo at HRA
  rw [← hfs] at HA HRA
  have HFSE := keep hfs
  have hsI : (s.size : Int) ≤ 3000 := by omega
  have HSS := keep h
  have hr00 := Boxed.new (w.alloc (.cells #[.int .i64 stop] 3)) 4 (.bool false)
  rw [World.size_alloc] at hr00
  have HR0 := keep hr00
  have HT0 := keep ((Boxed.new w 3 (.int .i64 stop)).alloc (.cells #[.bool false] 4))
  have HB0 := keep ((((Below.refl _ w).alloc (Nat.le_refl _) (.cells #[.int .i64 stop] 3)).alloc (by simp) (.cells #[.bool false] 4)))
  clear h hW hzp hfs hr00
  generalize lastE s e = er at *
  refine (callsIn_wide (n := 4)).1 ?_
  refine callsIn_of_wp_marks Try.func5 rfl trivial ?_ rfl
  simp only [Try.ntmps5, List.size_toArray, List.length_cons, List.length_nil, Nat.reduceAdd, Nat.reduceSub, Array.replicate_succ, Array.replicate_zero, List.push_toArray, List.append_toArray, List.nil_append, List.cons_append]
  gi_wp2_with (first
    | (refine ⟨trivial, ?_⟩; gi_at_call 9; refine (callsIn_wide.2 (live_any _)).mono ?_; rintro e1 w1 ⟨rfl, hb⟩; have HB1 := keep (HB0.out.trans (hb.mono HB0.out.size)); have HR1 := keep (HR0.out.kept (grown_of_below hb) (by simp)); have HT1 := keep (HT0.out.kept (grown_of_below hb) (by simp)); clear hb)
    | (refine ⟨trivial, ?_⟩; gi_at_call 14; refine (callsIn_wide.2 (HA.out _)).mono ?_; rintro e1 w2 ⟨v1, rfl, hf, hb⟩; have HB2 := keep (HB1.out.trans (hb.mono HB1.out.size)); have HR2 := keep (HR1.out.kept (grown_of_below hb) (by simp)); have HT2 := keep (HT1.out.kept (grown_of_below hb) (by simp)); have HF2 := keep hf; clear hf hb)
    | (refine ⟨trivial, ?_⟩; gi_at_call 15; refine (callsIn_wide.2 (HRA.out _)).mono ?_; rintro e1 w3 ⟨v2, rfl, hf, hb⟩; obtain ⟨o2, c2, hv2⟩ := hf.form; rw [hv2] at hf ⊢; clear hv2; have HB3 := keep (HB2.out.trans (hb.mono HB2.out.size)); have HR3 := keep (HR2.out.kept (grown_of_below hb) (by simp)); have HT3 := keep (HT2.out.kept (grown_of_below hb) (by simp)); have HF3 := keep ((HF2.out.below hb).mono hb.size); have HG3 := keep hf; clear hf hb))
  have HXB := keep (BoxL.new w3 [.slice o2 fs.length c2, .int .i64 (e : Int), .int .i64 (er : Int)] 42)
  have hba : Below w3.heap.size w3 (w3.alloc (.cells #[.slice o2 fs.length c2, .int .i64 (e : Int), .int .i64 (er : Int)] 42)) := (Below.refl _ _).alloc (Nat.le_refl _) _
  have HF4 := keep ((HF3.out.below hba).mono hba.size)
  have HG4 := keep ((HG3.out.below hba).mono hba.size)
  have HB4 := keep (HB3.out.trans (hba.mono HB3.out.size))
  have HR4 := keep (HR3.out.kept (grown_of_below hba) (by simp))
  have HT4 := keep (HT3.out.kept (grown_of_below hba) (by simp))
  have HXL : Keep (w.heap.size + 1 < w3.heap.size) := ⟨HR3.out.lt⟩
  clear hba
  refine ⟨trivial, ?_⟩
  refine (callsIn_wide.2 (fsame_any _ _ fs _ HF4.out HG4.out)).mono ?_
  rintro e1 w4 ⟨rfl, hb⟩
  have HXB4 := keep (HXB.out.to hb)
  have HG5 := keep ((HG4.out.below hb).mono hb.size)
  have HB5 := keep (HB4.out.trans (hb.mono HB4.out.size))
  have HR5 := keep (HR4.out.kept (grown_of_below hb) (by simp))
  have HT5 := keep (HT4.out.kept (grown_of_below hb) (by simp))
  have hx0 := HXB4.out.row 0 _ rfl
  have hx1 := HXB4.out.row 1 _ rfl
  have hx2 := HXB4.out.row 2 _ rfl
  clear hb
  generalize w3.heap.size = Bx at *
  gi_wp2
  refine ⟨trivial, ?_⟩
  refine (callsIn_wide.2 (HJO.out _ w4 HG5.out)).mono ?_
  rintro e1 w5 ⟨pv, rfl, hn, hb⟩
  obtain ⟨pb, po, pc, rfl, hpb, hpc⟩ := hn.out
  have HPB := keep hpb
  have HPC := keep hpc
  have HXB5 := keep (HXB4.out.to hb)
  have HG6 := keep ((HG5.out.below hb).mono hb.size)
  have HB6 := keep (HB5.out.trans (hb.mono HB5.out.size))
  have HR6 := keep (HR5.out.kept (grown_of_below hb) (by simp))
  have HT6 := keep (HT5.out.kept (grown_of_below hb) (by simp))
  clear hb hn hpb hpc hx0 hx1 hx2
  have hfn := func_nil
  gi_wp2_with (refine ⟨trivial, ?_⟩; gi_at_call 18; refine (callsIn_wide.2 (each_any _ _)).mono ?_; rintro e1 w' ⟨rfl, rfl⟩)
  have hbb : Below w5.heap.size w5 (((w5.alloc (.cells #[.slice (some ⟨pb, po, none⟩) (fs.length + 1) pc] 45)).alloc (.cells #[.string s] 9)).alloc (.cells #[.int .i64 0] 3)) := (((Below.refl _ _).alloc (Nat.le_refl _) _).alloc (by simp) _).alloc (by simp; omega) _
  have hn6 := Boxed.new ((w5.alloc (.cells #[.slice (some ⟨pb, po, none⟩) (fs.length + 1) pc] 45)).alloc (.cells #[.string s] 9)) 3 (.int .i64 0)
  have hs6 := (Boxed.new (w5.alloc (.cells #[.slice (some ⟨pb, po, none⟩) (fs.length + 1) pc] 45)) 9 (.string s)).alloc (.cells #[.int .i64 0] 3)
  have hp6 := ((Boxed.new w5 45 (.slice (some ⟨pb, po, none⟩) (fs.length + 1) pc)).alloc (.cells #[.string s] 9)).alloc (.cells #[.int .i64 0] 3)
  simp only [World.size_alloc] at hn6 hs6
  have HSZ : Keep ((((w5.alloc (.cells #[.slice (some ⟨pb, po, none⟩) (fs.length + 1) pc] 45)).alloc (.cells #[.string s] 9)).alloc (.cells #[.int .i64 0] 3)).heap.size = w5.heap.size + 3) := ⟨by simp⟩
  have HST := keep (each_stops 3 (by omega) (w5.heap.size + 1) s ys e (by have := HSS.out; omega) HW.out _ hs6)
  have HPB7 := keep HPB.out
  have HPC7 := keep (fun i (hi : i < fs.length + 1) => (hbb.cell (p := ⟨pb, po + i, none⟩) HPB.out).trans (HPC.out i hi))
  have HXB7 := keep (HXB5.out.to hbb)
  have HXL5 := keep HXB5.out.lt
  have HG7 := keep (HG6.out.below hbb)
  have HB7 := keep (HB6.out.trans (hbb.mono HB6.out.size))
  have HR7 := keep (HR6.out.kept (grown_of_below hbb) (by simp))
  have HT7 := keep (HT6.out.kept (grown_of_below hbb) (by simp))
  have HN7 := keep hn6
  have HP7 := keep hp6
  have HS7 := keep hs6
  have HRL := keep HR6.out.lt
  clear hbb hn6 hs6 hp6
  generalize (((w5.alloc (.cells #[.slice (some ⟨pb, po, none⟩) (fs.length + 1) pc] 45)).alloc (.cells #[.string s] 9)).alloc (.cells #[.int .i64 0] 3)) = w6 at *
  refine range_boxed (n := 4) 59 60 13 14 (fun x : Pf => .int .i64 (x.1.1 : Int)) (fun x => .agg #[.int .i64 x.1.2.K, .string x.1.2.S]) rfl (by omega) (gf := 31) (lb := #[.pointer (some ⟨w5.heap.size + 1, 0, none⟩)]) rfl trivial (enters_of Try.func31 (by kernel_rfl) rfl)
    HST.out (fun h1 h2 => Eq.trans h2 h1) (fun W l o o' h1 _ _ _ => World.putObj_heap_other (by have := HSZ.out; omega)) (fun _ => rfl)
    (LawI (w5.heap.size + 2) (w.heap.size + 1) w6) (LawX (w5.heap.size + 2) (w.heap.size + 1) w6 fs stop) (LawI.own _ _ _) (LawX.own _ _ _ _ _) ⟨HN7.out, HR7.out, Kept2.refl _ _ _⟩ (LawR w6) (LawR.own w6) ?assign ?body ?done ?stop
  case assign =>
    rintro l pre x W K hi hK
    dsimp only [encP]
    unfold asg at hK
    simp only [List.setIfInBounds_toArray, List.set_cons_succ, List.set_cons_zero] at hK
    gi_wp2
    have hsz := hi.2.2.size
    have hsz6 := HSZ.out
    exact hK W.heap.size _ ((KeepsOthers.alloc _ _).from _) (Below.heap_alloc W _ (w5.heap.size + 1) (by omega)) ⟨hi.1.alloc _, hi.2.1.alloc _, hi.2.2.alloc _⟩ ⟨hsz, World.alloc_heap_new W _⟩
  case body =>
    rintro l pre x Bf W hl ⟨hn, hr, hk⟩ ⟨hBf, hx⟩ hlt
    unfold asg
    simp only [List.setIfInBounds_toArray, List.set_cons_succ, List.set_cons_zero]
    have hkl : pre.length < fs.length := by rw [HFSL.out]; exact hlt
    have HFS0 := HG7.out.out
    rcases HFS0 with ⟨h0, _⟩ | ⟨b, off, cap, h1, hb5, -, hcf⟩
    · rw [h0] at hkl; exact absurd hkl (Nat.not_lt_zero _)
    injection h1 with h1a h1b h1c
    subst h1a h1c
    have hsz6 := HSZ.out
    have hxl5 := HXL5.out
    have hxl := HXL.out
    have hpb7 := HPB7.out
    have hcn := hn.cell
    have hcr := hr.cell
    have hct : W.cell? ⟨w.heap.size, 0, none⟩ = some (.int .i64 stop) := (hk.cell (p := ⟨w.heap.size, 0, none⟩) (by simp only; omega) (by simp only; omega) (by simp only; omega)).trans HT7.out.cell
    have hcp : W.cell? ⟨w5.heap.size, 0, none⟩ = some (.slice (some ⟨pb, po, none⟩) (fs.length + 1) pc) := (hk.cell (p := ⟨w5.heap.size, 0, none⟩) (by simp only; omega) (by simp only; omega) (by simp only; omega)).trans HP7.out.cell
    have hcl : W.cell? ⟨Bx, 0, none⟩ = some (.slice (some ⟨b, off, none⟩) fs.length c2) := (hk.cell (p := ⟨Bx, 0, none⟩) (by simp only; omega) (by simp only; omega) (by simp only; omega)).trans (HXB7.out.row 0 _ rfl)
    have hcq : W.cell? ⟨pb, po + pre.length, none⟩ = some (.int .i64 (pl fs pre.length : Int)) := (hk.cell (p := ⟨pb, po + pre.length, none⟩) (by simp only; omega) (by simp only; omega) (by simp only; omega)).trans (HPC7.out pre.length (by omega))
    obtain ⟨hcf0, hcf1⟩ := hcf pre.length hkl
    have hcK : W.cell? ⟨b, off + pre.length * 2, none⟩ = some (.int .i64 (fa fs pre.length).K) := (hk.cell (p := ⟨b, off + pre.length * 2, none⟩) (by simp only; omega) (by simp only; omega) (by simp only; omega)).trans hcf0
    have hcS : W.cell? ⟨b, off + pre.length * 2 + 1, none⟩ = some (.string (fa fs pre.length).S) := (hk.cell (p := ⟨b, off + pre.length * 2 + 1, none⟩) (by simp only; omega) (by simp only; omega) (by simp only; omega)).trans hcf1
    have hx0 : W.cell? ⟨Bf, 0, none⟩ = some (.int .i64 x.1.2.K) := by rw [cell_of_row W Bf 0 _ _ _ hx]; rfl
    have hx1 : W.cell? ⟨Bf, 1, none⟩ = some (.string x.1.2.S) := by rw [cell_of_row W Bf 1 _ _ _ hx]; rfl
    have hfn0 := hn.frozen
    have hfr0 := hr.frozen
    have hnl := hn.lt
    have hrl := hr.lt
    have HFA : ∃ g, g = fa fs pre.length := ⟨_, rfl⟩
    obtain ⟨g, hg⟩ := HFA
    have HPQ : ∃ q, q = pl fs pre.length := ⟨_, rfl⟩
    obtain ⟨q, hq⟩ := HPQ
    have hpl3 : q ≤ 100000 := by
      have h1 : pl fs pre.length ≤ (cat fs).length := pl_le
      have h2 := HZP.out.2.1
      have h3 := HW.out.le
      have h4 := HSS.out
      rw [← HFSE.out] at h2
      rw [hq]; omega
    have hk3 : pre.length ≤ 100000 := by
      have h2 : ∀ m : List Fr, m.length ≤ (cat m).length := fun m => by
        induction m with
        | nil => simp
        | cons f r ih => rw [cat, List.length_append, frB_len, List.length_cons]; have := ln_bd f; omega
      have h1 := h2 fs
      have h2 := HZP.out.2.1
      have h3 := HW.out.le
      have h4 := HSS.out
      rw [← HFSE.out] at h2
      omega
    rw [← hg] at hcK hcS
    rw [← hq] at hcq
    have HG := keep hg
    have HQ := keep hq
    have HKL := keep hkl
    have HN := keep hn
    have HR := keep hr
    have HK := keep hk
    have hxp := x.2.1
    clear hg hq hcf hcf0 hcf1 hn hr hk hx hlt hl
    have hgk : ∃ k, k = pre.length := ⟨_, rfl⟩
    obtain ⟨k, hgk⟩ := hgk
    rw [← hgk] at hcn hcq hcK hcS hkl hk3
    have HKP := keep hgk
    clear hgk
    have HX1 : ∃ p, p = x.1.1 := ⟨_, rfl⟩
    obtain ⟨p, hp⟩ := HX1
    have HX2 : ∃ y, y = x.1.2 := ⟨_, rfl⟩
    obtain ⟨y, hy⟩ := HX2
    rw [← hp] at hxp ⊢
    rw [← hy] at hx0 hx1
    have HP := keep hp
    have HY := keep hy
    clear hp hy
    obtain ⟨gK, gS⟩ := g
    obtain ⟨yK, yS⟩ := y
    simp only at hcK hcS hx0 hx1
    have hkI : (k : Int) ≤ 100000 := by omega
    have hk0 : (0 : Int) ≤ (k : Int) := by omega
    have hklI : (k : Int) < (fs.length : Int) := by omega
    have hge : ((fs.length : Int) ≤ (k : Int)) = False := by simp; omega
    have hkl1 : (k : Int) < (fs.length : Int) + 1 := by omega
    have hkw : IntKind.i64.wrap ((k : Int) + 1) = (k : Int) + 1 := IntWalk.i64_in _ ⟨by omega, by omega⟩
    gi_wp2
    by_cases hfe : yK = gK ∧ yS = gS
    · obtain ⟨rfl, rfl⟩ := hfe
      by_cases hpe : p = q
      · subst hpe
        refine AnyGo.regionIn (fun W' => W'.cell? ⟨w5.heap.size + 1 + 1, 0, none⟩ = some (.int .i64 (k : Int)) ∧ W'.cell? ⟨Bx, 0, none⟩ = some (.slice (some ⟨b, off, none⟩) fs.length c2) ∧ W'.cell? ⟨w5.heap.size, 0, none⟩ = some (.slice (some ⟨pb, po, none⟩) (fs.length + 1) pc) ∧ W'.cell? ⟨pb, po + k, none⟩ = some (.int .i64 (p : Int)) ∧ W'.cell? ⟨b, off + k * 2, none⟩ = some (.int .i64 yK) ∧ W'.cell? ⟨b, off + k * 2 + 1, none⟩ = some (.string yS) ∧ W'.cell? ⟨Bf, 0, none⟩ = some (.int .i64 yK) ∧ W'.cell? ⟨Bf, 1, none⟩ = some (.string yS)) (by kernel_rfl) (by kernel_rfl) (by rintro ⟨a, w, h⟩; exact h) (by rfl) ⟨hcn, hcl, hcp, hcq, hcK, hcS, hx0, hx1⟩ ?_
        intro wd ewd
        subst ewd
        clear hcl hcp hcq hcK hcS hx0 hx1 hcn
        (refine AnyGo.take 0 (some 61) ?_ (a' := ?_) rfl (by kernel_rfl) (fun _ _ d _ _ h => by cases d <;> exact h) (by kernel_rfl) (by rfl) (by kernel_rfl) ?_ ?_ ?_; rotate_left 2; (focus (intro W hW; (try dsimp only at hW); go_simp; (try with_reducible rfl))); (focus (simp only [Act.put, List.setIfInBounds_toArray]; rfl)))
        (refine AnyGo.take 1 (some 62) ?_ (a' := ?_) rfl (by kernel_rfl) (fun _ _ d _ _ h => by cases d <;> exact h) (by kernel_rfl) (by rfl) (by kernel_rfl) ?_ ?_ ?_; rotate_left 2; (focus (intro W hW; (try dsimp only at hW); go_simp; (try with_reducible rfl))); (focus (simp only [Act.put, List.setIfInBounds_toArray]; rfl)))
        (refine AnyGo.take 2 (some 63) ?_ (a' := ?_) rfl (by kernel_rfl) (fun _ _ d _ _ h => by cases d <;> exact h) (by kernel_rfl) (by rfl) (by kernel_rfl) ?_ ?_ ?_; rotate_left 2; (focus (intro W hW; (try dsimp only at hW); go_simp; (try with_reducible rfl))); (focus (simp only [Act.put, List.setIfInBounds_toArray]; rfl)))
        (refine AnyGo.take 3 (some 64) ?_ (a' := ?_) rfl (by kernel_rfl) (fun _ _ d _ _ h => by cases d <;> exact h) (by kernel_rfl) (by rfl) (by kernel_rfl) ?_ ?_ ?_; rotate_left 2; (focus (intro W hW; (try dsimp only at hW); go_simp; (try with_reducible rfl))); (focus (simp only [Act.put, List.setIfInBounds_toArray]; rfl)))
        (refine AnyGo.take 4 (some 65) ?_ (a' := ?_) rfl (by kernel_rfl) (fun _ _ d _ _ h => by cases d <;> exact h) (by kernel_rfl) (by rfl) (by kernel_rfl) ?_ ?_ ?_; rotate_left 2; (focus (intro W hW; (try dsimp only at hW); go_simp; (try with_reducible rfl))); (focus (simp only [Act.put, List.setIfInBounds_toArray]; rfl)))
        (refine AnyGo.take 5 (some 66) ?_ (a' := ?_) rfl (by kernel_rfl) (fun _ _ d _ _ h => by cases d <;> exact h) (by kernel_rfl) (by rfl) (by kernel_rfl) ?_ ?_ ?_; rotate_left 2; (focus (intro W hW; (try dsimp only at hW); go_simp; (try with_reducible rfl))); (focus (simp only [Act.put, List.setIfInBounds_toArray]; rfl)))
        (refine AnyGo.take 6 (some 67) ?_ (a' := ?_) rfl (by kernel_rfl) (fun _ _ d _ _ h => by cases d <;> exact h) (by kernel_rfl) (by rfl) (by kernel_rfl) ?_ ?_ ?_; rotate_left 2; (focus (intro W hW; (try dsimp only at hW); go_simp; (try with_reducible rfl))); (focus (simp only [Act.put, List.setIfInBounds_toArray]; rfl)))
        (refine AnyGo.take 7 (some 68) ?_ (a' := ?_) rfl (by kernel_rfl) (fun _ _ d _ _ h => by cases d <;> exact h) (by kernel_rfl) (by rfl) (by kernel_rfl) ?_ ?_ ?_; rotate_left 2; (focus (intro W hW; (try dsimp only at hW); go_simp; (try with_reducible rfl))); (focus (simp only [Act.put, List.setIfInBounds_toArray]; rfl)))
        (refine AnyGo.take 8 (some 69) ?_ (a' := ?_) rfl (by kernel_rfl) (fun _ _ d _ _ h => by cases d <;> exact h) (by kernel_rfl) (by rfl) (by kernel_rfl) ?_ ?_ ?_; rotate_left 2; (focus (intro W hW; (try dsimp only at hW); go_simp; (try with_reducible rfl))); (focus (simp only [Act.put, List.setIfInBounds_toArray]; rfl)))
        (refine AnyGo.take 9 (some 70) ?_ (a' := ?_) rfl (by kernel_rfl) (fun _ _ d _ _ h => by cases d <;> exact h) (by kernel_rfl) (by rfl) (by kernel_rfl) ?_ ?_ ?_; rotate_left 2; (focus (intro W hW; (try dsimp only at hW); go_simp; (try with_reducible rfl))); (focus (simp only [Act.put, List.setIfInBounds_toArray]; rfl)))
        (refine AnyGo.take 10 (some 71) ?_ (a' := ?_) rfl (by kernel_rfl) (fun _ _ d _ _ h => by cases d <;> exact h) (by kernel_rfl) (by rfl) (by kernel_rfl) ?_ ?_ ?_; rotate_left 2; (focus (intro W hW; (try dsimp only at hW); go_simp; (try with_reducible rfl))); (focus (simp only [Act.put, List.setIfInBounds_toArray]; rfl)))
        (refine AnyGo.take 11 (some 72) ?_ (a' := ?_) rfl (by kernel_rfl) (fun _ _ d _ _ h => by cases d <;> exact h) (by kernel_rfl) (by rfl) (by kernel_rfl) ?_ ?_ ?_; rotate_left 2; (focus (intro W hW; (try dsimp only at hW); go_simp; (try with_reducible rfl))); (focus (simp only [Act.put, List.setIfInBounds_toArray]; rfl)))
        (refine AnyGo.take 12 (some 73) ?_ (a' := ?_) rfl (by kernel_rfl) (fun _ _ d _ _ h => by cases d <;> exact h) (by kernel_rfl) (by rfl) (by kernel_rfl) ?_ ?_ ?_; rotate_left 2; (focus (intro W hW; (try dsimp only at hW); go_simp; (try with_reducible rfl))); (focus (simp only [Act.put, List.setIfInBounds_toArray]; rfl)))
        (refine AnyGo.take 13 (some 74) ?_ (a' := ?_) rfl (by kernel_rfl) (fun _ _ d _ _ h => by cases d <;> exact h) (by kernel_rfl) (by rfl) (by kernel_rfl) ?_ ?_ ?_; rotate_left 2; (focus (intro W hW; (try dsimp only at hW); go_simp; (try with_reducible rfl))); (focus (simp only [Act.put, List.setIfInBounds_toArray]; rfl)))
        (refine AnyGo.take 14 (some 75) ?_ (a' := ?_) rfl (by kernel_rfl) (fun _ _ d _ _ h => by cases d <;> exact h) (by kernel_rfl) (by rfl) (by kernel_rfl) ?_ ?_ ?_; rotate_left 2; (focus (intro W hW; (try dsimp only at hW); go_simp; (try with_reducible rfl))); (focus (simp only [Act.put, List.setIfInBounds_toArray]; rfl)))
        (refine AnyGo.take 15 (some 76) ?_ (a' := ?_) rfl (by kernel_rfl) (fun _ _ d _ _ h => by cases d <;> exact h) (by kernel_rfl) (by rfl) (by kernel_rfl) ?_ ?_ ?_; rotate_left 2; (focus (intro W hW; (try dsimp only at hW); go_simp; (try with_reducible rfl))); (focus (simp only [Act.put, List.setIfInBounds_toArray]; rfl)))
        (refine AnyGo.take 16 (some 77) ?_ (a' := ?_) rfl (by kernel_rfl) (fun _ _ d _ _ h => by cases d <;> exact h) (by kernel_rfl) (by rfl) (by kernel_rfl) ?_ ?_ ?_; rotate_left 2; (focus (intro W hW; (try dsimp only at hW); go_simp; (try with_reducible rfl))); (focus (simp only [Act.put, List.setIfInBounds_toArray]; rfl)))
        (refine AnyGo.take 17 (some 78) ?_ (a' := ?_) rfl (by kernel_rfl) (fun _ _ d _ _ h => by cases d <;> exact h) (by kernel_rfl) (by rfl) (by kernel_rfl) ?_ ?_ ?_; rotate_left 2; (focus (intro W hW; (try dsimp only at hW); go_simp; (try with_reducible rfl))); (focus (simp only [Act.put, List.setIfInBounds_toArray]; rfl)))
        (refine AnyGo.take 18 (some 79) ?_ (a' := ?_) rfl (by kernel_rfl) (fun _ _ d _ _ h => by cases d <;> exact h) (by kernel_rfl) (by rfl) (by kernel_rfl) ?_ ?_ ?_; rotate_left 2; (focus (intro W hW; (try dsimp only at hW); go_simp; (try with_reducible rfl))); (focus (simp only [Act.put, List.setIfInBounds_toArray]; rfl)))
        (refine AnyGo.take 19 (some 80) ?_ (a' := ?_) rfl (by kernel_rfl) (fun _ _ d _ _ h => by cases d <;> exact h) (by kernel_rfl) (by rfl) (by kernel_rfl) ?_ ?_ ?_; rotate_left 2; (focus (intro W hW; (try dsimp only at hW); go_simp; (try with_reducible rfl))); (focus (simp only [Act.put, List.setIfInBounds_toArray]; rfl)))
        (refine AnyGo.take 20 (some 81) ?_ (a' := ?_) rfl (by kernel_rfl) (fun _ _ d _ _ h => by cases d <;> exact h) (by kernel_rfl) (by rfl) (by kernel_rfl) ?_ ?_ ?_; rotate_left 2; (focus (intro W hW; (try dsimp only at hW); go_simp; (try with_reducible rfl))); (focus (simp only [Act.put, List.setIfInBounds_toArray]; rfl)))
        (refine AnyGo.take 21 (some 82) ?_ (a' := ?_) rfl (by kernel_rfl) (fun _ _ d _ _ h => by cases d <;> exact h) (by kernel_rfl) (by rfl) (by kernel_rfl) ?_ ?_ ?_; rotate_left 2; (focus (intro W hW; (try dsimp only at hW); go_simp; (try with_reducible rfl))); (focus (simp only [Act.put, List.setIfInBounds_toArray]; rfl)))
        refine AnyGo.fin (by kernel_rfl) ?_
        (try simp only [List.set_cons_succ, List.set_cons_zero])
        clear hxp hkl1 hk0 hklI hge hpl3
        have hd1 : W.cell? ⟨w5.heap.size + 1 + 1, 0, none⟩ = some (.int .i64 (k : Int)) := by
          rw [HKP.out]; exact HN.out.cell
        have hd4 : W.frozen? ⟨w5.heap.size + 1 + 1, 0, none⟩ = false := HN.out.frozen
        have hne1 : ¬ w.heap.size = w5.heap.size + 1 + 1 := by omega
        have hne2 : ¬ w5.heap.size + 1 + 1 = w.heap.size := by omega
        have HLEN1 : Keep ((pre ++ [x]).length = k + 1) := ⟨by rw [List.length_append, HKP.out]; rfl⟩
        have hle1 : ((pre ++ [x]).length : Int) = (k : Int) + 1 := by rw [HLEN1.out]; omega
        have HKF : Keep (KeepsFrom w6.heap.size W (W.setCell ⟨w5.heap.size + 1 + 1, 0, none⟩ (.int .i64 ((k : Int) + 1))).drew) := ⟨((KeepsOthers.setCell W _ _).trans (KeepsOthers.drew _)).from _⟩
        have HKB : Keep (KpB (w5.heap.size + 1) W (W.setCell ⟨w5.heap.size + 1 + 1, 0, none⟩ (.int .i64 ((k : Int) + 1))).drew) := ⟨(grownBy_setCell' W (w5.heap.size + 1 + 1) (.int .i64 ((k : Int) + 1))).block (w5.heap.size + 1) (by omega) (fun e => by injection e; omega)⟩
        have HLI : Keep (LawI (w5.heap.size + 2) (w.heap.size + 1) w6 (pre ++ [x]) (W.setCell ⟨w5.heap.size + 1 + 1, 0, none⟩ (.int .i64 ((k : Int) + 1))).drew) := ⟨by
          refine ⟨?_, HR.out.other (by omega) _, (HK.out.set _).drew⟩
          rw [hle1]
          exact HN.out.set _⟩
        have HLE := keep hle1
        clear hle1
        by_cases hse : (k : Int) + 1 = stop
        · have hsb : ((k : Int) + 1 == stop) = true := by simp [hse]
          have HSE := keep hse
          clear hse
          gi_wp2
          exact ⟨HKF.out, .inr ⟨rfl, by rw [HLE.out]; exact HSE.out, HLI.out⟩⟩
        · have hsb : ((k : Int) + 1 == stop) = false := by simp [hse]
          clear hse
          gi_wp2
          exact ⟨HKF.out, HKB.out, HLI.out⟩
      · have hpn : ((p : Int) != (q : Int)) = true := by simp; omega
        have HPN := keep hpe
        clear hpe
        refine AnyGo.regionIn (fun W' => W'.cell? ⟨w5.heap.size + 1 + 1, 0, none⟩ = some (.int .i64 (k : Int)) ∧ W'.cell? ⟨Bx, 0, none⟩ = some (.slice (some ⟨b, off, none⟩) fs.length c2) ∧ W'.cell? ⟨w5.heap.size, 0, none⟩ = some (.slice (some ⟨pb, po, none⟩) (fs.length + 1) pc) ∧ W'.cell? ⟨pb, po + k, none⟩ = some (.int .i64 (q : Int)) ∧ W'.cell? ⟨b, off + k * 2, none⟩ = some (.int .i64 yK) ∧ W'.cell? ⟨b, off + k * 2 + 1, none⟩ = some (.string yS) ∧ W'.cell? ⟨Bf, 0, none⟩ = some (.int .i64 yK) ∧ W'.cell? ⟨Bf, 1, none⟩ = some (.string yS)) (by kernel_rfl) (by kernel_rfl) (by rintro ⟨a, w, h⟩; exact h) (by rfl) ⟨hcn, hcl, hcp, hcq, hcK, hcS, hx0, hx1⟩ ?_
        intro wd ewd
        subst ewd
        clear hcl hcp hcq hcK hcS hx0 hx1 hcn
        (refine AnyGo.take 0 (some 61) ?_ (a' := ?_) rfl (by kernel_rfl) (fun _ _ d _ _ h => by cases d <;> exact h) (by kernel_rfl) (by rfl) (by kernel_rfl) ?_ ?_ ?_; rotate_left 2; (focus (intro W hW; (try dsimp only at hW); go_simp; (try with_reducible rfl))); (focus (simp only [Act.put, List.setIfInBounds_toArray]; rfl)))
        (refine AnyGo.take 1 (some 62) ?_ (a' := ?_) rfl (by kernel_rfl) (fun _ _ d _ _ h => by cases d <;> exact h) (by kernel_rfl) (by rfl) (by kernel_rfl) ?_ ?_ ?_; rotate_left 2; (focus (intro W hW; (try dsimp only at hW); go_simp; (try with_reducible rfl))); (focus (simp only [Act.put, List.setIfInBounds_toArray]; rfl)))
        (refine AnyGo.take 2 (some 63) ?_ (a' := ?_) rfl (by kernel_rfl) (fun _ _ d _ _ h => by cases d <;> exact h) (by kernel_rfl) (by rfl) (by kernel_rfl) ?_ ?_ ?_; rotate_left 2; (focus (intro W hW; (try dsimp only at hW); go_simp; (try with_reducible rfl))); (focus (simp only [Act.put, List.setIfInBounds_toArray]; rfl)))
        (refine AnyGo.take 3 (some 64) ?_ (a' := ?_) rfl (by kernel_rfl) (fun _ _ d _ _ h => by cases d <;> exact h) (by kernel_rfl) (by rfl) (by kernel_rfl) ?_ ?_ ?_; rotate_left 2; (focus (intro W hW; (try dsimp only at hW); go_simp; (try with_reducible rfl))); (focus (simp only [Act.put, List.setIfInBounds_toArray]; rfl)))
        (refine AnyGo.take 4 (some 65) ?_ (a' := ?_) rfl (by kernel_rfl) (fun _ _ d _ _ h => by cases d <;> exact h) (by kernel_rfl) (by rfl) (by kernel_rfl) ?_ ?_ ?_; rotate_left 2; (focus (intro W hW; (try dsimp only at hW); go_simp; (try with_reducible rfl))); (focus (simp only [Act.put, List.setIfInBounds_toArray]; rfl)))
        (refine AnyGo.take 5 (some 66) ?_ (a' := ?_) rfl (by kernel_rfl) (fun _ _ d _ _ h => by cases d <;> exact h) (by kernel_rfl) (by rfl) (by kernel_rfl) ?_ ?_ ?_; rotate_left 2; (focus (intro W hW; (try dsimp only at hW); go_simp; (try with_reducible rfl))); (focus (simp only [Act.put, List.setIfInBounds_toArray]; rfl)))
        (refine AnyGo.take 6 (some 67) ?_ (a' := ?_) rfl (by kernel_rfl) (fun _ _ d _ _ h => by cases d <;> exact h) (by kernel_rfl) (by rfl) (by kernel_rfl) ?_ ?_ ?_; rotate_left 2; (focus (intro W hW; (try dsimp only at hW); go_simp; (try with_reducible rfl))); (focus (simp only [Act.put, List.setIfInBounds_toArray]; rfl)))
        (refine AnyGo.take 7 (some 68) ?_ (a' := ?_) rfl (by kernel_rfl) (fun _ _ d _ _ h => by cases d <;> exact h) (by kernel_rfl) (by rfl) (by kernel_rfl) ?_ ?_ ?_; rotate_left 2; (focus (intro W hW; (try dsimp only at hW); go_simp; (try with_reducible rfl))); (focus (simp only [Act.put, List.setIfInBounds_toArray]; rfl)))
        (refine AnyGo.take 8 (some 69) ?_ (a' := ?_) rfl (by kernel_rfl) (fun _ _ d _ _ h => by cases d <;> exact h) (by kernel_rfl) (by rfl) (by kernel_rfl) ?_ ?_ ?_; rotate_left 2; (focus (intro W hW; (try dsimp only at hW); go_simp; (try with_reducible rfl))); (focus (simp only [Act.put, List.setIfInBounds_toArray]; rfl)))
        (refine AnyGo.take 9 (some 70) ?_ (a' := ?_) rfl (by kernel_rfl) (fun _ _ d _ _ h => by cases d <;> exact h) (by kernel_rfl) (by rfl) (by kernel_rfl) ?_ ?_ ?_; rotate_left 2; (focus (intro W hW; (try dsimp only at hW); go_simp; (try with_reducible rfl))); (focus (simp only [Act.put, List.setIfInBounds_toArray]; rfl)))
        (refine AnyGo.take 10 (some 71) ?_ (a' := ?_) rfl (by kernel_rfl) (fun _ _ d _ _ h => by cases d <;> exact h) (by kernel_rfl) (by rfl) (by kernel_rfl) ?_ ?_ ?_; rotate_left 2; (focus (intro W hW; (try dsimp only at hW); go_simp; (try with_reducible rfl))); (focus (simp only [Act.put, List.setIfInBounds_toArray]; rfl)))
        (refine AnyGo.take 11 (some 72) ?_ (a' := ?_) rfl (by kernel_rfl) (fun _ _ d _ _ h => by cases d <;> exact h) (by kernel_rfl) (by rfl) (by kernel_rfl) ?_ ?_ ?_; rotate_left 2; (focus (intro W hW; (try dsimp only at hW); go_simp; (try with_reducible rfl))); (focus (simp only [Act.put, List.setIfInBounds_toArray]; rfl)))
        (refine AnyGo.take 12 (some 73) ?_ (a' := ?_) rfl (by kernel_rfl) (fun _ _ d _ _ h => by cases d <;> exact h) (by kernel_rfl) (by rfl) (by kernel_rfl) ?_ ?_ ?_; rotate_left 2; (focus (intro W hW; (try dsimp only at hW); go_simp; (try with_reducible rfl))); (focus (simp only [Act.put, List.setIfInBounds_toArray]; rfl)))
        (refine AnyGo.take 13 (some 74) ?_ (a' := ?_) rfl (by kernel_rfl) (fun _ _ d _ _ h => by cases d <;> exact h) (by kernel_rfl) (by rfl) (by kernel_rfl) ?_ ?_ ?_; rotate_left 2; (focus (intro W hW; (try dsimp only at hW); go_simp; (try with_reducible rfl))); (focus (simp only [Act.put, List.setIfInBounds_toArray]; rfl)))
        (refine AnyGo.take 14 (some 75) ?_ (a' := ?_) rfl (by kernel_rfl) (fun _ _ d _ _ h => by cases d <;> exact h) (by kernel_rfl) (by rfl) (by kernel_rfl) ?_ ?_ ?_; rotate_left 2; (focus (intro W hW; (try dsimp only at hW); go_simp; (try with_reducible rfl))); (focus (simp only [Act.put, List.setIfInBounds_toArray]; rfl)))
        (refine AnyGo.take 15 (some 76) ?_ (a' := ?_) rfl (by kernel_rfl) (fun _ _ d _ _ h => by cases d <;> exact h) (by kernel_rfl) (by rfl) (by kernel_rfl) ?_ ?_ ?_; rotate_left 2; (focus (intro W hW; (try dsimp only at hW); go_simp; (try with_reducible rfl))); (focus (simp only [Act.put, List.setIfInBounds_toArray]; rfl)))
        (refine AnyGo.take 16 (some 77) ?_ (a' := ?_) rfl (by kernel_rfl) (fun _ _ d _ _ h => by cases d <;> exact h) (by kernel_rfl) (by rfl) (by kernel_rfl) ?_ ?_ ?_; rotate_left 2; (focus (intro W hW; (try dsimp only at hW); go_simp; (try with_reducible rfl))); (focus (simp only [Act.put, List.setIfInBounds_toArray]; rfl)))
        (refine AnyGo.take 17 (some 78) ?_ (a' := ?_) rfl (by kernel_rfl) (fun _ _ d _ _ h => by cases d <;> exact h) (by kernel_rfl) (by rfl) (by kernel_rfl) ?_ ?_ ?_; rotate_left 2; (focus (intro W hW; (try dsimp only at hW); go_simp; (try with_reducible rfl))); (focus (simp only [Act.put, List.setIfInBounds_toArray]; rfl)))
        (refine AnyGo.take 18 (some 79) ?_ (a' := ?_) rfl (by kernel_rfl) (fun _ _ d _ _ h => by cases d <;> exact h) (by kernel_rfl) (by rfl) (by kernel_rfl) ?_ ?_ ?_; rotate_left 2; (focus (intro W hW; (try dsimp only at hW); go_simp; (try with_reducible rfl))); (focus (simp only [Act.put, List.setIfInBounds_toArray]; rfl)))
        (refine AnyGo.take 19 (some 80) ?_ (a' := ?_) rfl (by kernel_rfl) (fun _ _ d _ _ h => by cases d <;> exact h) (by kernel_rfl) (by rfl) (by kernel_rfl) ?_ ?_ ?_; rotate_left 2; (focus (intro W hW; (try dsimp only at hW); go_simp; (try with_reducible rfl))); (focus (simp only [Act.put, List.setIfInBounds_toArray]; rfl)))
        (refine AnyGo.take 20 (some 81) ?_ (a' := ?_) rfl (by kernel_rfl) (fun _ _ d _ _ h => by cases d <;> exact h) (by kernel_rfl) (by rfl) (by kernel_rfl) ?_ ?_ ?_; rotate_left 2; (focus (intro W hW; (try dsimp only at hW); go_simp; (try with_reducible rfl))); (focus (simp only [Act.put, List.setIfInBounds_toArray]; rfl)))
        (refine AnyGo.take 21 (some 82) ?_ (a' := ?_) rfl (by kernel_rfl) (fun _ _ d _ _ h => by cases d <;> exact h) (by kernel_rfl) (by rfl) (by kernel_rfl) ?_ ?_ ?_; rotate_left 2; (focus (intro W hW; (try dsimp only at hW); go_simp; (try with_reducible rfl))); (focus (simp only [Act.put, List.setIfInBounds_toArray]; rfl)))
        refine AnyGo.fin (by kernel_rfl) ?_
        (try simp only [List.set_cons_succ, List.set_cons_zero])
        clear hxp hkl1 hk0 hklI hge hpl3 hpn
        have HKF : Keep (KeepsFrom w6.heap.size W (W.drew.setCell ⟨w.heap.size + 1, 0, none⟩ (.bool false))) := ⟨((KeepsOthers.drew W).trans (KeepsOthers.setCell _ _ _)).from _⟩
        gi_wp2
        exact ⟨HKF.out, .inl ⟨rfl, pre, x, rfl, fun h => HPN.out (by rw [HP.out, HQ.out]; exact h.1)⟩⟩
    · have HFN := keep hfe
      refine AnyGo.regionIn (fun W' => W'.cell? ⟨w5.heap.size + 1 + 1, 0, none⟩ = some (.int .i64 (k : Int)) ∧ W'.cell? ⟨Bx, 0, none⟩ = some (.slice (some ⟨b, off, none⟩) fs.length c2) ∧ W'.cell? ⟨w5.heap.size, 0, none⟩ = some (.slice (some ⟨pb, po, none⟩) (fs.length + 1) pc) ∧ W'.cell? ⟨pb, po + k, none⟩ = some (.int .i64 (q : Int)) ∧ W'.cell? ⟨b, off + k * 2, none⟩ = some (.int .i64 gK) ∧ W'.cell? ⟨b, off + k * 2 + 1, none⟩ = some (.string gS) ∧ W'.cell? ⟨Bf, 0, none⟩ = some (.int .i64 yK) ∧ W'.cell? ⟨Bf, 1, none⟩ = some (.string yS)) (by kernel_rfl) (by kernel_rfl) (by rintro ⟨a, w, h⟩; exact h) (by rfl) ⟨hcn, hcl, hcp, hcq, hcK, hcS, hx0, hx1⟩ ?_
      intro wd ewd
      subst ewd
      clear hcl hcp hcq hcK hcS hx0 hx1 hcn
      (refine AnyGo.take 0 (some 61) ?_ (a' := ?_) rfl (by kernel_rfl) (fun _ _ d _ _ h => by cases d <;> exact h) (by kernel_rfl) (by rfl) (by kernel_rfl) ?_ ?_ ?_; rotate_left 2; (focus (intro W hW; (try dsimp only at hW); go_simp; (try with_reducible rfl))); (focus (simp only [Act.put, List.setIfInBounds_toArray]; rfl)))
      (refine AnyGo.take 1 (some 62) ?_ (a' := ?_) rfl (by kernel_rfl) (fun _ _ d _ _ h => by cases d <;> exact h) (by kernel_rfl) (by rfl) (by kernel_rfl) ?_ ?_ ?_; rotate_left 2; (focus (intro W hW; (try dsimp only at hW); go_simp; (try with_reducible rfl))); (focus (simp only [Act.put, List.setIfInBounds_toArray]; rfl)))
      (refine AnyGo.take 2 (some 63) ?_ (a' := ?_) rfl (by kernel_rfl) (fun _ _ d _ _ h => by cases d <;> exact h) (by kernel_rfl) (by rfl) (by kernel_rfl) ?_ ?_ ?_; rotate_left 2; (focus (intro W hW; (try dsimp only at hW); go_simp; (try with_reducible rfl))); (focus (simp only [Act.put, List.setIfInBounds_toArray]; rfl)))
      (refine AnyGo.take 3 (some 64) ?_ (a' := ?_) rfl (by kernel_rfl) (fun _ _ d _ _ h => by cases d <;> exact h) (by kernel_rfl) (by rfl) (by kernel_rfl) ?_ ?_ ?_; rotate_left 2; (focus (intro W hW; (try dsimp only at hW); go_simp; (try with_reducible rfl))); (focus (simp only [Act.put, List.setIfInBounds_toArray]; rfl)))
      (refine AnyGo.take 4 (some 65) ?_ (a' := ?_) rfl (by kernel_rfl) (fun _ _ d _ _ h => by cases d <;> exact h) (by kernel_rfl) (by rfl) (by kernel_rfl) ?_ ?_ ?_; rotate_left 2; (focus (intro W hW; (try dsimp only at hW); go_simp; (try with_reducible rfl))); (focus (simp only [Act.put, List.setIfInBounds_toArray]; rfl)))
      (refine AnyGo.take 5 (some 66) ?_ (a' := ?_) rfl (by kernel_rfl) (fun _ _ d _ _ h => by cases d <;> exact h) (by kernel_rfl) (by rfl) (by kernel_rfl) ?_ ?_ ?_; rotate_left 2; (focus (intro W hW; (try dsimp only at hW); go_simp; (try with_reducible rfl))); (focus (simp only [Act.put, List.setIfInBounds_toArray]; rfl)))
      (refine AnyGo.take 6 (some 67) ?_ (a' := ?_) rfl (by kernel_rfl) (fun _ _ d _ _ h => by cases d <;> exact h) (by kernel_rfl) (by rfl) (by kernel_rfl) ?_ ?_ ?_; rotate_left 2; (focus (intro W hW; (try dsimp only at hW); go_simp; (try with_reducible rfl))); (focus (simp only [Act.put, List.setIfInBounds_toArray]; rfl)))
      (refine AnyGo.take 7 (some 68) ?_ (a' := ?_) rfl (by kernel_rfl) (fun _ _ d _ _ h => by cases d <;> exact h) (by kernel_rfl) (by rfl) (by kernel_rfl) ?_ ?_ ?_; rotate_left 2; (focus (intro W hW; (try dsimp only at hW); go_simp; (try with_reducible rfl))); (focus (simp only [Act.put, List.setIfInBounds_toArray]; rfl)))
      (refine AnyGo.take 8 (some 69) ?_ (a' := ?_) rfl (by kernel_rfl) (fun _ _ d _ _ h => by cases d <;> exact h) (by kernel_rfl) (by rfl) (by kernel_rfl) ?_ ?_ ?_; rotate_left 2; (focus (intro W hW; (try dsimp only at hW); go_simp; (try with_reducible rfl))); (focus (simp only [Act.put, List.setIfInBounds_toArray]; rfl)))
      (refine AnyGo.take 9 (some 70) ?_ (a' := ?_) rfl (by kernel_rfl) (fun _ _ d _ _ h => by cases d <;> exact h) (by kernel_rfl) (by rfl) (by kernel_rfl) ?_ ?_ ?_; rotate_left 2; (focus (intro W hW; (try dsimp only at hW); go_simp; (try with_reducible rfl))); (focus (simp only [Act.put, List.setIfInBounds_toArray]; rfl)))
      (refine AnyGo.take 10 (some 71) ?_ (a' := ?_) rfl (by kernel_rfl) (fun _ _ d _ _ h => by cases d <;> exact h) (by kernel_rfl) (by rfl) (by kernel_rfl) ?_ ?_ ?_; rotate_left 2; (focus (intro W hW; (try dsimp only at hW); go_simp; (try with_reducible rfl))); (focus (simp only [Act.put, List.setIfInBounds_toArray]; rfl)))
      (refine AnyGo.take 11 (some 72) ?_ (a' := ?_) rfl (by kernel_rfl) (fun _ _ d _ _ h => by cases d <;> exact h) (by kernel_rfl) (by rfl) (by kernel_rfl) ?_ ?_ ?_; rotate_left 2; (focus (intro W hW; (try dsimp only at hW); go_simp; (try with_reducible rfl))); (focus (simp only [Act.put, List.setIfInBounds_toArray]; rfl)))
      refine AnyGo.take 12 (some 73) (.bool true) (a' := ?_) rfl (by kernel_rfl) (fun _ _ d _ _ h => by cases d <;> exact h) (by kernel_rfl) (by rfl) (by kernel_rfl) ?_ ?_ ?_; rotate_left 1
      focus
        intro W hW
        (try dsimp only at hW)
        go_simp
        intro hk1 h
        have := beq_no (fun c => HFN.out ⟨hk1, c⟩ : yS ≠ gS)
        rw [h] at this
        simp at this
      focus
        simp only [Act.put, List.setIfInBounds_toArray]
        rfl
      (refine AnyGo.take 13 (some 74) ?_ (a' := ?_) rfl (by kernel_rfl) (fun _ _ d _ _ h => by cases d <;> exact h) (by kernel_rfl) (by rfl) (by kernel_rfl) ?_ ?_ ?_; rotate_left 2; (focus (intro W hW; (try dsimp only at hW); go_simp; (try with_reducible rfl))); (focus (simp only [Act.put, List.setIfInBounds_toArray]; rfl)))
      (refine AnyGo.take 14 (some 75) ?_ (a' := ?_) rfl (by kernel_rfl) (fun _ _ d _ _ h => by cases d <;> exact h) (by kernel_rfl) (by rfl) (by kernel_rfl) ?_ ?_ ?_; rotate_left 2; (focus (intro W hW; (try dsimp only at hW); go_simp; (try with_reducible rfl))); (focus (simp only [Act.put, List.setIfInBounds_toArray]; rfl)))
      (refine AnyGo.skip 15 (some 76) (a' := ?_) rfl (by kernel_rfl) (fun _ _ d _ _ h => by cases d <;> exact h) (by kernel_rfl) (by rfl) (by kernel_rfl) ?_ ?_; rotate_left 1; (focus (simp only [Act.put, List.setIfInBounds_toArray]; rfl)))
      (refine AnyGo.skip 16 (some 77) (a' := ?_) rfl (by kernel_rfl) (fun _ _ d _ _ h => by cases d <;> exact h) (by kernel_rfl) (by rfl) (by kernel_rfl) ?_ ?_; rotate_left 1; (focus (simp only [Act.put, List.setIfInBounds_toArray]; rfl)))
      (refine AnyGo.skip 17 (some 78) (a' := ?_) rfl (by kernel_rfl) (fun _ _ d _ _ h => by cases d <;> exact h) (by kernel_rfl) (by rfl) (by kernel_rfl) ?_ ?_; rotate_left 1; (focus (simp only [Act.put, List.setIfInBounds_toArray]; rfl)))
      (refine AnyGo.skip 18 (some 79) (a' := ?_) rfl (by kernel_rfl) (fun _ _ d _ _ h => by cases d <;> exact h) (by kernel_rfl) (by rfl) (by kernel_rfl) ?_ ?_; rotate_left 1; (focus (simp only [Act.put, List.setIfInBounds_toArray]; rfl)))
      (refine AnyGo.skip 19 (some 80) (a' := ?_) rfl (by kernel_rfl) (fun _ _ d _ _ h => by cases d <;> exact h) (by kernel_rfl) (by rfl) (by kernel_rfl) ?_ ?_; rotate_left 1; (focus (simp only [Act.put, List.setIfInBounds_toArray]; rfl)))
      (refine AnyGo.skip 20 (some 81) (a' := ?_) rfl (by kernel_rfl) (fun _ _ d _ _ h => by cases d <;> exact h) (by kernel_rfl) (by rfl) (by kernel_rfl) ?_ ?_; rotate_left 1; (focus (simp only [Act.put, List.setIfInBounds_toArray]; rfl)))
      (refine AnyGo.take 21 (some 82) ?_ (a' := ?_) rfl (by kernel_rfl) (fun _ _ d _ _ h => by cases d <;> exact h) (by kernel_rfl) (by rfl) (by kernel_rfl) ?_ ?_ ?_; rotate_left 2; (focus (intro W hW; (try dsimp only at hW); go_simp; (try with_reducible rfl))); (focus (simp only [Act.put, List.setIfInBounds_toArray]; rfl)))
      refine AnyGo.fin (by kernel_rfl) ?_
      (try simp only [List.set_cons_succ, List.set_cons_zero])
      clear hxp hkl1 hk0 hklI hge hpl3 hfe
      have HKF : Keep (KeepsFrom w6.heap.size W (W.drew.setCell ⟨w.heap.size + 1, 0, none⟩ (.bool false))) := ⟨((KeepsOthers.drew W).trans (KeepsOthers.setCell _ _ _)).from _⟩
      gi_wp2
      exact ⟨HKF.out, .inl ⟨rfl, pre, x, rfl, fun h => HFN.out (by
        have h2 := h.2
        rw [← HY.out, ← HG.out] at h2
        injection h2 with h3 h4
        exact ⟨h3, h4⟩)⟩⟩
  case done =>
    rintro D zs W hD rfl ⟨hn, hr, hk⟩ hK
    have hsz6 := HSZ.out
    have hxl5 := HXL5.out
    have hxl := HXL.out
    have hrl5 := HRL.out
    have hcn : W.cell? ⟨w5.heap.size + 1 + 1, 0, none⟩ = some (.int .i64 (fs.length : Int)) := by rw [HFSL.out]; exact hn.cell
    have hcl : W.cell? ⟨Bx, 0, none⟩ = some (.slice o2 fs.length c2) := (hk.cell (p := ⟨Bx, 0, none⟩) (by simp only; omega) (by simp only; omega) (by simp only; omega)).trans (HXB7.out.row 0 _ rfl)
    have HBW := keep (hk.below HB7.out (by omega) (by omega) (by omega))
    have HR := keep hr
    have HK := keep hK
    have HD : Keep (w.heap.size + 1 < D) := ⟨by omega⟩
    have hDl : D < W.heap.size := (Array.getElem?_eq_some_iff.1 hK).1
    have HDL := keep hDl
    clear hn hr hk hK hD hDl hsz6 hxl5 hxl hrl5
    gi_wp2_with (refine ⟨trivial, ?_⟩; gi_at_call 9; refine (callsIn_wide.2 (live_any _)).mono ?_; rintro e1 w7 ⟨rfl, hb⟩; have HBE := keep hb; have HR8 := keep (HR.out.kept (grown_of_below hb) (by simp)); have hr8 := HR8.out.cell; have hf8 := HR8.out.frozen; clear hb hcn hcl)
    obtain ⟨hK', hc5, hB5⟩ := lawEnd HBW.out HBE.out HR8.out HK.out (by omega) HD.out
    refine ⟨by simp, .inl ⟨_, _, rfl, run_takeDeferred hK', ?_⟩⟩
    refine ⟨.bool true, ?_, rfl, hB5⟩
    simp [results, Try.f5, go_sem, hc5]
  case stop =>
    rintro D c pre W hD ⟨suf, hsuf⟩ hx hK
    rcases hx with ⟨-, ini, x, rfl, hne⟩ | ⟨rfl, hst, hn, hr, hk⟩
    · refine absurd ?_ hne
      have h1 : ys = ini ++ (x :: suf) := by rw [← hsuf]; simp
      have h2 := HZP.out.1
      rw [← HFSE.out] at h2
      have hl : ini.length < fs.length := by rw [HFSL.out, h1]; simp
      have h3 := zp_at 0 fs ini.length hl
      have h4 : (ys.map (·.1))[ini.length]? = some x.1 := by rw [h1]; simp
      rw [h2, List.getElem?_eq_getElem (by rw [zp_len]; exact hl), h3, Nat.zero_add] at h4
      have h5 := Option.some.inj h4
      rw [← h5, fa_get hl]
      exact ⟨rfl, rfl⟩
    · have hsz6 := HSZ.out
      have hxl5 := HXL5.out
      have hxl := HXL.out
      have hrl5 := HRL.out
      have hcn : W.cell? ⟨w5.heap.size + 1 + 1, 0, none⟩ = some (.int .i64 stop) := by rw [← hst]; exact hn.cell
      have hcl : W.cell? ⟨Bx, 0, none⟩ = some (.slice o2 fs.length c2) := (hk.cell (p := ⟨Bx, 0, none⟩) (by simp only; omega) (by simp only; omega) (by simp only; omega)).trans (HXB7.out.row 0 _ rfl)
      have hct : W.cell? ⟨w.heap.size, 0, none⟩ = some (.int .i64 stop) := (hk.cell (p := ⟨w.heap.size, 0, none⟩) (by simp only; omega) (by simp only; omega) (by simp only; omega)).trans HT7.out.cell
      have HBW := keep (hk.below HB7.out (by omega) (by omega) (by omega))
      have HR := keep hr
      have HK := keep hK
      have HD : Keep (w.heap.size + 1 < D) := ⟨by omega⟩
      clear hn hr hk hK hD hsz6 hxl5 hxl hrl5 hst hsuf
      by_cases hsl : stop = (fs.length : Int)
      · have hq : (stop == (fs.length : Int)) = true := by simp [hsl]
        clear hsl
        gi_wp2_with (refine ⟨trivial, ?_⟩; gi_at_call 9; refine (callsIn_wide.2 (live_any _)).mono ?_; rintro e1 w7 ⟨rfl, hb⟩; have HBE := keep hb; have HR8 := keep (HR.out.kept (grown_of_below hb) (by simp)); have hr8 := HR8.out.cell; have hf8 := HR8.out.frozen; clear hb hcn hcl)
        obtain ⟨hK', hc5, hB5⟩ := lawEnd HBW.out HBE.out HR8.out HK.out (by omega) HD.out
        refine ⟨by simp, .inl ⟨_, _, rfl, run_takeDeferred hK', ?_⟩⟩
        refine ⟨.bool true, ?_, rfl, hB5⟩
        simp [results, Try.f5, go_sem, hc5]
      · have hq : (stop == (fs.length : Int)) = false := by simp [hsl]
        clear hsl
        gi_wp2_with (refine ⟨trivial, ?_⟩; gi_at_call 9; refine (callsIn_wide.2 (live_any _)).mono ?_; rintro e1 w7 ⟨rfl, hb⟩; have HBE := keep hb; have HR8 := keep (HR.out.kept (grown_of_below hb) (by simp)); have hr8 := HR8.out.cell; have hf8 := HR8.out.frozen; clear hb hcn hcl)
        obtain ⟨hK', hc5, hB5⟩ := lawEnd HBW.out HBE.out HR8.out HK.out (by omega) HD.out
        refine ⟨by simp, .inl ⟨_, _, rfl, run_takeDeferred hK', ?_⟩⟩
        refine ⟨.bool true, ?_, rfl, hB5⟩
        simp [results, Try.f5, go_sem, hc5]
theorem walk (s : ByteArray) (stop : Int) (w : World) (_ : s.size ≤ maxLen) (_ : (Lit.int .i64 stop).wf = true) :
    Calls Try.prog 5 #[.string s, .int .i64 stop] w fun e w' => e = .returned (.bool true) ∧ Below w.heap.size w w' := by
  by_cases h : 3000 < s.size
  · exact walk_long s stop w h
  · exact walk_in s stop w (by omega)
theorem own : ownKnob Try.prog.godebug = none := by kernel_rfl
theorem laid : laidOutB Try.prog = true := by kernel_rfl

set_option maxRecDepth 100000 in
theorem lifted (os : Os) (started : os.Started) (H : Type) (enc : TypeId × Value → H) :
    ReturnsInHanded {} Try.checked os 5 .any (Rows.frameAllSpec.pre6 enc Try.prog Try.f5 Rows.frameAllRow.domain false) (Rows.frameAllSpec.post enc Try.prog Try.f5 false true false false) := by
  refine returnsInHanded_of_change (C := Try.checked) own started (by kernel_rfl) Try.func5
    (ChangeSpec.witness6 (enc := enc) (C := Try.checked) false ⟨#[], #[.string ByteArray.empty, .int .i64 0], []⟩ 8 (by kernel_rfl) (by kernel_rfl) (by kernel_rfl) (by kernel_rfl)) ?_
  intro W base args ds gs before hval0 hW hcnd _
  have hval : ∀ (j : Nat) t v, Try.f5.params[j]? = some t → args[j]? = some v → Value.okWide Try.prog W .any base t v := hval0
  have hW' := hW
  obtain ⟨p, q, hA0, hV, rfl, hfz, hnd⟩ := hW
  have hA : DataW.TrodAll enc Try.prog W 0 (fun _ => true) true Try.f5.params.toList args.toList ds p := hA0
  rw [Try.params5] at hA hval
  obtain ⟨v0, vs0, d0, ds0, p0, q0, hargs, rfl, rfl, h0, r0⟩ := trodAll_cons hA
  obtain ⟨v1, vs1, d1, ds1, p1, q1, rfl, rfl, rfl, h1, r1⟩ := trodAll_cons r0
  obtain ⟨rfl, rfl, rfl⟩ := trodAll_nil r1
  obtain rfl : args = #[v0, v1] := by cases args; simp_all
  obtain ⟨rfl, rfl⟩ := trodVars_none hV
  obtain ⟨a0, rfl, rfl, rfl, w0⟩ := open_string Try.underlying9 (hval 0 9 v0 rfl rfl) h0
  obtain ⟨a1, rfl, rfl, rfl, w1⟩ := open_int Try.underlying3 (hval 1 3 v1 rfl rfl) h1
  clear hA0 hval0
  simp only [List.append_nil] at hW'
  refine (walk a0 a1 W w0 w1).mono fun e W' ⟨he, hg⟩ => ?_
  subst he
  exact ⟨_, rfl, _, _, _, [], _, [], hW', (trodAll_cons_mk (shut_bool Try.underlying4 _) trodAll_mk0), (trodAll_cons_mk (shut_string Try.underlying9 w0) (trodAll_cons_mk (shut_int Try.underlying3 w1) trodAll_mk0)), rfl, hg.frame _, fun h => by cases h⟩

theorem over : Rows.frameAllRow.holds Try.pinned (OpenSpec.ofChange Rows.frameAllSpec) :=
  OpenClaim.holds_of_wide 5 Try.f5 rfl rfl rfl rfl rfl rfl rfl ⟨rfl, rfl, rfl, rfl, rfl⟩ rfl rfl rfl rfl rfl (by kernel_rfl) Try.func5 (by kernel_rfl)
    (of_decide_eq_true (by kernel_rfl)) (by unfold Func.isWrapper; first | (rw [if_pos (by decide +kernel)]; kernel_rfl) | (rw [if_neg (by decide +kernel)]; exact ⟨rfl, rfl⟩))
    (fun os started H enc _ => lifted os started H enc)

/-- The statement. -/
theorem proved : Rows.FrameAllSaid :=
  over
#print axioms proved
end Go.Proofs.Ytghgahcgbnpidaa.frameAll
