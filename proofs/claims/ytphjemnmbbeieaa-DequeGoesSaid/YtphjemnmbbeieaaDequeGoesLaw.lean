/-
  For all texts, every int and every text more, retracelaw05.DequeGoes answers true, and what it is given reads as before. No condition.
-/
import Derived.Test.YtphjemnmbbeieaaRows
import Derived.Test.YtphjemnmbbeieaaDequeT
namespace Go.Proofs.Ytphjemnmbbeieaa.dequeGoes
open Go.ChangeShapes Go.WideShapes Go.ChangeAt Go.RowKit Go.Shelf
open Go.ChangeMaps (open_string shut_string)
attribute [local go_sem] Oper.semAt_some

/-- The boxes of what was given. -/
structure Boxes (B : Nat) (o : Option Addr) (n c : Nat) (stop : Int) (more : ByteArray) (W : World) : Prop where
  l : Boxed W B 25 (.slice o n c)
  s : Boxed W (B + 1) 3 (.int .i64 stop)
  m : Boxed W (B + 1 + 1) 9 (.string more)
  r : Boxed W (B + 1 + 1 + 1) 4 (.bool false)
theorem Boxes.new (w : World) (o : Option Addr) (n c : Nat) (stop : Int) (more : ByteArray) : Boxes w.heap.size o n c stop more ((((w.alloc (.cells #[.slice o n c] 25)).alloc (.cells #[.int .i64 stop] 3)).alloc (.cells #[.string more] 9)).alloc (.cells #[.bool false] 4)) := by
  have b0 := Boxed.new w 25 (.slice o n c)
  have b1 := Boxed.new (w.alloc (.cells #[.slice o n c] 25)) 3 (.int .i64 stop)
  have b2 := Boxed.new ((w.alloc (.cells #[.slice o n c] 25)).alloc (.cells #[.int .i64 stop] 3)) 9 (.string more)
  have b3 := Boxed.new (((w.alloc (.cells #[.slice o n c] 25)).alloc (.cells #[.int .i64 stop] 3)).alloc (.cells #[.string more] 9)) 4 (.bool false)
  simp only [World.size_alloc] at b1 b2 b3
  exact ⟨((b0.alloc _).alloc _).alloc _, (b1.alloc _).alloc _, b2.alloc _, b3⟩
theorem Boxes.lt {B : Nat} {o : Option Addr} {n c : Nat} {stop : Int} {more : ByteArray} {W : World} (h : Boxes B o n c stop more W) : B + 1 + 1 + 1 < W.heap.size := h.r.lt
theorem Boxes.heap {B : Nat} {o : Option Addr} {n c : Nat} {stop : Int} {more : ByteArray} {W W' : World} (h : Boxes B o n c stop more W) (hk : ∀ k, B ≤ k → k < B + 1 + 1 + 1 + 1 → W'.heap[k]? = W.heap[k]?) : Boxes B o n c stop more W' :=
  ⟨(hk _ (by omega) (by omega)).trans h.l, (hk _ (by omega) (by omega)).trans h.s, (hk _ (by omega) (by omega)).trans h.m, (hk _ (by omega) (by omega)).trans h.r⟩
theorem Boxes.below {B n' : Nat} {o : Option Addr} {n c : Nat} {stop : Int} {more : ByteArray} {W W' : World} (h : Boxes B o n c stop more W) (hb : Below n' W W') (hn : B + 1 + 1 + 1 < n') : Boxes B o n c stop more W' := h.heap fun k _ _ => hb.block k (by omega)

/-- Something has come that is not there. -/
def Bad (l pre : List ByteArray) : Prop := ∃ ini x, pre = ini ++ [x] ∧ l[ini.length]? ≠ some x
theorem bad_not (l pre : List ByteArray) (h : pre <+: l) : ¬ Bad l pre := by
  rintro ⟨ini, x, rfl, hne⟩
  obtain ⟨t, rfl⟩ := h
  apply hne
  rw [List.append_assoc, List.getElem?_append_right (Nat.le_refl _), Nat.sub_self]
  rfl

/-- Between two rounds of the first going. -/
def GoI (d Bn : Nat) (r0 : Option Nat) (w6 : World) (more : ByteArray) (a0 pre : List ByteArray) (W : World) : Prop :=
  ∃ r, DQ d r (List.replicate pre.length more ++ a0) W ∧ GKept d Bn r0 r w6 W ∧ Boxed W Bn 3 (.int .i64 (pre.length : Int))
theorem GoI.own (d Bn : Nat) (r0 : Option Nat) (w6 : World) (more : ByteArray) (a0 : List ByteArray) : OwnFrom w6.heap.size (GoI d Bn r0 w6 more a0) := fun s X Y row ⟨r, hq, hk, hb⟩ hg hr =>
  ⟨r, dq_grown hq hg (fun k e => (hr k e).2), hk.row hg (fun k e => (hr k e).1), hb.kept hg (fun e' => by obtain ⟨_, o, ho, hc⟩ := hr Bn e'.symm; rw [show X.heap[Bn]? = _ from hb] at ho; cases ho; cases hc)⟩

/-- Between two rounds of the second going. -/
def GoJ (Bm : Nat) (w8 : World) (pre : List ByteArray) (W : World) : Prop := Boxed W Bm 3 (.int .i64 (pre.length : Int)) ∧ w8.grownBy W (some Bm)
theorem GoJ.own (Bm : Nat) (w8 : World) : OwnFrom w8.heap.size (GoJ Bm w8) := fun s X Y row ⟨hb, hk⟩ hg hr =>
  ⟨hb.kept hg (fun e' => by obtain ⟨_, o, ho, hc⟩ := hr Bm e'.symm; rw [show X.heap[Bm]? = _ from hb] at ho; cases ho; cases hc),
    hg.os.trans hk.os, hg.tape.trans hk.tape, hg.output.trans hk.output, Nat.le_trans hk.size hg.size, fun k h1 h2 => (hg.block k (Nat.lt_of_lt_of_le h1 hk.size) (fun e => by have := (hr k e.symm).1; omega)).trans (hk.block k h1 h2)⟩
theorem tx_rep {q j : Nat} {more : ByteArray} {a0 : List ByteArray} (h : j < q) : tx (List.replicate q more ++ a0) j = more := by
  have h1 := tx_get (l := List.replicate q more ++ a0) (i := j) (by rw [List.length_append, List.length_replicate]; omega)
  rw [List.getElem?_append_left (by rw [List.length_replicate]; exact h), List.getElem?_replicate, if_pos h] at h1
  exact (Option.some.inj h1).symm
theorem tx_app {q p : Nat} {more : ByteArray} {a0 : List ByteArray} (h : p < a0.length) : tx (List.replicate q more ++ a0) (q + p) = tx a0 p := by
  have h1 := tx_get (l := List.replicate q more ++ a0) (i := q + p) (by rw [List.length_append, List.length_replicate]; omega)
  rw [List.getElem?_append_right (by rw [List.length_replicate]; omega), List.length_replicate, Nat.add_sub_cancel_left, tx_get h] at h1
  exact (Option.some.inj h1).symm

set_option maxRecDepth 100000 in
set_option maxHeartbeats 8000000 in
theorem walk (v0 : Value) (a0 : List ByteArray) (stop : Int) (more : ByteArray) (w : World) (h0 : TxRow w.heap.size w v0 a0) (_ : (Lit.int .i64 stop).wf = true) (_ : more.size ≤ maxLen) :
    Calls Try.prog 4 #[v0, .int .i64 stop, .string more] w fun e w' => e = .returned (.bool true) ∧ Below w.heap.size w w' := by
  obtain ⟨o0, c0, rfl, hr0⟩ := h0.form
  have HR0 := keep hr0
  have hm0 := h0.room
  obtain ⟨n, hn⟩ : ∃ n, n = a0.length := ⟨_, rfl⟩
  have HN := keep hn
  rw [← hn] at hm0 HR0 ⊢
  have hnI : (n : Int) ≤ 9223372036854775807 := by omega
  have HBX0 := keep (Boxes.new w o0 n c0 stop more)
  have HBW0 := keep ((((Below.refl _ w).alloc (Nat.le_refl _) (.cells #[.slice o0 n c0] 25)).alloc (by simp) (.cells #[.int .i64 stop] 3)).alloc (by simp; omega) (.cells #[.string more] 9) |>.alloc (by simp; omega) (.cells #[.bool false] 4))
  have cl := HBX0.out.l.cell
  clear h0 hr0 hm0 hn
  by_cases hbig : (100 : Int) < (n : Int)
  · go_enter Try.func4, Try.ntmps4
    go_wp2_with fail
    refine (live_any _).mono ?_
    rintro e w4 ⟨rfl, hb⟩
    have HR4 := keep (HBX0.out.r.kept (grown_of_below hb) (by simp))
    have HB4 := keep (HBW0.out.trans (hb.mono HBW0.out.size))
    have q0 := HR4.out.cell
    have q1 := HR4.out.frozen
    have q2 := (HR4.out.set (.bool true)).cell
    clear hb
    go_wp2_with fail
    refine bodyPost_ret (v := .bool true) ?_ rfl ⟨rfl, HB4.out.setCell (p := ⟨w.heap.size + 1 + 1 + 1, 0, none⟩) (by show w.heap.size ≤ w.heap.size + 1 + 1 + 1; omega) _⟩
    simp [results, Try.results4, go_sem, q2]
  · have hn1 : (n : Int) ≤ 100 := by omega
    clear hbig hnI
    have hfn := func_nil
    refine (callsIn_wide (n := 4)).1 ?_
    refine callsIn_of_wp_marks Try.func4 rfl trivial ?_ rfl
    simp only [Try.ntmps4, List.size_toArray, List.length_cons, List.length_nil, Nat.reduceAdd, Nat.reduceSub, Array.replicate_succ, Array.replicate_zero, List.push_toArray, List.append_toArray, List.nil_append, List.cons_append]
    gi_wp2_with (refine ⟨trivial, ?_⟩; gi_at_call 8; refine (callsIn_wide.2 (live_any _)).mono ?_; rintro e1 w1 ⟨rfl, hb⟩; have HBX1 := keep (HBX0.out.below hb HBX0.out.lt); have HBW1 := keep (HBW0.out.trans (hb.mono HBW0.out.size)); clear hb)
    have HL0 := keep (LawAt.new (Below.refl _ w1))
    obtain ⟨d, hd⟩ : ∃ d, d = w1.heap.size := ⟨_, rfl⟩
    rw [← hd] at HL0 ⊢
    have HD := keep hd
    clear hd cl
    gi_loopw [8] (fun i wr => ∃ k : Nat, i = .int .i64 k ∧ k ≤ n ∧ Keep (LawAt w1 d (a0.take k) wr)) (fun i _ => n - (intOf i).toNat)
    case atStart => exact ⟨0, rfl, Nat.zero_le _, HL0⟩
    case round =>
      obtain ⟨k, rfl, hk, HK⟩ := hrel
      have HBXr := keep (HBX1.out.below HK.out.below HBX1.out.lt)
      have HBWr := keep (HBW1.out.trans (HK.out.below.mono HBW1.out.size))
      have cl := HBXr.out.l.cell
      by_cases hlt : k < n
      · obtain ⟨b, off, rfl, hb, hc⟩ := HR0.out k hlt
        have hcell := hc wr HBWr.out
        have HP := keep (HK.out.push (tx a0 k) (by rw [List.length_take]; omega))
        rw [← tx_take (by have := HN.out; omega)] at HP
        have hltI : (k : Int) < n := by omega
        clear hc hb
        generalize tx a0 k = x at *
        gi_wp2_with (refine ⟨trivial, ?_⟩; gi_at_call 9; refine (callsIn_wide.2 HP.out).mono ?_; rintro e w2 ⟨rfl, hq⟩; have HK2 := keep hq; clear hq hcell cl)
        go_roundw
        case rel => exact ⟨k + 1, by go_num, by omega, HK2⟩
        case measure => simp [intOf]; omega
      · obtain rfl : n = k := by omega
        have HK1 : Keep (LawAt w1 d a0 wr) := ⟨by have := HK.out; rw [HN.out, List.take_length] at this; exact this⟩
        clear HK hk hlt
        gi_wp2_with (refine ⟨trivial, ?_⟩; gi_at_call 20; refine (callsIn_wide.2 (allf_any _ _)).mono ?_; rintro e1 w' ⟨rfl, rfl⟩)
        obtain ⟨r0, hq0, hrb⟩ := HK1.out.out
        have hb6 : Below wr.heap.size wr ((wr.alloc (.cells #[.pointer (some ⟨d, 0, none⟩)] 47)).alloc (.cells #[.int .i64 0] 3)) := ((Below.refl _ wr).alloc (Nat.le_refl _) _).alloc (by simp) _
        have hp6 := (Boxed.new wr 47 (.pointer (some ⟨d, 0, none⟩))).alloc (.cells #[.int .i64 0] 3)
        have hn6 := Boxed.new (wr.alloc (.cells #[.pointer (some ⟨d, 0, none⟩)] 47)) 3 (.int .i64 0)
        rw [World.size_alloc] at hn6
        have HSZ : Keep (((wr.alloc (.cells #[.pointer (some ⟨d, 0, none⟩)] 47)).alloc (.cells #[.int .i64 0] 3)).heap.size = wr.heap.size + 2) := ⟨by simp⟩
        have HBX6 := keep (HBXr.out.below hb6 HBXr.out.lt)
        have HBW6 := keep (HBWr.out.trans (hb6.mono HBWr.out.size))
        have HQ6 := keep (hq0.below hb6)
        have HRB : Keep (∀ g, r0 = some g → w.heap.size + 1 + 1 + 1 < g ∧ g < wr.heap.size) := ⟨fun g e => ⟨Nat.lt_of_lt_of_le HBX1.out.lt (hrb g e), (hq0.rlt g e).1⟩⟩
        have HDB : Keep (w.heap.size + 1 + 1 + 1 < d ∧ d < wr.heap.size) := ⟨⟨by rw [HD.out]; exact HBX1.out.lt, hq0.lt⟩⟩
        have HP6 := keep hp6
        have HN6 := keep hn6
        clear hb6 hp6 hn6 hq0 hrb cl HK1 HL0 HBXr HBWr HBX1 HBW1 HBX0 HBW0 HD
        generalize (wr.alloc (.cells #[.pointer (some ⟨d, 0, none⟩)] 47)).alloc (.cells #[.int .i64 0] 3) = w6 at *
        generalize wr.heap.size = Bs at *
        refine range_texts 2 37 11 d Bs (some ⟨d, 0, none⟩) a0 (by have := HN.out; omega) rfl (.inr ⟨rfl, r0, HQ6.out⟩) HP6.out (by have := HDB.out; have := HSZ.out; omega)
          (GoI d (Bs + 1) r0 w6 more a0) (GoI.own _ _ _ _ _ _) ⟨r0, HQ6.out, GKept.refl _ _ _ _, HN6.out⟩ (Bad a0) (fun pre => (pre.length : Int) = stop) (bad_not a0) ?assign ?body ?rest
        case assign =>
          intro L x W K hK
          unfold asg1 at hK
          simp only [List.setIfInBounds_toArray, List.set_cons_succ, List.set_cons_zero] at hK
          gi_wp2
          exact hK
        case body =>
          rintro L pre x W ⟨r, hq, hk, hn⟩ hlt
          unfold asg1
          simp only [List.setIfInBounds_toArray, List.set_cons_succ, List.set_cons_zero]
          have hsz := HSZ.out
          have hdb := HDB.out
          have hrb := HRB.out
          have hbx : Boxes w.heap.size o0 n c0 stop more W := HBX6.out.heap fun k h1 h2 => hk.block k (by omega) (by omega) (by omega) (fun e => by have := (hrb k e).1; omega)
          have hbw : Below w.heap.size w W := hk.below HBW6.out (by omega) (by omega) (fun k e => by have := (hrb k e).1; omega) HBW6.out.size
          have hlt' : pre.length < n := by rw [HN.out]; exact hlt
          obtain ⟨b, off, ho, hb, hc⟩ := HR0.out pre.length hlt'
          have hcell := hc W hbw
          have cl := hbx.l.cell
          rw [ho] at cl
          have cs := hbx.s.cell
          have cm := hbx.m.cell
          have cr := hbx.r.cell
          have cn := hn.cell
          have fr := hbx.r.frozen
          have fn := hn.frozen
          have HE : Keep (a0[pre.length]? = some (tx a0 pre.length)) := ⟨tx_get hlt⟩
          have HLEN : Keep ((List.replicate pre.length more ++ a0).length ≤ 1000) := ⟨by rw [List.length_append, List.length_replicate]; have := HN.out; omega⟩
          have HSH := keep (shove_any d r _ more W hq HLEN.out)
          have HQ := keep hq
          have HK := keep hk
          have HNB := keep hn
          have HBX := keep hbx
          obtain ⟨q, hqq⟩ : ∃ q, q = pre.length := ⟨_, rfl⟩
          have HQQ := keep hqq
          have hltI : (q : Int) < (n : Int) := by omega
          rw [← hqq] at hcell cn
          clear hq hk hn hbx hbw hlt hlt' hc hb ho hsz hdb hrb hqq
          by_cases hx : x = tx a0 pre.length
          · rw [HQQ.out] at hcell
            rw [← hx] at hcell
            rw [← HQQ.out] at hcell
            have HX := keep hx
            clear hx
            have HFW : Keep (∀ w2 r', DKept d r r' W w2 → w2.cell? ⟨Bs + 1, 0, none⟩ = some (.int .i64 (q : Int)) ∧ w2.frozen? ⟨Bs + 1, 0, none⟩ = false ∧ w2.cell? ⟨w.heap.size + 1, 0, none⟩ = some (.int .i64 stop) ∧ (w2.setCell ⟨Bs + 1, 0, none⟩ (.int .i64 ((q : Int) + 1))).cell? ⟨Bs + 1, 0, none⟩ = some (.int .i64 ((q : Int) + 1)) ∧ (w2.setCell ⟨Bs + 1, 0, none⟩ (.int .i64 ((q : Int) + 1))).cell? ⟨w.heap.size + 1, 0, none⟩ = some (.int .i64 stop) ∧ Boxed (w2.setCell ⟨Bs + 1, 0, none⟩ (.int .i64 ((q : Int) + 1))) (Bs + 1) 3 (.int .i64 ((q : Int) + 1))) := ⟨fun w2 r' hk' => by
              have hsz := HSZ.out
              have hdb := HDB.out
              have hrb := HRB.out
              have hnr : ∀ g, r = some g → (w.heap.size + 1 + 1 + 1 < g ∧ g < Bs) ∨ Bs + 2 ≤ g := fun g e => by
                rcases HK.out.ring g e with e | e
                · exact .inl (hrb g e)
                · exact .inr (by omega)
              have hn2 : Boxed w2 (Bs + 1) 3 (.int .i64 (q : Int)) := by
                have h1 := HNB.out
                rw [← HQQ.out] at h1
                exact (hk'.block _ h1.lt (by omega) (fun e => by have := hnr _ e; omega)).trans h1
              have hs2 : Boxed w2 (w.heap.size + 1) 3 (.int .i64 stop) := (hk'.block _ HBX.out.s.lt (by omega) (fun e => by have := hnr _ e; omega)).trans HBX.out.s
              exact ⟨hn2.cell, hn2.frozen, hs2.cell, (hn2.set _).cell, (hs2.other (by omega) _).cell, hn2.set _⟩⟩
            have HPRE : Keep ((pre ++ [x]).length = q + 1) := ⟨by rw [List.length_append, HQQ.out]; rfl⟩
            have HEND : Keep (∀ w2 r', DQ d r' (more :: (List.replicate pre.length more ++ a0)) w2 → DKept d r r' W w2 → KeepsFrom w6.heap.size W (w2.setCell ⟨Bs + 1, 0, none⟩ (.int .i64 ((q : Int) + 1))) ∧ KpD d w6.heap.size W (w2.setCell ⟨Bs + 1, 0, none⟩ (.int .i64 ((q : Int) + 1))) ∧ GoI d (Bs + 1) r0 w6 more a0 (pre ++ [x]) (w2.setCell ⟨Bs + 1, 0, none⟩ (.int .i64 ((q : Int) + 1)))) := ⟨fun w2 r' hq' hk' => by
              have hsz := HSZ.out
              have hdb := HDB.out
              have hnr' : r' ≠ some (Bs + 1) := fun e => by
                have h1 := hq'.rlt _ e
                rcases hk'.ring _ e with e | e
                · rcases HK.out.ring _ e with e | e
                  · have := HRB.out _ e; omega
                  · omega
                · have := HNB.out.lt; omega
              refine ⟨((hk'.others HQ.out).trans (KeepsOthers.setCell _ _ _)).from _, (hk'.kpd HQ.out hq' (by omega)).trans (KpD.set (by omega) (by omega) _ _), r', ?_, (HK.out.step hk').set _, ?_⟩
              · rw [HPRE.out, List.replicate_succ, HQQ.out]
                exact hq'.heap (heap_setCell_other _ _ _ _ (by show d ≠ Bs + 1; omega)) (fun g e => heap_setCell_other _ _ _ _ (fun e' => hnr' (by rw [e, show g = Bs + 1 from e'])))
              · rw [HPRE.out]
                have := (HFW.out w2 r' hk').2.2.2.2.2
                simpa using this⟩
            have HPL : Keep (((pre ++ [x]).length : Int) = (q : Int) + 1) := ⟨by rw [HPRE.out]; omega⟩
            by_cases hst : (q : Int) + 1 = stop
            · have hsb : ((q : Int) + 1 == stop) = true := by simp [hst]
              have HST := keep hst
              clear hst
              gi_wp2_with (refine ⟨trivial, ?_⟩; gi_at_call 10; refine (CallsIn.inRound L (callsIn_wide.2 HSH.out)).mono ?_; rintro e w2 ⟨rfl, r', hq', hk'⟩; have HQ2 := keep hq'; have HK2 := keep hk'; have HF2 := keep (HFW.out w2 r' hk'); clear hq' hk' cl cs cm cr cn fr fn hcell; obtain ⟨cn2, fn2, cs2, cn3, cs3, -⟩ := HF2.out)
              obtain ⟨h1, h2, h3⟩ := HEND.out w2 r' HQ2.out HK2.out
              exact ⟨h1, .inr ⟨rfl, by show ((pre ++ [x]).length : Int) = stop; rw [HPL.out]; exact HST.out, h3⟩⟩
            · have hsb : ((q : Int) + 1 == stop) = false := by simp [hst]
              clear hst
              gi_wp2_with (refine ⟨trivial, ?_⟩; gi_at_call 10; refine (CallsIn.inRound L (callsIn_wide.2 HSH.out)).mono ?_; rintro e w2 ⟨rfl, r', hq', hk'⟩; have HQ2 := keep hq'; have HK2 := keep hk'; have HF2 := keep (HFW.out w2 r' hk'); clear hq' hk' cl cs cm cr cn fr fn hcell; obtain ⟨cn2, fn2, cs2, cn3, cs3, -⟩ := HF2.out)
              exact HEND.out w2 r' HQ2.out HK2.out
          · have hbn := beq_no hx
            have HX := keep hx
            clear hx
            rw [HQQ.out] at hcell cn hltI
            generalize tx a0 pre.length = y at *
            gi_wp2
            exact ⟨(KeepsOthers.setCell _ _ _).from _, .inl ⟨rfl, pre, x, rfl, fun h => HX.out (by rw [HE.out] at h; exact (Option.some.inj h).symm)⟩⟩
        case rest =>
          rintro D pre W hD hle hT ⟨r, hq, hk, hn⟩ hDK
          have hsz := HSZ.out
          have hdb := HDB.out
          have hrb := HRB.out
          have hbx : Boxes w.heap.size o0 n c0 stop more W := HBX6.out.heap fun k h1 h2 => hk.block k (by omega) (by omega) (by omega) (fun e => by have := (hrb k e).1; omega)
          have hbw : Below w.heap.size w W := hk.below HBW6.out (by omega) (by omega) (fun k e => by have := (hrb k e).1; omega) HBW6.out.size
          have hps : Boxed W Bs 47 (.pointer (some ⟨d, 0, none⟩)) := (hk.block Bs (by omega) (by omega) (by omega) (fun e => by have := (hrb Bs e).2; omega)).trans HP6.out
          obtain ⟨q, hqq⟩ : ∃ q, q = pre.length := ⟨_, rfl⟩
          rw [← hqq] at hq hn hle hT
          obtain ⟨l2, hl2⟩ : ∃ l2, l2 = List.replicate q more ++ a0 := ⟨_, rfl⟩
          rw [← hl2] at hq
          have HL2 := keep hl2
          have HZ : Keep (l2.length = n + q) := ⟨by rw [hl2, List.length_append, List.length_replicate, HN.out, Nat.add_comm]⟩
          have HLEN : Keep (∀ W', DQ d r l2 W' → Calls Try.prog 19 #[.pointer (some ⟨d, 0, none⟩)] W' fun e w' => e = .returned (.int .i64 ((n : Int) + (q : Int))) ∧ W' = w') := ⟨fun W' h' => by
            obtain ⟨o, m, f, hb, _⟩ := h'.box
            have := len_any d l2.length W' hb.cells.2.2.1
            rw [HZ.out] at this
            simpa using this⟩
          have hqI : (q : Int) ≤ (n : Int) := by have := HN.out; omega
          have hq0 : (0 : Int) ≤ (q : Int) := by omega
          have HT : Keep ((q : Int) = (n : Int) ∨ ((q : Int) ≠ (n : Int) ∧ (q : Int) = stop)) := ⟨by
            by_cases e : (q : Int) = (n : Int)
            · exact .inl e
            · rcases hT with h | h
              · exact absurd (by rw [h, HN.out]) e
              · exact .inr ⟨e, h⟩⟩
          have cl := hbx.l.cell
          have cs := hbx.s.cell
          have cn := hn.cell
          have HQ := keep hq
          have HNB := keep hn
          have HBX := keep hbx
          have HBW := keep hbw
          have HPS := keep hps
          have HDK := keep hDK
          have HRL : Keep (w.heap.size + 1 + 1 + 1 < d ∧ d < Bs ∧ Bs + 2 ≤ D) := ⟨by omega⟩
          clear hq hk hn hbx hbw hps hDK hD hle hT hqq hl2 hsz hdb hrb
          gi_wp2
          have hne : ¬ (Bs + 1 = w.heap.size) := by have := HRL.out; omega
          have hwq : IntKind.i64.wrap ((n : Int) + (q : Int)) = (n : Int) + (q : Int) := IntWalk.i64_in _ ⟨by omega, by omega⟩
          rcases HT.out with hc | ⟨hc1, hc2⟩
          focus
            have hqn : ((q : Int) != (n : Int)) = false := by simp [hc]
            have HC := keep hc
            clear hc
            refine AnyGo.regionM (fun W' => W'.cell? ⟨Bs + 1, 0, none⟩ = some (.int .i64 (q : Int)) ∧ W'.cell? ⟨w.heap.size, 0, none⟩ = some (.slice o0 n c0) ∧ W'.cell? ⟨w.heap.size + 1, 0, none⟩ = some (.int .i64 stop)) (by kernel_rfl) (by rfl) ⟨cn, cl, cs⟩ ?_
            intro wd ewd
            subst ewd
            (refine AnyGo.take 0 (some 57) ?_ (a' := ?_) rfl (by kernel_rfl) (fun _ _ d _ _ h => by cases d <;> exact h) (by kernel_rfl) (by rfl) (by kernel_rfl) ?_ ?_ ?_; rotate_left 2; (focus (intro W hW; (try dsimp only at hW); go_simp; (try with_reducible rfl))); (focus (simp only [Act.put, List.setIfInBounds_toArray]; rfl)))
            (refine AnyGo.take 1 (some 58) ?_ (a' := ?_) rfl (by kernel_rfl) (fun _ _ d _ _ h => by cases d <;> exact h) (by kernel_rfl) (by rfl) (by kernel_rfl) ?_ ?_ ?_; rotate_left 2; (focus (intro W hW; (try dsimp only at hW); go_simp; (try with_reducible rfl))); (focus (simp only [Act.put, List.setIfInBounds_toArray]; rfl)))
            (refine AnyGo.take 2 (some 59) ?_ (a' := ?_) rfl (by kernel_rfl) (fun _ _ d _ _ h => by cases d <;> exact h) (by kernel_rfl) (by rfl) (by kernel_rfl) ?_ ?_ ?_; rotate_left 2; (focus (intro W hW; (try dsimp only at hW); go_simp; (try with_reducible rfl))); (focus (simp only [Act.put, List.setIfInBounds_toArray]; rfl)))
            (refine AnyGo.take 3 (some 60) ?_ (a' := ?_) rfl (by kernel_rfl) (fun _ _ d _ _ h => by cases d <;> exact h) (by kernel_rfl) (by rfl) (by kernel_rfl) ?_ ?_ ?_; rotate_left 2; (focus (intro W hW; (try dsimp only at hW); go_simp; (try with_reducible rfl))); (focus (simp only [Act.put, List.setIfInBounds_toArray]; rfl)))
            (refine AnyGo.take 4 (some 61) ?_ (a' := ?_) rfl (by kernel_rfl) (fun _ _ d _ _ h => by cases d <;> exact h) (by kernel_rfl) (by rfl) (by kernel_rfl) ?_ ?_ ?_; rotate_left 2; (focus (intro W hW; (try dsimp only at hW); go_simp; (try with_reducible rfl))); (focus (simp only [Act.put, List.setIfInBounds_toArray]; rfl)))
            (refine AnyGo.skip 5 (some 62) (a' := ?_) rfl (by kernel_rfl) (fun _ _ d _ _ h => by cases d <;> exact h) (by kernel_rfl) (by rfl) (by kernel_rfl) ?_ ?_; rotate_left 1; (focus (simp only [Act.put, List.setIfInBounds_toArray]; rfl)))
            (refine AnyGo.skip 6 (some 63) (a' := ?_) rfl (by kernel_rfl) (fun _ _ d _ _ h => by cases d <;> exact h) (by kernel_rfl) (by rfl) (by kernel_rfl) ?_ ?_; rotate_left 1; (focus (simp only [Act.put, List.setIfInBounds_toArray]; rfl)))
            (refine AnyGo.skip 7 (some 64) (a' := ?_) rfl (by kernel_rfl) (fun _ _ d _ _ h => by cases d <;> exact h) (by kernel_rfl) (by rfl) (by kernel_rfl) ?_ ?_; rotate_left 1; (focus (simp only [Act.put, List.setIfInBounds_toArray]; rfl)))
            (refine AnyGo.take 8 (some 65) ?_ (a' := ?_) rfl (by kernel_rfl) (fun _ _ d _ _ h => by cases d <;> exact h) (by kernel_rfl) (by rfl) (by kernel_rfl) ?_ ?_ ?_; rotate_left 2; (focus (intro W hW; (try dsimp only at hW); go_simp; (try with_reducible rfl))); (focus (simp only [Act.put, List.setIfInBounds_toArray]; rfl)))
            (refine AnyGo.take 9 (some 66) ?_ (a' := ?_) rfl (by kernel_rfl) (fun _ _ d _ _ h => by cases d <;> exact h) (by kernel_rfl) (by rfl) (by kernel_rfl) ?_ ?_ ?_; rotate_left 2; (focus (intro W hW; (try dsimp only at hW); go_simp; (try with_reducible rfl))); (focus (simp only [Act.put, List.setIfInBounds_toArray]; rfl)))
            (refine AnyGo.take 11 (some 68) ?_ (a' := ?_) rfl (by kernel_rfl) (fun _ _ d _ _ h => by cases d <;> exact h) (by kernel_rfl) (by rfl) (by kernel_rfl) ?_ ?_ ?_; rotate_left 2; (focus (intro W hW; (try dsimp only at hW); go_simp; (try with_reducible rfl))); (focus (simp only [Act.put, List.setIfInBounds_toArray]; rfl)))
            (refine AnyGo.take 12 (some 69) ?_ (a' := ?_) rfl (by kernel_rfl) (fun _ _ d _ _ h => by cases d <;> exact h) (by kernel_rfl) (by rfl) (by kernel_rfl) ?_ ?_ ?_; rotate_left 2; (focus (intro W hW; (try dsimp only at hW); go_simp; (try with_reducible rfl))); (focus (simp only [Act.put, List.setIfInBounds_toArray]; rfl)))
            (refine AnyGo.take 13 (some 70) ?_ (a' := ?_) rfl (by kernel_rfl) (fun _ _ d _ _ h => by cases d <;> exact h) (by kernel_rfl) (by rfl) (by kernel_rfl) ?_ ?_ ?_; rotate_left 2; (focus (intro W hW; (try dsimp only at hW); go_simp; (try with_reducible rfl))); (focus (simp only [Act.put, List.setIfInBounds_toArray]; rfl)))
            (refine AnyGo.take 14 (some 71) ?_ (a' := ?_) rfl (by kernel_rfl) (fun _ _ d _ _ h => by cases d <;> exact h) (by kernel_rfl) (by rfl) (by kernel_rfl) ?_ ?_ ?_; rotate_left 2; (focus (intro W hW; (try dsimp only at hW); go_simp; (try with_reducible rfl))); (focus (simp only [Act.put, List.setIfInBounds_toArray]; rfl)))
            refine AnyGo.one (i := 10) (by kernel_rfl) rfl (by kernel_rfl) (fun K' hK' => ?_)
            go_simp
            refine (HLEN.out W.drew HQ.out.drew).mono ?_
            rintro e w' ⟨rfl, rfl⟩
            refine hK'.out _ _ ⟨cn, cl, cs⟩ ?_
            clear hK' K'
            (try simp only [Act.put, List.setIfInBounds_toArray])
            (refine AnyGo.take 15 (some 72) ?_ (a' := ?_) rfl (by kernel_rfl) (fun _ _ d _ _ h => by cases d <;> exact h) (by kernel_rfl) (by rfl) (by kernel_rfl) ?_ ?_ ?_; rotate_left 2; (focus (intro W hW; (try dsimp only at hW); go_simp; (try with_reducible rfl))); (focus (simp only [Act.put, List.setIfInBounds_toArray]; rfl)))
            (refine AnyGo.take 16 (some 73) ?_ (a' := ?_) rfl (by kernel_rfl) (fun _ _ d _ _ h => by cases d <;> exact h) (by kernel_rfl) (by rfl) (by kernel_rfl) ?_ ?_ ?_; rotate_left 2; (focus (intro W hW; (try dsimp only at hW); go_simp; (try with_reducible rfl))); (focus (simp only [Act.put, List.setIfInBounds_toArray]; rfl)))
            refine AnyGo.fin (by kernel_rfl) ?_
            (try simp only [List.set_cons_succ, List.set_cons_zero])
            refine calm_normal ?_
          rotate_left 1
          focus
            have hqn : ((q : Int) != (n : Int)) = true := by simp [hc1]
            have hqs : ((q : Int) != stop) = false := by simp [hc2]
            have HC := keep hc2
            clear hc1 hc2
            refine AnyGo.regionM (fun W' => W'.cell? ⟨Bs + 1, 0, none⟩ = some (.int .i64 (q : Int)) ∧ W'.cell? ⟨w.heap.size, 0, none⟩ = some (.slice o0 n c0) ∧ W'.cell? ⟨w.heap.size + 1, 0, none⟩ = some (.int .i64 stop)) (by kernel_rfl) (by rfl) ⟨cn, cl, cs⟩ ?_
            intro wd ewd
            subst ewd
            (refine AnyGo.take 0 (some 57) ?_ (a' := ?_) rfl (by kernel_rfl) (fun _ _ d _ _ h => by cases d <;> exact h) (by kernel_rfl) (by rfl) (by kernel_rfl) ?_ ?_ ?_; rotate_left 2; (focus (intro W hW; (try dsimp only at hW); go_simp; (try with_reducible rfl))); (focus (simp only [Act.put, List.setIfInBounds_toArray]; rfl)))
            (refine AnyGo.take 1 (some 58) ?_ (a' := ?_) rfl (by kernel_rfl) (fun _ _ d _ _ h => by cases d <;> exact h) (by kernel_rfl) (by rfl) (by kernel_rfl) ?_ ?_ ?_; rotate_left 2; (focus (intro W hW; (try dsimp only at hW); go_simp; (try with_reducible rfl))); (focus (simp only [Act.put, List.setIfInBounds_toArray]; rfl)))
            (refine AnyGo.take 2 (some 59) ?_ (a' := ?_) rfl (by kernel_rfl) (fun _ _ d _ _ h => by cases d <;> exact h) (by kernel_rfl) (by rfl) (by kernel_rfl) ?_ ?_ ?_; rotate_left 2; (focus (intro W hW; (try dsimp only at hW); go_simp; (try with_reducible rfl))); (focus (simp only [Act.put, List.setIfInBounds_toArray]; rfl)))
            (refine AnyGo.take 3 (some 60) ?_ (a' := ?_) rfl (by kernel_rfl) (fun _ _ d _ _ h => by cases d <;> exact h) (by kernel_rfl) (by rfl) (by kernel_rfl) ?_ ?_ ?_; rotate_left 2; (focus (intro W hW; (try dsimp only at hW); go_simp; (try with_reducible rfl))); (focus (simp only [Act.put, List.setIfInBounds_toArray]; rfl)))
            (refine AnyGo.take 4 (some 61) ?_ (a' := ?_) rfl (by kernel_rfl) (fun _ _ d _ _ h => by cases d <;> exact h) (by kernel_rfl) (by rfl) (by kernel_rfl) ?_ ?_ ?_; rotate_left 2; (focus (intro W hW; (try dsimp only at hW); go_simp; (try with_reducible rfl))); (focus (simp only [Act.put, List.setIfInBounds_toArray]; rfl)))
            (refine AnyGo.take 5 (some 62) ?_ (a' := ?_) rfl (by kernel_rfl) (fun _ _ d _ _ h => by cases d <;> exact h) (by kernel_rfl) (by rfl) (by kernel_rfl) ?_ ?_ ?_; rotate_left 2; (focus (intro W hW; (try dsimp only at hW); go_simp; (try with_reducible rfl))); (focus (simp only [Act.put, List.setIfInBounds_toArray]; rfl)))
            (refine AnyGo.take 6 (some 63) ?_ (a' := ?_) rfl (by kernel_rfl) (fun _ _ d _ _ h => by cases d <;> exact h) (by kernel_rfl) (by rfl) (by kernel_rfl) ?_ ?_ ?_; rotate_left 2; (focus (intro W hW; (try dsimp only at hW); go_simp; (try with_reducible rfl))); (focus (simp only [Act.put, List.setIfInBounds_toArray]; rfl)))
            (refine AnyGo.take 7 (some 64) ?_ (a' := ?_) rfl (by kernel_rfl) (fun _ _ d _ _ h => by cases d <;> exact h) (by kernel_rfl) (by rfl) (by kernel_rfl) ?_ ?_ ?_; rotate_left 2; (focus (intro W hW; (try dsimp only at hW); go_simp; (try with_reducible rfl))); (focus (simp only [Act.put, List.setIfInBounds_toArray]; rfl)))
            (refine AnyGo.take 8 (some 65) ?_ (a' := ?_) rfl (by kernel_rfl) (fun _ _ d _ _ h => by cases d <;> exact h) (by kernel_rfl) (by rfl) (by kernel_rfl) ?_ ?_ ?_; rotate_left 2; (focus (intro W hW; (try dsimp only at hW); go_simp; (try with_reducible rfl))); (focus (simp only [Act.put, List.setIfInBounds_toArray]; rfl)))
            (refine AnyGo.take 9 (some 66) ?_ (a' := ?_) rfl (by kernel_rfl) (fun _ _ d _ _ h => by cases d <;> exact h) (by kernel_rfl) (by rfl) (by kernel_rfl) ?_ ?_ ?_; rotate_left 2; (focus (intro W hW; (try dsimp only at hW); go_simp; (try with_reducible rfl))); (focus (simp only [Act.put, List.setIfInBounds_toArray]; rfl)))
            (refine AnyGo.take 11 (some 68) ?_ (a' := ?_) rfl (by kernel_rfl) (fun _ _ d _ _ h => by cases d <;> exact h) (by kernel_rfl) (by rfl) (by kernel_rfl) ?_ ?_ ?_; rotate_left 2; (focus (intro W hW; (try dsimp only at hW); go_simp; (try with_reducible rfl))); (focus (simp only [Act.put, List.setIfInBounds_toArray]; rfl)))
            (refine AnyGo.take 12 (some 69) ?_ (a' := ?_) rfl (by kernel_rfl) (fun _ _ d _ _ h => by cases d <;> exact h) (by kernel_rfl) (by rfl) (by kernel_rfl) ?_ ?_ ?_; rotate_left 2; (focus (intro W hW; (try dsimp only at hW); go_simp; (try with_reducible rfl))); (focus (simp only [Act.put, List.setIfInBounds_toArray]; rfl)))
            (refine AnyGo.take 13 (some 70) ?_ (a' := ?_) rfl (by kernel_rfl) (fun _ _ d _ _ h => by cases d <;> exact h) (by kernel_rfl) (by rfl) (by kernel_rfl) ?_ ?_ ?_; rotate_left 2; (focus (intro W hW; (try dsimp only at hW); go_simp; (try with_reducible rfl))); (focus (simp only [Act.put, List.setIfInBounds_toArray]; rfl)))
            (refine AnyGo.take 14 (some 71) ?_ (a' := ?_) rfl (by kernel_rfl) (fun _ _ d _ _ h => by cases d <;> exact h) (by kernel_rfl) (by rfl) (by kernel_rfl) ?_ ?_ ?_; rotate_left 2; (focus (intro W hW; (try dsimp only at hW); go_simp; (try with_reducible rfl))); (focus (simp only [Act.put, List.setIfInBounds_toArray]; rfl)))
            refine AnyGo.one (i := 10) (by kernel_rfl) rfl (by kernel_rfl) (fun K' hK' => ?_)
            go_simp
            refine (HLEN.out W.drew HQ.out.drew).mono ?_
            rintro e w' ⟨rfl, rfl⟩
            refine hK'.out _ _ ⟨cn, cl, cs⟩ ?_
            clear hK' K'
            (try simp only [Act.put, List.setIfInBounds_toArray])
            (refine AnyGo.take 15 (some 72) ?_ (a' := ?_) rfl (by kernel_rfl) (fun _ _ d _ _ h => by cases d <;> exact h) (by kernel_rfl) (by rfl) (by kernel_rfl) ?_ ?_ ?_; rotate_left 2; (focus (intro W hW; (try dsimp only at hW); go_simp; (try with_reducible rfl))); (focus (simp only [Act.put, List.setIfInBounds_toArray]; rfl)))
            (refine AnyGo.take 16 (some 73) ?_ (a' := ?_) rfl (by kernel_rfl) (fun _ _ d _ _ h => by cases d <;> exact h) (by kernel_rfl) (by rfl) (by kernel_rfl) ?_ ?_ ?_; rotate_left 2; (focus (intro W hW; (try dsimp only at hW); go_simp; (try with_reducible rfl))); (focus (simp only [Act.put, List.setIfInBounds_toArray]; rfl)))
            refine AnyGo.fin (by kernel_rfl) ?_
            (try simp only [List.set_cons_succ, List.set_cons_zero])
            refine calm_normal ?_
          all_goals
            clear cl cs cn HC
            gi_wp2
            have hb8 : Below W.heap.size W (W.alloc (.cells #[.int .i64 0] 3)).drew := ((Below.refl _ W).alloc (Nat.le_refl _) _).drew
            have hm8 : Boxed (W.alloc (.cells #[.int .i64 0] 3)).drew W.heap.size 3 (.int .i64 0) := Boxed.new W 3 (.int .i64 0)
            have HSZ8 : Keep ((W.alloc (.cells #[.int .i64 0] 3)).drew.heap.size = W.heap.size + 1) := ⟨by show (W.alloc _).heap.size = _; simp⟩
            have HBX8 := keep (HBX.out.below hb8 HBX.out.lt)
            have HBW8 := keep (HBW.out.trans (hb8.mono HBW.out.size))
            have HQ8 := keep (HQ.out.below hb8)
            have HNB8 : Keep (Boxed (W.alloc (.cells #[.int .i64 0] 3)).drew (Bs + 1) 3 (.int .i64 (q : Int))) := ⟨(hb8.block _ HNB.out.lt).trans HNB.out⟩
            have HPS8 : Keep (Boxed (W.alloc (.cells #[.int .i64 0] 3)).drew Bs 47 (.pointer (some ⟨d, 0, none⟩))) := ⟨(hb8.block _ HPS.out.lt).trans HPS.out⟩
            have HDL : Keep (D < W.heap.size) := ⟨(Array.getElem?_eq_some_iff.1 HDK.out).1⟩
            have HDK8 : Keep ((W.alloc (.cells #[.int .i64 0] 3)).drew.heap[D]? = some (.deferred (some []))) := ⟨(hb8.block _ HDL.out).trans HDK.out⟩
            have HRG : Keep (∀ g, r = some g → g < W.heap.size) := ⟨fun g e => (HQ.out.rlt g e).1⟩
            have HM8 := keep hm8
            clear hb8 hm8 HBX HBW HQ HNB HPS HDK HBX6 HBW6 HQ6 HP6 HN6 HRB HDB HSZ hqn
            generalize (W.alloc (.cells #[.int .i64 0] 3)).drew = w8 at *
            generalize W.heap.size = Bm at *
            refine range_texts 4 75 13 d Bs (some ⟨d, 0, none⟩) l2 (by have := HZ.out; omega) rfl (.inr ⟨rfl, r, HQ8.out⟩) HPS8.out (by have := HRL.out; have := HDL.out; have := HSZ8.out; omega)
              (GoJ Bm w8) (GoJ.own _ _) ⟨HM8.out, grownBy_refl _ _⟩ (Bad l2) (fun _ => False) (bad_not l2) ?assign ?body ?rest
            case assign =>
              intro L x W K hK
              unfold asg1 at hK
              simp only [List.setIfInBounds_toArray, List.set_cons_succ, List.set_cons_zero] at hK
              gi_wp2
              exact hK
            case body =>
              rintro L pre x W2 ⟨hm, hg⟩ hlt
              unfold asg1
              simp only [List.setIfInBounds_toArray, List.set_cons_succ, List.set_cons_zero]
              have hsz := HSZ8.out
              have hrl := HRL.out
              have hdl := HDL.out
              have hbx : Boxes w.heap.size o0 n c0 stop more W2 := HBX8.out.heap fun k h1 h2 => hg.block k (by omega) (fun e => by injection e with e; omega)
              have hnb : Boxed W2 (Bs + 1) 3 (.int .i64 (q : Int)) := (hg.block _ (by omega) (fun e => by injection e with e; omega)).trans HNB8.out
              have hbw : Below w.heap.size w W2 := HBW8.out.trans ⟨hg.os, hg.tape, hg.output, hg.size, fun k hk => hg.block k (by omega) (fun e => by injection e with e; omega)⟩
              obtain ⟨j, hj⟩ : ∃ j, j = pre.length := ⟨_, rfl⟩
              have HE0 := tx_get hlt
              rw [← hj] at hm hlt HE0
              rw [HZ.out] at hlt
              have hlt' := hlt
              have HBW2 := keep hbw
              have cl := hbx.l.cell
              have cm := hbx.m.cell
              have cr := hbx.r.cell
              have fr := hbx.r.frozen
              have cn := hnb.cell
              have cj := hm.cell
              have fj := hm.frozen
              have hwj : IntKind.i64.wrap ((j : Int) + 1) = (j : Int) + 1 := IntWalk.i64_in _ ⟨by omega, by omega⟩
              have HJE : Keep (GoJ Bm w8 (pre ++ [x]) (W2.setCell ⟨Bm, 0, none⟩ (.int .i64 ((j : Int) + 1)))) := ⟨by
                refine ⟨?_, grownBy_trans hg ⟨rfl, rfl, rfl, by simp, fun k _ hne => heap_setCell_other _ _ _ _ (fun e => hne (by rw [e]))⟩⟩
                have := hm.set (.int .i64 ((j : Int) + 1))
                rw [List.length_append, ← hj]
                simpa using this⟩
              have HJJ := keep hj
              have HE1 : Keep (l2[pre.length]? = some (tx l2 j)) := ⟨by rw [← hj]; exact HE0⟩
              have HBMS : Keep (Bm < w8.heap.size ∧ Bm ≠ d) := ⟨by omega⟩
              clear hbx hnb hbw hm hg hj HE0 hsz hrl hdl hlt
              by_cases hjq : j < q
              · have HE : Keep (l2[pre.length]? = some more) := ⟨by rw [HE1.out, HL2.out, tx_rep hjq]⟩
                have hjqI : (j : Int) < (q : Int) := by omega
                have hd1 : decide (j < q) = true := by simpa using hjq
                have hd2 : decide (q ≤ j) = false := by simp; omega
                clear HE1 hlt' hjq
                by_cases hx : x = more
                · subst hx
                  gi_wp2
                  exact ⟨(KeepsOthers.setCell _ _ _).from _, KpD.set HBMS.out.1 HBMS.out.2 _ _, HJE.out⟩
                · have hbn := beq_no hx
                  have HX := keep hx
                  have hud : ∀ b : Bool, (undef = Value.bool b) = False := fun b => by unfold undef; simp
                  clear hx
                  gi_wp2
                  exact ⟨(KeepsOthers.setCell _ _ _).from _, .inl ⟨rfl, pre, x, rfl, fun h => HX.out (by rw [HE.out] at h; exact (Option.some.inj h).symm)⟩⟩
              · obtain ⟨p, hp⟩ : ∃ p, p = j - q := ⟨_, rfl⟩
                have hpI : (j : Int) - (q : Int) = (p : Int) := by omega
                have hpn : p < n := by omega
                have HE : Keep (l2[pre.length]? = some (tx a0 p)) := ⟨by rw [HE1.out, HL2.out, show j = q + p by omega, tx_app (by have := HN.out; omega)]⟩
                obtain ⟨b, off, ho, hb, hc⟩ := HR0.out p hpn
                have hcell := hc W2 HBW2.out
                rw [ho] at cl
                have hpnI : (p : Int) < (n : Int) := by omega
                have hqjI : (q : Int) ≤ (j : Int) := by omega
                have hd1 : decide (j < q) = false := by simpa using hjq
                have hd2 : decide (q ≤ j) = true := by simp; omega
                have hd3 : decide (n ≤ p) = false := by simp; omega
                have hwp : IntKind.i64.wrap (p : Int) = (p : Int) := IntWalk.i64_in _ ⟨by omega, by omega⟩
                clear HE1 hlt' hjq hp hpn hb hc ho
                generalize tx a0 p = y at *
                by_cases hx : x = y
                · subst hx
                  gi_wp2
                  exact ⟨(KeepsOthers.setCell _ _ _).from _, KpD.set HBMS.out.1 HBMS.out.2 _ _, HJE.out⟩
                · have hbn := beq_no hx
                  have HX := keep hx
                  clear hx
                  gi_wp2
                  exact ⟨(KeepsOthers.setCell _ _ _).from _, .inl ⟨rfl, pre, x, rfl, fun h => HX.out (by rw [HE.out] at h; exact (Option.some.inj h).symm)⟩⟩
            case rest =>
              rintro D2 pre2 W2 hD2 hle hT ⟨hm, hg⟩ hDK2
              have hsz := HSZ8.out
              have hrl := HRL.out
              have hdl := HDL.out
              have hplI : (pre2.length : Int) = (n : Int) + (q : Int) := by
                rcases hT with h | h
                · rw [h, HZ.out]; omega
                · exact h.elim
              have hblk : ∀ k, k < Bm → W2.heap[k]? = w8.heap[k]? := fun k hk => hg.block k (by omega) (fun e => by injection e with e; omega)
              have hbx : Boxes w.heap.size o0 n c0 stop more W2 := HBX8.out.heap fun k h1 h2 => hblk k (by omega)
              have hbw : Below w.heap.size w W2 := HBW8.out.trans ⟨hg.os, hg.tape, hg.output, hg.size, fun k hk => hblk k (by omega)⟩
              have hq2 : DQ d r l2 W2 := HQ8.out.heap (hblk d (by omega)) (fun g e => hblk g (HRG.out g e))
              have HQ2 := keep hq2
              have HBX2 := keep hbx
              have HBW2 := keep hbw
              have cj := hm.cell
              rw [hplI] at cj
              have HJL := keep hm.lt
              have HD1 : Keep (W2.heap[D]? = some (.deferred (some []))) := ⟨(hblk D hdl).trans HDK8.out⟩
              have HD2 := keep hDK2
              have HDD : Keep (D < Bm ∧ w8.heap.size ≤ D2 ∧ w8.heap.size = Bm + 1) := ⟨hdl, hD2, hsz⟩
              clear hbx hbw hq2 hm hg hDK2 hblk hsz hdl hrl hT hle hplI hD2
              gi_wp2
              refine AnyGo.regionM (fun W' => W'.cell? ⟨Bm, 0, none⟩ = some (.int .i64 ((n : Int) + (q : Int)))) (by kernel_rfl) (by rfl) cj ?_
              intro wd ewd
              subst ewd
              (refine AnyGo.take 0 (some 109) ?_ (a' := ?_) rfl (by kernel_rfl) (fun _ _ d _ _ h => by cases d <;> exact h) (by kernel_rfl) (by rfl) (by kernel_rfl) ?_ ?_ ?_; rotate_left 2; (focus (intro W hW; (try dsimp only at hW); go_simp; (try with_reducible rfl))); (focus (simp only [Act.put, List.setIfInBounds_toArray]; rfl)))
              refine AnyGo.one (i := 1) (by kernel_rfl) rfl (by kernel_rfl) (fun K' hK' => ?_)
              go_simp
              refine (HLEN.out W2.drew HQ2.out.drew).mono ?_
              rintro e w' ⟨rfl, rfl⟩
              refine hK'.out _ _ cj ?_
              clear hK' K'
              (try simp only [Act.put, List.setIfInBounds_toArray])
              (refine AnyGo.take 2 (some 111) ?_ (a' := ?_) rfl (by kernel_rfl) (fun _ _ d _ _ h => by cases d <;> exact h) (by kernel_rfl) (by rfl) (by kernel_rfl) ?_ ?_ ?_; rotate_left 2; (focus (intro W hW; (try dsimp only at hW); go_simp; (try with_reducible rfl))); (focus (simp only [Act.put, List.setIfInBounds_toArray]; rfl)))
              (refine AnyGo.take 3 (some 112) ?_ (a' := ?_) rfl (by kernel_rfl) (fun _ _ d _ _ h => by cases d <;> exact h) (by kernel_rfl) (by rfl) (by kernel_rfl) ?_ ?_ ?_; rotate_left 2; (focus (intro W hW; (try dsimp only at hW); go_simp; (try with_reducible rfl))); (focus (simp only [Act.put, List.setIfInBounds_toArray]; rfl)))
              refine AnyGo.one (i := 4) (by kernel_rfl) rfl (by kernel_rfl) (fun K' hK' => ?_)
              go_simp
              refine (live_any _).mono ?_
              rintro e w9 ⟨rfl, hb⟩
              have HB9 := keep hb
              have hr9 : Boxed w9 (w.heap.size + 1 + 1 + 1) 4 (.bool false) := (hb.block _ HBX2.out.lt).trans HBX2.out.r
              have HR9 := keep hr9
              have cr := hr9.cell
              have fr := hr9.frozen
              have cj9 : w9.cell? ⟨Bm, 0, none⟩ = some (.int .i64 ((n : Int) + (q : Int))) := (hb.cell (p := ⟨Bm, 0, none⟩) HJL.out).trans cj
              refine hK'.out _ _ cj9 ?_
              clear hK' K' hb hr9 cj
              (try simp only [Act.put, List.setIfInBounds_toArray])
              (refine AnyGo.take 5 (some 114) ?_ (a' := ?_) rfl (by kernel_rfl) (fun _ _ d _ _ h => by cases d <;> exact h) (by kernel_rfl) (by rfl) (by kernel_rfl) ?_ ?_ ?_; rotate_left 2; (focus (intro W hW; (try dsimp only at hW); go_simp; (try with_reducible rfl))); (focus (simp only [Act.put, List.setIfInBounds_toArray]; rfl)))
              refine AnyGo.one (i := 6) (by kernel_rfl) rfl (by kernel_rfl) (fun K' hK' => ?_)
              go_simp
              refine hK'.out _ _ ((World.cell?_setCell_other w9 _ _ _ (by intro c; injection c with c _; have := HRL.out; have := HDD.out; omega)).trans cj9) ?_
              clear hK' K'
              refine AnyGo.fin (by kernel_rfl) ?_
              (try simp only [List.set_cons_succ, List.set_cons_zero])
              refine calm_normal ?_
              gi_wp2
              have HBD : Keep (Below w.heap.size w W2.drew) := ⟨HBW2.out.drew⟩
              obtain ⟨hK2, hK1, hc5, hB5⟩ := lawEnd2 HBD.out HB9.out HR9.out HD1.out HD2.out (by omega) (by have := HRL.out; omega) (by have := HDD.out; omega) true
              refine ⟨by simp, .inl ⟨_, _, rfl, run_takeDeferred hK2, ?_⟩⟩
              refine ⟨by simp, .inl ⟨_, _, rfl, run_takeDeferred hK1, ?_⟩⟩
              refine ⟨.bool true, ?_, rfl, hB5⟩
              simp [results, Try.f4, go_sem, hc5]
theorem own : ownKnob Try.prog.godebug = none := by kernel_rfl
theorem laid : laidOutB Try.prog = true := by kernel_rfl

set_option maxRecDepth 100000 in
theorem lifted (os : Os) (started : os.Started) (H : Type) (enc : TypeId × Value → H) :
    ReturnsInHanded {} Try.checked os 4 .any (Rows.dequeGoesSpec.pre6 enc Try.prog Try.f4 Rows.dequeGoesRow.domain false) (Rows.dequeGoesSpec.post enc Try.prog Try.f4 false true false false) := by
  refine returnsInHanded_of_change (C := Try.checked) own started (by kernel_rfl) Try.func4
    (ChangeSpec.witness6 (enc := enc) (C := Try.checked) false ⟨#[], #[.slice none 0 0, .int .i64 0, .string ByteArray.empty], []⟩ 8 (by kernel_rfl) (by kernel_rfl) (by kernel_rfl) (by kernel_rfl)) ?_
  intro W base args ds gs before hval0 hW hcnd _
  have hval : ∀ (j : Nat) t v, Try.f4.params[j]? = some t → args[j]? = some v → Value.okWide Try.prog W .any base t v := hval0
  have hW' := hW
  obtain ⟨p, q, hA0, hV, rfl, hfz, hnd⟩ := hW
  have hA : DataW.TrodAll enc Try.prog W 0 (fun _ => true) true Try.f4.params.toList args.toList ds p := hA0
  rw [Try.params4] at hA hval
  obtain ⟨v0, vs0, d0, ds0, p0, q0, hargs, rfl, rfl, h0, r0⟩ := trodAll_cons hA
  obtain ⟨v1, vs1, d1, ds1, p1, q1, rfl, rfl, rfl, h1, r1⟩ := trodAll_cons r0
  obtain ⟨v2, vs2, d2, ds2, p2, q2, rfl, rfl, rfl, h2, r2⟩ := trodAll_cons r1
  obtain ⟨rfl, rfl, rfl⟩ := trodAll_nil r2
  obtain rfl : args = #[v0, v1, v2] := by cases args; simp_all
  obtain ⟨rfl, rfl⟩ := trodVars_none hV
  obtain ⟨a0, w0⟩ := txs_of (enc := enc) h0 (hval 0 25 v0 rfl rfl)
  obtain ⟨a1, rfl, rfl, rfl, w1⟩ := open_int Try.underlying3 (hval 1 3 v1 rfl rfl) h1
  obtain ⟨a2, rfl, rfl, rfl, w2⟩ := open_string Try.underlying9 (hval 2 9 v2 rfl rfl) h2
  clear hA0 hval0
  simp only [List.append_nil] at hW'
  have hlt0 : ∀ x ∈ p0, x.block < W.heap.size := fun x hx => by
    have := hW'.lt x (by simp [hx])
    simpa using this
  refine (walk v0 a0 a1 a2 W w0 w1 w2).mono fun e W' ⟨he, hg⟩ => ?_
  subst he
  exact ⟨_, rfl, _, _, _, [], _, [], hW', (trodAll_cons_mk (shut_bool Try.underlying4 _) trodAll_mk0), (trodAll_cons_mk (Below.trod laid (by kernel_rfl) (of_decide_eq_true (by kernel_rfl)) h0 hg hlt0) (trodAll_cons_mk (shut_int Try.underlying3 w1) (trodAll_cons_mk (shut_string Try.underlying9 w2) trodAll_mk0))), rfl, hg.frame _, fun h => by cases h⟩

theorem over : Rows.dequeGoesRow.holds Try.pinned (OpenSpec.ofChange Rows.dequeGoesSpec) :=
  OpenClaim.holds_of_wide 4 Try.f4 rfl rfl rfl rfl rfl rfl rfl ⟨rfl, rfl, rfl, rfl, rfl⟩ rfl rfl rfl rfl rfl (by kernel_rfl) Try.func4 (by kernel_rfl)
    (of_decide_eq_true (by kernel_rfl)) (by unfold Func.isWrapper; first | (rw [if_pos (by decide +kernel)]; kernel_rfl) | (rw [if_neg (by decide +kernel)]; exact ⟨rfl, rfl⟩))
    (fun os started H enc _ => lifted os started H enc)

/-- The statement. -/
theorem proved : Rows.DequeGoesSaid :=
  over
#print axioms proved
end Go.Proofs.Ytphjemnmbbeieaa.dequeGoes
