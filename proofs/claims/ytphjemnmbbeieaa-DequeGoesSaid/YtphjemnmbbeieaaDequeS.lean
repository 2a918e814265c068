/-
  The deque gone over: the program's All, whatever a round does.
-/
import Derived.Test.YtphjemnmbbeieaaDequeL
import Derived.RangeFuncNested
import Derived.RangeFuncBound
import Derived.RangeFuncCalls
import Derived.RangeFuncLeaves
import Derived.Shelf.Abstract
import Derived.Shelf.RegionOpen
import Derived.OwnWalkIn
import Derived.TacticsInMore
import Derived.LoopNIn
import Derived.LoopIn
namespace Go.Proofs.Ytphjemnmbbeieaa
open Go.RowKit Go.Shelf
attribute [local go_sem] Oper.semAt_some

theorem allf_any (a : Option Addr) (w : World) : Calls Try.prog 20 #[.pointer a] w fun e w' => e = .returned (.func (.func 30) #[] #[.pointer (some ⟨w.heap.size, 0, none⟩)]) ∧ w' = w.alloc (.cells #[.pointer a] 47) := by
  go_enter Try.func20, Try.ntmps20
  go_wp2_with fail
  go_ret
  exact ⟨rfl, rfl⟩

/-- The ring of the deque at block d. -/
def ringAt (d : Nat) (W : World) : Option Nat := match W.heap[d]? with
  | some (.cells cs _ _) => (cs[0]?).bind Value.ownBlock
  | _ => none
theorem DQ.ringAt {d : Nat} {r : Option Nat} {l : List ByteArray} {W : World} (h : DQ d r l W) : ringAt d W = r := by
  rcases h.out with ⟨rfl, _, hb⟩ | ⟨g, cs, f, rfl, ha⟩
  · unfold Proofs.Ytphjemnmbbeieaa.ringAt; rw [show W.heap[d]? = _ from hb]; rfl
  · unfold Proofs.Ytphjemnmbbeieaa.ringAt; rw [show W.heap[d]? = _ from ha.box]; rfl
/-- What a round must keep: all newer blocks of cells but the ring. -/
def KpD (d B : Nat) (W W' : World) : Prop := ∀ (k : Nat) (cs : Array Value) (t : TypeId), B ≤ k → W.heap[k]? = some (.cells cs t (0, 0)) → ringAt d W ≠ some k → W'.heap[k]? = some (.cells cs t (0, 0)) ∧ ringAt d W' ≠ some k
theorem KpD.trans {d B : Nat} {X Y Z : World} (h : KpD d B X Y) (k : KpD d B Y Z) : KpD d B X Z := fun i cs t hB hi hr =>
  k i cs t hB (h i cs t hB hi hr).1 (h i cs t hB hi hr).2

/-- Whose row l is: nil's, or the deque's at block d. -/
def Of (a : Option Addr) (d : Nat) (l : List ByteArray) (W : World) : Prop := (a = none ∧ l = []) ∨ (a = some ⟨d, 0, none⟩ ∧ ∃ r, DQ d r l W)
def encT (x : ByteArray) : Array Value := #[.string x]

theorem grown_of_below {W W' : World} (hb : Below W.heap.size W W') : W.grownBy W' none := ⟨hb.os, hb.tape, hb.output, hb.size, fun k hk _ => hb.block k hk⟩

set_option maxRecDepth 100000 in
set_option maxHeartbeats 4000000 in
theorem all1_in (n : Nat) (hn1 : 1 ≤ n) (L Bs d B : Nat) (a : Option Addr) (l : List ByteArray) (hl : l.length ≤ 1000) (J Jx : List ByteArray → World → Prop) (W0 : World) (hBW : B ≤ W0.heap.size) (hof : Of a d l W0) (hJ : AbidesFrom W0.heap.size J)
    (hY : ∀ pre x W, J pre W → pre.length < l.length → YieldAt Fence.wide (n - 1) Try.prog L (encT x) W fun e W' =>
      (e = .returned (.bool true) ∧ J (pre ++ [x]) W' ∧ KpD d B W W') ∨ (e = .returned (.bool false) ∧ Jx (pre ++ [x]) W'))
    (hBs : W0.heap[Bs]? = some (.cells #[.pointer a] 47 (0, 0))) (h0 : J [] W0) :
    CallsIn Fence.wide n Try.prog 30 #[.func (.yield L) #[] #[], .pointer (some ⟨Bs, 0, none⟩)] W0 fun e W' => (∃ v, e = .returned v) ∧
      ((∃ zs, zs = l ∧ J zs W') ∨ (∃ pre, pre <+: l ∧ Jx pre W')) := by
  have HL : Keep (Calls Try.prog 19 #[.pointer a] W0 fun e w' => e = .returned (.int .i64 (l.length : Int)) ∧ W0 = w') := by
    rcases hof with ⟨rfl, rfl⟩ | ⟨rfl, r, hq⟩
    · exact ⟨len_nil W0⟩
    · obtain ⟨o, m, f, hb, _⟩ := hq.box
      exact ⟨len_any d l.length W0 hb.cells.2.2.1⟩
  obtain ⟨R, hR⟩ : ∃ R, R = W0.heap.size := ⟨_, rfl⟩
  obtain ⟨w1, hw1⟩ : ∃ w1, w1 = W0.alloc (.cells (List.replicate l.length (Value.string ⟨#[]⟩)).toArray 9) := ⟨_, rfl⟩
  have hmk := make_run (k := l.length) (by omega) W0
  rw [← hR, ← hw1] at hmk
  have hb1 : Below W0.heap.size W0 w1 := by rw [hw1]; exact (Below.refl _ _).alloc (Nat.le_refl _) _
  have hr1 : w1.heap[R]? = some (.cells (List.replicate l.length (Value.string ⟨#[]⟩)).toArray 9 (0, 0)) := by rw [hw1, hR]; exact heap_alloc_new W0 _
  have HC : Keep (Calls Try.prog 31 #[.pointer a, .slice (some ⟨R, 0, none⟩) l.length l.length] w1 fun e w' => e = .returned (.tuple #[]) ∧ w1.grownBy w' (some R) ∧ w'.heap[R]? = some (.cells (l.map (Value.string)).toArray 9 (0, 0)) ∧ (ringAt d w' ≠ some R ∨ l = [])) := by
    rcases hof with ⟨rfl, rfl⟩ | ⟨rfl, r, hq⟩
    · refine ⟨(copyTo_none _ _ _ w1).mono ?_⟩
      rintro e w' ⟨rfl, rfl⟩
      exact ⟨rfl, grownBy_refl _ _, hr1, .inr rfl⟩
    · have hlt := hq.lt
      refine ⟨(copyTo_dq d r l w1 (hq.below hb1) R l.length _ hr1 (fun e => by have := (hq.rlt R e).1; omega) (fun e => by omega) (Nat.le_refl _) (by simp) (by omega)).mono ?_⟩
      rintro e w' ⟨rfl, hg, hrow⟩
      have hq2 : DQ d r l w' := (hq.below hb1).heap (hg.block d (Nat.lt_of_lt_of_le hlt hb1.size) (fun e => by injection e with e; omega)) (fun g e => hg.block g (Nat.lt_of_lt_of_le (hq.rlt g e).1 hb1.size) (fun e' => by injection e' with e'; have := (hq.rlt g e).1; omega))
      refine ⟨rfl, hg, ?_, .inl (by rw [hq2.ringAt]; intro e; have := (hq.rlt R e).1; omega)⟩
      rw [show (List.replicate l.length (Value.string ⟨#[]⟩)).drop l.length = [] from by simp, List.append_nil] at hrow
      exact hrow
  have hcb : W0.cell? ⟨Bs, 0, none⟩ = some (.pointer a) := by rw [cell_of_row W0 Bs 0 _ _ _ hBs]; rfl
  have hcb1 : w1.cell? ⟨Bs, 0, none⟩ = some (.pointer a) := (hb1.cell (p := ⟨Bs, 0, none⟩) (Array.getElem?_eq_some_iff.1 hBs).1).trans hcb
  have HB1 := keep hb1
  have HJ := keep hJ
  have HY := keep hY
  have H0 := keep h0
  have HRB : Keep (B ≤ R ∧ R = W0.heap.size) := ⟨by omega, hR⟩
  obtain ⟨m, hm⟩ : ∃ m, m = l.length := ⟨_, rfl⟩
  have HM := keep hm
  rw [← hm] at HL HC hmk hl HY
  have hmI : (m : Int) ≤ 1000 := by omega
  clear hJ hY h0 hBs hof hw1 hb1 hr1 hR hBW hm hl
  refine callsIn_of_wp Try.func30 rfl trivial ?_ rfl
  simp only [Try.ntmps30, List.size_toArray, List.length_cons, List.length_nil, Nat.reduceAdd, Nat.reduceSub, Array.replicate_succ, Array.replicate_zero, List.push_toArray, List.append_toArray, List.nil_append, List.cons_append]
  gi_wp2_with (first
    | (refine ⟨trivial, ?_⟩; gi_at_call 19; refine (callsIn_wide.2 HL.out).mono ?_; rintro e w' ⟨rfl, rfl⟩)
    | (refine ⟨trivial, ?_⟩; gi_at_call 31; refine (callsIn_wide.2 HC.out).mono ?_; rintro e w2 ⟨rfl, hg, hrow, hne⟩; have HG := keep hg; have HROW := keep hrow; have HNE := keep hne; clear hg hrow hne))
  have HJ2 : Keep (J [] w2) := ⟨HJ.out _ _ _ none H0.out ⟨HG.out.os.trans HB1.out.os, HG.out.tape.trans HB1.out.tape, HG.out.output.trans HB1.out.output, Nat.le_trans HB1.out.size HG.out.size, fun k hk _ => (HG.out.block k (Nat.lt_of_lt_of_le hk HB1.out.size) (fun e => by injection e with e; have := HRB.out.2; omega)).trans (HB1.out.block k hk)⟩ (fun _ e => by cases e)⟩
  clear hcb hcb1 hmk
  gi_loopw [14] (fun iv wr => ∃ (pre rest : List ByteArray), iv = .int .i64 (pre.length : Int) ∧ Keep (l = pre ++ rest ∧ J pre wr ∧ wr.heap[R]? = some (.cells (l.map (Value.string)).toArray 9 (0, 0)) ∧ (ringAt d wr ≠ some R ∨ l = []))) (fun iv _ => m - (intOf iv).toNat)
  case atStart => exact ⟨[], l, rfl, ⟨rfl, HJ2.out, HROW.out, HNE.out⟩⟩
  case round =>
    obtain ⟨pre, rest, rfl, HR⟩ := hrel
    cases rest with
    | nil =>
      have hpl : (m : Int) = (pre.length : Int) := by have := HR.out.1; rw [HM.out, this]; simp
      have hge : ¬ (pre.length : Int) < (m : Int) := by omega
      clear hpl
      gi_wp2
      have HE : Keep (J l wr) := ⟨by have h := HR.out.2.1; have e := HR.out.1; rw [List.append_nil] at e; rw [e]; exact h⟩
      exact bodyPost_end (results_none rfl _ _ _) rfl ⟨⟨_, rfl⟩, .inl HE.out⟩
    | cons x r =>
      obtain ⟨hl, hJ, hrow, hne⟩ := HR.out
      have HLN : Keep (pre.length < m) := ⟨by rw [HM.out, hl, List.length_append, List.length_cons]; omega⟩
      have hltI : (pre.length : Int) < (m : Int) := by have := HLN.out; omega
      have hcell : wr.cell? ⟨R, pre.length, none⟩ = some (.string x) := by
        rw [cell_of_row wr R _ _ _ _ hrow, List.getElem?_toArray, hl, List.map_append, List.getElem?_append_right (by simp)]
        simp
      have HROW3 := keep hrow
      have HNE3 : Keep (ringAt d wr ≠ some R) := ⟨by rcases hne with h | h; exact h; rw [hl] at h; simp at h⟩
      have HLL := keep hl
      have HYY := HY.out pre x wr hJ HLN.out
      obtain ⟨fn, tmps, assign, body, hy, hR⟩ := HYY
      dsimp only [encT] at hy
      have HR1 := keep hR
      obtain ⟨q, hq⟩ : ∃ q, q = pre.length := ⟨_, rfl⟩
      have HQ := keep hq
      rw [← hq] at hcell hltI ⊢
      clear hl hJ hrow hne hR hq
      gi_wp2
      refine HR1.out.mono ?_
      rintro e W3 (⟨rfl, hJ3, hk3⟩ | ⟨rfl, hJx3⟩)
      · have HJ3 := keep hJ3
        have HK3 := keep (hk3 R _ _ HRB.out.1 HROW3.out HNE3.out)
        clear hJ3 hk3 hcell hy
        gi_wp2
        go_roundw
        case rel => exact ⟨pre ++ [x], r, by rw [List.length_append, ← HQ.out]; go_num, ⟨by rw [HLL.out]; simp, HJ3.out, HK3.out.1, .inl HK3.out.2⟩⟩
        case measure => simp [intOf]; omega
      · have HJ3 := keep hJx3
        clear hJx3 hcell hy
        gi_wp2
        refine bodyPost_ret (results_none rfl _ _ _) rfl ?_
        exact ⟨⟨_, rfl⟩, .inr ⟨_, ⟨r, by rw [HLL.out]; simp⟩, HJ3.out⟩⟩

theorem Of.below {a : Option Addr} {d : Nat} {l : List ByteArray} {W W' : World} (h : Of a d l W) (hb : Below W.heap.size W W') : Of a d l W' := by
  rcases h with h | ⟨h1, r, h2⟩
  · exact .inl h
  · exact .inr ⟨h1, r, h2.below hb⟩
theorem all_stops (n : Nat) (hn1 : 1 ≤ n) (Bs d : Nat) (a : Option Addr) (l : List ByteArray) (hl : l.length ≤ 1000) (w : World) (hof : Of a d l w) (hB : w.heap[Bs]? = some (.cells #[.pointer a] 47 (0, 0))) :
    SeqStopsK Fence.wide n Try.prog 30 #[.pointer (some ⟨Bs, 0, none⟩)] encT (KpD d w.heap.size) (fun zs => zs = l) (fun pre => pre <+: l) l.length w := fun L J Jx W hW' hJ _ hY h0 =>
  all1_in n hn1 L Bs d w.heap.size a l hl J Jx W hW'.size (hof.below hW') hJ hY ((hW'.block Bs (Array.getElem?_eq_some_iff.1 hB).1).trans hB) h0
theorem KpD.loop {d B : Nat} (hd : d < B) (W : World) (k : Nat) (o o' : Obj) (hk : B ≤ k) (ho : W.heap[k]? = some o) (hc : o.isCells = false) : KpD d B W (W.putObj k o') := fun i cs t _ hi hr => by
  have hne : i ≠ k := fun e => by subst e; rw [hi] at ho; injection ho with ho; subst ho; cases hc
  refine ⟨(World.putObj_heap_other hne).trans hi, ?_⟩
  unfold ringAt at hr ⊢
  rw [World.putObj_heap_other (by omega)]
  exact hr
end Go.Proofs.Ytphjemnmbbeieaa
