/-
  Sets gone over: the program's walk along a tree and All's function, whatever a round does.
-/
import Derived.Test.YtjfgnmkgljljbaaSetP
import Derived.RangeFuncNested
import Derived.RangeFuncBound
import Derived.RangeFuncCalls
import Derived.RangeFuncLeaves
import Derived.Shelf.Abstract
import Derived.Shelf.RegionOpen
import Derived.OwnWalkIn
import Derived.TacticsInMore
import Derived.LoopNIn
import Derived.LoopIn
namespace Go.Proofs.Ytjfgnmkgljljbaa
open Go.RowKit Go.Shelf
attribute [local go_sem] Oper.semAt_some

/-- Where no depth is asked, any number of frames serves. -/
theorem any_room {F : Fence} (hd : F.depth = none) (k : Nat) : F.room k := fun d h => by rw [hd] at h; cases h
theorem yield_any {F : Fence} (hd : F.depth = none) {m : Nat} (m' : Nat) {P : Program} {l : Nat} {args : Array Value} {W : World} {R : Ending → World → Prop} (h : YieldAt F m P l args W R) : YieldAt F m' P l args W R := by
  obtain ⟨fn, tmps, assign, body, hy, hR⟩ := h
  exact ⟨fn, tmps, assign, body, hy, hR.1, fun c cs _ => hR.2 c cs (any_room hd _)⟩

/-- Things with their places, from a on. -/
def prs (a : Nat) : List Int → List (Nat × Int)
  | [] => []
  | x :: l => (a, x) :: prs (a + 1) l
theorem prs_append (a : Nat) (l m : List Int) : prs a (l ++ m) = prs a l ++ prs (a + l.length) m := by
  induction l generalizing a with
  | nil => simp [prs]
  | cons x l ih => simp only [List.cons_append, prs, ih, List.length_cons]; rw [show a + 1 + l.length = a + (l.length + 1) by omega]
theorem prs_length (a : Nat) (l : List Int) : (prs a l).length = l.length := by
  induction l generalizing a with
  | nil => rfl
  | cons x l ih => simp [prs, ih]
theorem prs_get (a : Nat) (l : List Int) (i : Nat) : (prs a l)[i]? = l[i]?.map (fun x => (a + i, x)) := by
  induction l generalizing a i with
  | nil => simp [prs]
  | cons x l ih =>
    cases i with
    | zero => simp [prs]
    | succ i => simp only [prs, List.getElem?_cons_succ, ih]; rw [show a + 1 + i = a + (i + 1) by omega]
def encP (x : Nat × Int) : Array Value := #[.int .i64 (x.1 : Int), EV x.2]
abbrev NK (W W' : World) : Prop := NKept 58 W W'

theorem allf_any (a : Option Addr) (w : World) : Calls Try.prog 20 #[.pointer a] w fun e w' => e = .returned (.func (.func 33) #[] #[.pointer (some ⟨w.heap.size, 0, none⟩)]) ∧ w' = w.alloc (.cells #[.pointer a] 25) := by
  go_enter Try.func20, Try.ntmps20
  go_wp2_with fail
  go_ret
  exact ⟨rfl, rfl⟩

set_option maxRecDepth 100000 in
set_option maxHeartbeats 4000000 in
theorem walk_in (L N : Nat) (J Jx : List (Nat × Int) → World → Prop)
    (hY : ∀ (m : Nat) pre x W, J pre W → pre.length < N → YieldAt Fence.wide m Try.prog L (encP x) W fun e W' =>
      (e = .returned (.bool true) ∧ J (pre ++ [x]) W' ∧ NK W W') ∨ (e = .returned (.bool false) ∧ Jx (pre ++ [x]) W')) (T : BT Int) :
    ∀ (n : Nat) (p : Option Addr) (a : Nat) (z : Int) (pre : List (Nat × Int)) (W : World), z = (a : Int) → IsT W p T → J pre W → pre.length + T.row.length ≤ N → a + T.row.length ≤ 1000000 →
      CallsIn Fence.wide n Try.prog 34 #[.pointer p, .int .i64 z, .func (.yield L) #[] #[]] W fun e W' =>
        (e = .returned (.bool true) ∧ J (pre ++ prs a T.row) W' ∧ NK W W') ∨ (e = .returned (.bool false) ∧ ∃ q, q <+: prs a T.row ∧ Jx (pre ++ q) W') := by
  induction T with
  | leaf =>
    intro n p a z pre W _ ht hJ _ _
    obtain rfl : p = none := ht
    have HJ := keep hJ
    clear hJ hY
    refine callsIn_of_wp Try.func34 rfl trivial ?_ rfl
    simp only [Try.ntmps34, List.size_toArray, List.length_cons, List.length_nil, Nat.reduceAdd, Nat.reduceSub, Array.replicate_succ, Array.replicate_zero, List.push_toArray, List.append_toArray, List.nil_append, List.cons_append]
    gi_wp2
    go_ret
    exact .inl ⟨rfl, by simpa [BT.row, prs] using HJ.out, NKept.refl _ _⟩
  | node TL v TR ihl ihr =>
    intro n p a z pre W hz ht hJ hN ha
    obtain ⟨b, p0, p1, rfl, hb, h0, h1⟩ := ht
    obtain ⟨c0, -, -, -⟩ := hb.cells
    obtain ⟨k, hk⟩ : ∃ k, k = TL.row.length := ⟨_, rfl⟩
    have hrow : prs a (BT.node TL v TR).row = prs a TL.row ++ ((a + k, v) :: prs (a + k + 1) TR.row) := by rw [BT.row, prs_append, ← hk]; rfl
    simp only [BT.row, List.length_append, List.length_cons] at hN ha
    have HROW := keep hrow
    have HSZ := keep (size_any h0)
    rw [← hk] at HSZ
    have hkI : (k : Int) ≤ 1000000 := by omega
    have hk0 : (0 : Int) ≤ (k : Int) := by omega
    have hz0 : 0 ≤ z := by omega
    have hzI : z + (k : Int) + 1 ≤ 1000001 := by omega
    have HY2 : Keep (∀ W1, J (pre ++ prs a TL.row) W1 → NK W W1 → YieldAt Fence.wide (n - 1) Try.prog L (encP (a + k, v)) W1 fun e W2 =>
        (e = .returned (.bool true) ∧ Keep (J (pre ++ prs a TL.row ++ [(a + k, v)]) W2 ∧ NK W W2) ∧ W2.cell? ⟨b, 1, none⟩ = some (.pointer p1) ∧ Keep (IsT W2 p1 TR)) ∨ (e = .returned (.bool false) ∧ Keep (Jx (pre ++ prs a TL.row ++ [(a + k, v)]) W2))) := ⟨fun W1 hJ1 hb1 =>
      YieldAt.mono (hY (n - 1) _ _ W1 hJ1 (by rw [List.length_append, prs_length]; omega)) fun e W2 h => h.elim
        (fun ⟨he, hj, hb2⟩ => .inl ⟨he, ⟨hj, hb1.trans hb2⟩, (NodeAt.cells (enc := EV) (tn := 58) ((hb1.trans hb2) _ _ hb)).2.1, ⟨h1.kept (hb1.trans hb2)⟩⟩) (fun ⟨he, hj⟩ => .inr ⟨he, ⟨hj⟩⟩)⟩
    have ih1 := (ihl (n - 1) p0 a z pre W hz h0 hJ (by omega) (by omega)).mono (R' := fun e W1 =>
        (e = .returned (.bool true) ∧ W1.cell? ⟨b, 2, none⟩ = some (EV v) ∧ Keep (J (pre ++ prs a TL.row) W1 ∧ NK W W1)) ∨
        (e = .returned (.bool false) ∧ Keep (∃ q, q <+: prs a TL.row ∧ Jx (pre ++ q) W1)))
      (fun e W1 h => h.elim (fun ⟨he, hj, hb1⟩ => .inl ⟨he, (NodeAt.cells (enc := EV) (tn := 58) (hb1 _ _ hb)).2.2.1, ⟨hj, hb1⟩⟩) (fun ⟨he, hq⟩ => .inr ⟨he, ⟨hq⟩⟩))
    have HIH1 := keep ih1
    have HIHR : Keep (∀ W2, IsT W2 p1 TR → J (pre ++ prs a TL.row ++ [(a + k, v)]) W2 → CallsIn Fence.wide (n - 1) Try.prog 34 #[.pointer p1, .int .i64 (z + (k : Int) + 1), .func (.yield L) #[] #[]] W2 fun e W' =>
        (e = .returned (.bool true) ∧ Keep (J (pre ++ prs a TL.row ++ [(a + k, v)] ++ prs (a + k + 1) TR.row) W' ∧ NK W2 W')) ∨ (e = .returned (.bool false) ∧ Keep (∃ q, q <+: prs (a + k + 1) TR.row ∧ Jx (pre ++ prs a TL.row ++ [(a + k, v)] ++ q) W'))) := ⟨fun W2 hw hj =>
      (ihr (n - 1) p1 (a + k + 1) (z + (k : Int) + 1) _ W2 (by omega) hw hj (by simp only [List.length_append, prs_length, List.length_singleton]; omega) (by omega)).mono
        (fun e W' h => h.elim (fun ⟨he, h1, h2⟩ => .inl ⟨he, ⟨h1, h2⟩⟩) (fun ⟨he, hq⟩ => .inr ⟨he, ⟨hq⟩⟩))⟩
    have hdd : ∀ k : Nat, (Fence.wide.depth.isSome = true → 1 ≤ k) := fun k h => by cases h
    have HEZ : Keep (((a + k : Nat) : Int) = z + (k : Int)) := ⟨by omega⟩
    clear ih1 ihl ihr hY hb h0 h1 hJ hN ha hrow hk hz
    refine callsIn_of_wp Try.func34 rfl trivial ?_ rfl
    simp only [Try.ntmps34, List.size_toArray, List.length_cons, List.length_nil, Nat.reduceAdd, Nat.reduceSub, Array.replicate_succ, Array.replicate_zero, List.push_toArray, List.append_toArray, List.nil_append, List.cons_append]
    gi_wp2_with (first
      | (refine ⟨trivial, ?_⟩; (try refine ⟨hdd _, ?_⟩); gi_at_call 32; refine (callsIn_wide.2 HSZ.out).mono ?_; clear HSZ; rintro e w' ⟨rfl, rfl⟩)
      | (refine ⟨trivial, ?_⟩; (try refine ⟨hdd _, ?_⟩); gi_at_call 34; refine HIH1.out.mono ?_; clear HIH1; rintro e W1 (⟨rfl, c2, HJ1⟩ | ⟨rfl, HX1⟩); (try (have HYR := HY2.out W1 HJ1.out.1 HJ1.out.2; obtain ⟨fn, tmps, assign, body, hy, hR⟩ := HYR; dsimp only [encP] at hy; rw [HEZ.out] at hy; have HR := keep hR; clear hR HY2 HEZ)))
      | ((try refine ⟨hdd _, ?_⟩); refine HR.out.mono ?_; clear HR; rintro e W2 (⟨rfl, HJ2, c1, HT2⟩ | ⟨rfl, HX2⟩))
      | (refine ⟨trivial, ?_⟩; (try refine ⟨hdd _, ?_⟩); gi_at_call 34; refine (HIHR.out W2 HT2.out HJ2.out.1).mono ?_; clear HIHR; rintro e W3 (⟨rfl, HJ3⟩ | ⟨rfl, HX3⟩)))
    · go_ret
      refine .inl ⟨rfl, ?_, HJ2.out.2.trans HJ3.out.2⟩
      rw [HROW.out]
      have := HJ3.out.1
      simpa [List.append_assoc] using this
    · go_ret
      obtain ⟨q, hq, hx⟩ := HX3.out
      obtain ⟨r, hr⟩ := hq
      exact .inr ⟨rfl, prs a TL.row ++ (a + k, v) :: q, ⟨r, by rw [HROW.out, ← hr]; simp⟩, by simpa [List.append_assoc] using hx⟩
    · refine ⟨trivial, ?_⟩
      gi_wp2
      go_ret
      exact .inr ⟨rfl, prs a TL.row ++ [(a + k, v)], ⟨prs (a + k + 1) TR.row, by rw [HROW.out]; simp⟩, by simpa [List.append_assoc] using HX2.out⟩
    · refine ⟨fun _ h => (by cases h), ?_⟩
      gi_wp2
      (try (refine ⟨trivial, ?_⟩; gi_wp2))
      go_ret
      obtain ⟨q, hq, hx⟩ := HX1.out
      exact .inr ⟨rfl, q, hq.trans (by rw [HROW.out]; exact List.prefix_append _ _), hx⟩

set_option maxHeartbeats 2000000 in
theorem all1_in (n L Bs : Nat) (a : Option Addr) (l : List Int) (hl : l.length ≤ 1000000) (J Jx : List (Nat × Int) → World → Prop) (W : World) (hof : SV a l W)
    (hY : ∀ pre x W, J pre W → pre.length < l.length → YieldAt Fence.wide (n - 1) Try.prog L (encP x) W fun e W' =>
      (e = .returned (.bool true) ∧ J (pre ++ [x]) W' ∧ NK W W') ∨ (e = .returned (.bool false) ∧ Jx (pre ++ [x]) W'))
    (hBs : W.heap[Bs]? = some (.cells #[.pointer a] 25 (0, 0))) (h0 : J [] W) :
    CallsIn Fence.wide n Try.prog 33 #[.func (.yield L) #[] #[], .pointer (some ⟨Bs, 0, none⟩)] W fun e W' => (∃ v, e = .returned v) ∧
      ((∃ zs, zs = prs 0 l ∧ J zs W') ∨ (∃ pre, pre <+: prs 0 l ∧ Jx pre W')) := by
  have HT := keep (tree_any hof)
  have hcb : W.cell? ⟨Bs, 0, none⟩ = some (.pointer a) := by rw [cell_of_row W Bs _ _ _ _ hBs]; rfl
  have hdd : ∀ k : Nat, (Fence.wide.depth.isSome = true → 1 ≤ k) := fun k h => by cases h
  have HW : Keep (∀ p T, IsT W p T → T.row = l → CallsIn Fence.wide (n - 1) Try.prog 34 #[.pointer p, .int .i64 0, .func (.yield L) #[] #[]] W fun e W' =>
        (e = .returned (.bool true) ∧ Keep (J (prs 0 l) W')) ∨ (e = .returned (.bool false) ∧ Keep (∃ q, q <+: prs 0 l ∧ Jx q W'))) := ⟨fun p T ht hr =>
    (walk_in L l.length J Jx (fun m pre x W hj hlt => yield_any rfl m (hY pre x W hj hlt)) T (n - 1) p 0 0 [] W rfl ht h0 (by rw [hr]; simp) (by rw [hr]; omega)).mono
      (fun e W' h => by
        rw [hr] at h
        simp only [List.nil_append] at h
        exact h.elim (fun ⟨he, hj, _⟩ => .inl ⟨he, ⟨hj⟩⟩) (fun ⟨he, hq⟩ => .inr ⟨he, ⟨hq⟩⟩))⟩
  clear hof hY hBs h0
  refine callsIn_of_wp Try.func33 rfl trivial ?_ rfl
  simp only [Try.ntmps33, List.size_toArray, List.length_cons, List.length_nil, Nat.reduceAdd, Nat.reduceSub, Array.replicate_succ, Array.replicate_zero, List.push_toArray, List.append_toArray, List.nil_append, List.cons_append]
  gi_wp2_with (first
    | (refine ⟨trivial, ?_⟩; (try refine ⟨hdd _, ?_⟩); gi_at_call 30; refine (callsIn_wide.2 HT.out).mono ?_; clear HT; rintro e w' ⟨⟨p, T, rfl, ht, hr⟩, rfl⟩; have HWW := keep (HW.out p T ht hr); clear ht hr HW)
    | (refine ⟨trivial, ?_⟩; (try refine ⟨hdd _, ?_⟩); gi_at_call 34; refine HWW.out.mono ?_; clear HWW; rintro e W1 (⟨rfl, HJ⟩ | ⟨rfl, HX⟩)))
  · go_end0
    exact ⟨⟨_, rfl⟩, .inl ⟨_, rfl, HJ.out⟩⟩
  · go_end0
    exact ⟨⟨_, rfl⟩, .inr HX.out⟩

theorem SV.below {a : Option Addr} {l : List Int} {W W' : World} (h : SV a l W) (hb : Below W.heap.size W W') : SV a l W' := by
  rcases h with h | ⟨d, h1, h2⟩
  · exact .inl h
  · exact .inr ⟨d, h1, h2.below hb⟩
theorem all_stops (n Bs : Nat) (a : Option Addr) (l : List Int) (hl : l.length ≤ 1000000) (w : World) (hof : SV a l w) (hB : w.heap[Bs]? = some (.cells #[.pointer a] 25 (0, 0))) :
    SeqStopsK Fence.wide n Try.prog 33 #[.pointer (some ⟨Bs, 0, none⟩)] encP NK (fun zs => zs = prs 0 l) (fun pre => pre <+: prs 0 l) l.length w := fun L J Jx W hW' _ _ hY h0 =>
  all1_in n L Bs a l hl J Jx W (hof.below hW') hY ((hW'.block Bs (Array.getElem?_eq_some_iff.1 hB).1).trans hB) h0
theorem NK.loop (W : World) (k : Nat) (o o' : Obj) (ho : W.heap[k]? = some o) (hc : o.isCells = false) : NK W (W.putObj k o') := fun i cs hi => by
  have hne : i ≠ k := fun e => by subst e; rw [hi] at ho; injection ho with ho; subst ho; cases hc
  exact (World.putObj_heap_other hne).trans hi
theorem func_nil (B : Nat) (W : World) : (binOp .eql 40 (.func (.func 33) #[] #[.pointer (some ⟨B, 0, none⟩)]) .nilFunc).run Try.prog W = .ok (.bool false) W := by kernel_rfl
theorem below_grown {W W' : World} (hb : Below W.heap.size W W') : W.grownBy W' none := ⟨hb.os, hb.tape, hb.output, hb.size, fun k hk _ => hb.block k hk⟩

/-- The law's end: its answer is stored, what was collected is taken. -/
theorem lawEnd {w W : World} {D B : Nat} (hB : Below w.heap.size w W) (hr : Boxed W B 4 (.bool false)) (hK : W.heap[D]? = some (.deferred (some []))) (hwB : w.heap.size ≤ B) (hD : B < D) (b : Bool) :
    (W.setCell ⟨B, 0, none⟩ (.bool b)).heap[D]? = some (.deferred (some [])) ∧ ((W.setCell ⟨B, 0, none⟩ (.bool b)).putObj D (.deferred none)).cell? ⟨B, 0, none⟩ = some (.bool b) ∧ Below w.heap.size w ((W.setCell ⟨B, 0, none⟩ (.bool b)).putObj D (.deferred none)) := by
  have h2 := ((grownBy_setCell' W B (.bool b)).block D (Array.getElem?_eq_some_iff.1 hK).1 (fun e => by injection e; omega)).trans hK
  refine ⟨h2, cell_kept (hr.set (.bool b)).cell (grownBy_putObj' _ D (.deferred none)) (fun r e => by cases e; exact ⟨_, h2, rfl⟩), ?_⟩
  exact (hB.setCell (p := ⟨B, 0, none⟩) (by simpa using hwB) _).trans (belowK_b (w := w) (Nat.le_refl _) _ D _ _ (by omega) h2 rfl rfl)
end Go.Proofs.Ytjfgnmkgljljbaa
