/-
  How many bytes a frame has, by the program; the frames of bytes gone over: the program's Each, whatever a round does.
-/
import Derived.Test.YtghgahcgbnpidaaFrameB
import Derived.Test.YtghgahcgbnpidaaVintE
import Derived.RangeFuncNested
import Derived.RangeFuncBound
import Derived.RangeFuncCalls
import Derived.RangeFuncLeaves
import Derived.Shelf.Abstract
import Derived.Shelf.RegionOpen
import Derived.OwnWalkIn
import Derived.TacticsInMore
import Derived.LoopNIn
import Derived.LoopIn
namespace Go.Proofs.Ytghgahcgbnpidaa
open Go.RowKit Go.Shelf
attribute [local go_sem] Oper.semAt_some

set_option maxHeartbeats 400000 in
theorem length_any (f : Fr) (w : World) (hs : f.S.size ≤ 100000) : Calls Try.prog 30 #[f.agg] w fun e w' => e = .returned (.int .i64 (ln f)) ∧ Below w.heap.size w w' := by
  have HC := keep (fun w => size_any (f.S.size : Int) w (by omega) (by omega))
  rw [Int.toNat_natCast] at HC
  have hl := num_len f.S.size
  have HE : Keep (1 + ((num f.S.size).length : Int) + f.S.size + 4 = (ln f : Int)) := keep (by unfold ln; omega)
  generalize ln f = L at *
  generalize (num f.S.size).length = m at *
  obtain ⟨K, S⟩ := f
  unfold Fr.agg
  simp only at hs HC HE ⊢
  have hsI : (S.size : Int) ≤ 100000 := by omega
  have hmI : (m : Int) ≤ 11 := by omega
  have hw : IntKind.u64.wrap (S.size : Int) = S.size := IntWalk.u64_in _ ⟨by omega, by omega⟩
  clear hs hl
  go_enter Try.func30, Try.ntmps30
  go_wp2_with fail
  refine (HC.out _).mono ?_
  rintro e w' ⟨rfl, rfl⟩
  go_wp2_with fail
  go_ret
  exact ⟨ret_int HE.out, (Below.refl _ _).alloc (Nat.le_refl _) _⟩

theorem each_any (s : ByteArray) (w : World) : Calls Try.prog 18 #[.string s] w fun e w' => e = .returned (.func (.func 31) #[] #[.pointer (some ⟨w.heap.size, 0, none⟩)]) ∧ w' = w.alloc (.cells #[.string s] 9) := by
  go_enter Try.func18, Try.ntmps18
  go_wp2_with fail
  go_ret
  exact ⟨rfl, rfl⟩

/-- What a round is handed: a place, a frame. -/
abbrev Pf := { x : Nat × Fr // x.1 ≤ 100000 ∧ x.2.S.size ≤ 100000 }
def encP (x : Pf) : Array Value := #[.int .i64 (x.1.1 : Int), .agg #[.int .i64 x.1.2.K, .string x.1.2.S]]
/-- What a round must keep: the variable that Each has captured. -/
def KpB (B : Nat) (W W' : World) : Prop := W'.heap[B]? = W.heap[B]?

theorem grown_of_below {W W' : World} (hb : Below W.heap.size W W') : W.grownBy W' none := ⟨hb.os, hb.tape, hb.output, hb.size, fun k hk _ => hb.block k hk⟩

theorem runs_split {s : ByteArray} : ∀ {a : Nat} {xs ys : List (Nat × Fr)} {e : Nat}, runs s a (xs ++ ys) e → ∃ m, runs s a xs m ∧ runs s m ys e
  | a, [], ys, e, h => ⟨a, rfl, h⟩
  | a, x :: xs, ys, e, ⟨h1, n, h2, h3⟩ => by
    obtain ⟨m, h4, h5⟩ := runs_split h3
    exact ⟨m, ⟨h1, n, h2, h4⟩, h5⟩

set_option maxRecDepth 100000 in
set_option maxHeartbeats 4000000 in
/-- Each's function, whatever a round does. -/
theorem each1_in (n : Nat) (hn1 : 1 ≤ n) (l Bs : Nat) (s : ByteArray) (ys : List Pf) (e : Nat) (hs : s.size ≤ 100000) (hW : Whole s (ys.map (·.1)) e) (J Jx : List Pf → World → Prop) (W0 : World) (hJ : AbidesFrom W0.heap.size J)
    (hY : ∀ pre x W, J pre W → pre.length < ys.length → YieldAt Fence.wide (n - 1) Try.prog l (encP x) W fun e W' =>
      (e = .returned (.bool true) ∧ J (pre ++ [x]) W' ∧ KpB Bs W W') ∨ (e = .returned (.bool false) ∧ Jx (pre ++ [x]) W'))
    (hBs : W0.heap[Bs]? = some (.cells #[.string s] 9 (0, 0))) (h0 : J [] W0) :
    CallsIn Fence.wide n Try.prog 31 #[.func (.yield l) #[] #[], .pointer (some ⟨Bs, 0, none⟩)] W0 fun e W' => (∃ v, e = .returned v) ∧
      ((∃ zs, zs = ys ∧ J zs W') ∨ (∃ pre, pre <+: ys ∧ Jx pre W')) := by
  refine callsIn_of_wp Try.func31 rfl trivial ?_ rfl
  simp only [Try.ntmps31, List.size_toArray, List.length_cons, List.length_nil, Nat.reduceAdd, Nat.reduceSub, Array.replicate_succ, Array.replicate_zero, List.push_toArray, List.append_toArray, List.nil_append, List.cons_append]
  have HW := keep hW
  have HS := keep hs
  have HJ := keep hJ
  have HY := keep hY
  have H0 := keep h0
  have HBS := keep hBs
  clear hW hs hJ hY h0 hBs
  gi_wp2
  gi_loopw [3] (fun at_ wr => ∃ (pre rest : List Pf) (a : Nat), at_ = .int .i64 a ∧ Keep (ys = pre ++ rest ∧ runs s a (rest.map (·.1)) e ∧ a ≤ s.size ∧ J pre wr ∧ wr.heap[Bs]? = some (.cells #[.string s] 9 (0, 0)))) (fun at_ _ => s.size + 1 - (intOf at_).toNat)
  case atStart => exact ⟨[], ys, 0, rfl, ⟨rfl, HW.out.run, Nat.zero_le _, H0.out, HBS.out⟩⟩
  case round =>
    obtain ⟨pre, rest, a, rfl, HR⟩ := hrel
    have hc : wr.cell? ⟨Bs, 0, none⟩ = some (.string s) := by rw [cell_of_row wr Bs 0 _ _ _ HR.out.2.2.2.2]; rfl
    have HN0 := fun W => fnext_any s (a : Int) W HS.out
    rw [nxI_in HR.out.2.2.1] at HN0
    cases rest with
    | nil =>
      obtain rfl : a = e := HR.out.2.1
      have hl := HW.out.last
      generalize nx s a = N at *
      obtain ⟨⟨K, S⟩, m, er⟩ := N
      unfold nxT Fr.agg at HN0
      simp only at HN0 hl
      have HN := keep HN0
      have hne : ((er : Int) != 0) = true := by simp; omega
      clear HN0 hl
      gi_wp2_with (refine ⟨trivial, ?_⟩; gi_at_call 12; refine (callsIn_wide.2 (HN.out _)).mono ?_; rintro e w1 ⟨rfl, hb⟩; have HB1 := keep hb; clear hb)
      refine ⟨fun _ h => (by cases h), ?_⟩
      gi_wp2
      refine bodyPost_ret (results_none rfl _ _ _) rfl ?_
      obtain ⟨h1, _, _, h4, _⟩ := HR.out
      have h5 := HJ.out _ _ _ none h4 (grown_of_below HB1.out) (fun _ e => by cases e)
      have h6 := HJ.out _ _ _ none h5 (World.grownBy_alloc w1 (.cells #[.int .i64 K, .string S] 23) none) (fun _ e => by cases e)
      exact ⟨⟨_, rfl⟩, .inl ⟨pre, by simpa using h1.symm, h6⟩⟩
    | cons x r =>
      obtain ⟨hys, hrun, hale, hJ, hB⟩ := HR.out
      obtain ⟨hxa, m, hm0, hr⟩ := hrun
      have hm : nx s a = (x.1.2, m, 0) := hm0
      clear hm0
      have hok := nx_ok hale hm
      have hmle := hok.2.2.1
      have hgt : a < m := by
        have := hok.2.1
        have := ln_bd x.1.2; omega
      clear hok
      have HX : Keep (x.1.1 = a ∧ runs s m (r.map (·.1)) e ∧ m ≤ s.size ∧ a < m) := ⟨hxa, hr, hmle, hgt⟩
      rw [hm] at HN0
      obtain ⟨⟨p, f⟩, hpf⟩ := x
      simp only at hxa
      subst hxa
      obtain ⟨K, S⟩ := f
      unfold nxT Fr.agg at HN0
      simp only at HN0
      have HN := keep HN0
      have HJ0 := keep hJ
      have HB0 := keep hB
      have HYS := keep hys
      clear HN0 hys hr hale hJ hB hm hmle hgt
      have HLN : Keep (pre.length < ys.length) := ⟨by rw [HYS.out, List.length_append, List.length_cons]; omega⟩
      have HYY := keep (fun w1 (hb : Below wr.heap.size wr w1) => HY.out pre ⟨(p, ⟨K, S⟩), hpf⟩ (w1.alloc (.cells #[.int .i64 K, .string S] 23)) (HJ.out _ _ _ none (HJ.out _ _ _ none HJ0.out (grown_of_below hb) (fun _ e => by cases e)) (World.grownBy_alloc w1 (.cells #[.int .i64 K, .string S] 23) none) (fun _ e => by cases e)) HLN.out)
      gi_wp2_with (refine ⟨trivial, ?_⟩; gi_at_call 12; refine (callsIn_wide.2 (HN.out _)).mono ?_; rintro e w1 ⟨rfl, hb⟩; obtain ⟨fn, tmps, assign, body, hy, hR⟩ := HYY.out w1 hb; dsimp only [encP] at hy; have HR1 := keep hR; have HB1 := keep hb; clear hb hR)
      refine HR1.out.mono ?_
      rintro e W3 (⟨rfl, hJ3, hk3⟩ | ⟨rfl, hJx3⟩)
      · have HJ3 := keep hJ3
        have HK3 : Keep (W3.heap[Bs]? = some (.cells #[.string s] 9 (0, 0))) := ⟨by
          have hlt := (Array.getElem?_eq_some_iff.1 HB0.out).1
          have h1 := (HB1.out.block Bs hlt).trans HB0.out
          rw [show W3.heap[Bs]? = _ from hk3, Below.heap_alloc w1 _ Bs (Array.getElem?_eq_some_iff.1 h1).1]
          exact h1⟩
        clear hJ3 hk3
        gi_wp2
        go_roundw
        case rel => exact ⟨pre ++ [⟨(p, ⟨K, S⟩), hpf⟩], r, m, rfl, ⟨by rw [HYS.out]; simp, HX.out.2.1, HX.out.2.2.1, HJ3.out, HK3.out⟩⟩
        case measure => have := HX.out; simp [intOf]; omega
      · have HJ3 := keep hJx3
        clear hJx3
        gi_wp2
        refine bodyPost_ret (results_none rfl _ _ _) rfl ?_
        exact ⟨⟨_, rfl⟩, .inr ⟨_, ⟨r, by rw [HYS.out]; simp⟩, HJ3.out⟩⟩
end Go.Proofs.Ytghgahcgbnpidaa
