/-
  The document's clause. (Laid by tools/gen/treeX.py.)
-/
import Derived.Test.YtgodjgbdjgiapaaTreeXA
import Derived.Test.YtgodjgbdjgiapaaTreeXD34
import Derived.Test.YtgodjgbdjgiapaaTreeXD35
import Derived.Test.YtgodjgbdjgiapaaTreeXD36
namespace Go.Proofs.Ytgodjgbdjgiapaa
open Go.RowKit Go.Joins

set_option maxRecDepth 100000 in
set_option maxHeartbeats 16000000 in
theorem clause_any (o : Option Addr) (cap : Nat) (l : List Nd) (x : Nd) (a a1 : Nat) (ha1 : a1 = a + 1) (w : World) (hk2 : x.K ≤ 9223372036854775807) (hs : x.S.size ≤ 9223372036854775807) (hx : l[a]? = some x) (hQ : Ask (.slice o l.length cap) l x a1 w) :
    Calls Try.prog 41 #[.slice o l.length cap, .agg #[.int .i64 x.O, .string x.S, .int .i64 x.N, .int .i64 x.K, .int .i64 x.A], .agg #[.int .i64 (a : Int), .bool false], .agg #[.int .i64 (a1 : Int), .bool true]] w fun e w' => e = .returned (.agg #[.int .i64 ((goP l [67] a).1 : Int), .bool (goP l [67] a).2]) ∧ Below w.heap.size w w' := by
  by_cases c34 : x.O = 34
  · exact clause34_any o cap l x a a1 ha1 w hk2 hs c34 hx hQ
  by_cases c35 : x.O = 35
  · exact clause35_any o cap l x a a1 ha1 w hk2 hs c35 hx hQ
  by_cases c36 : x.O = 36
  · exact clause36_any o cap l x a a1 ha1 w hk2 hs c36 hx hQ
  have HTB := keep (TB.start w x a a1)
  have HOFF := keep (fun h => goP_off (l := l) (c := 67) hx h)
  have HCASE := keep (fun (r : List UInt8) (b : Bool) h => goP_case (l := l) (c := 67) (r := r) (b := b) hx h)
  have HNM := keep hQ.nm
  have HBR := keep hQ.br
  have HROW := keep hQ.row
  have HALL := keep hQ.all
  rw [← ha1] at HCASE
  clear ha1
  obtain ⟨op, s, n, k, at_⟩ := x
  unfold w4 at HTB
  simp only at *
  clear hs
  obtain ⟨n0, n1, n2, n3, n4, o0, o1, i0, i1, r0, r1, rl, rf, rs0, rs1⟩ := HTB.out.facts
  simp only at n0 n1 n2 n3 n4
  obtain ⟨G, hG⟩ : ∃ G, G = goP l [67] a := ⟨_, rfl⟩
  rw [← hG] at HOFF HCASE ⊢
  clear hx hG hQ
  by_cases h0 : op = 37
  · subst h0
    clear c34 c35 c36
    have HE0 : Keep (G = if bar ⟨37, s, n, k, at_⟩ 1 = true then goR l [66] (a1, true) else (a, false)) := ⟨HCASE.out [66] (bar ⟨37, s, n, k, at_⟩ 1) (rowC_bar (x := ⟨37, s, n, k, at_⟩) (f := [66]) rfl rfl rfl rfl)⟩
    have HC1 := keep (fun W => HBR.out 1 W)
    have HRW := keep (fun W hW => HROW.out [66] (by decide) (by decide) W hW)
    rw [show str [66] = ⟨#[66]⟩ from rfl] at HRW
    clear HOFF HCASE HNM HBR HROW HALL
    generalize bar ⟨37, s, n, k, at_⟩ 1 = b at *
    cases b with
    | true =>
      have HE : Keep (goR l [66] (a1, true) = G) := ⟨by have := HE0.out; rw [if_pos rfl] at this; exact this.symm⟩
      rw [HE.out] at HRW
      clear HE0
      go_enter Try.func41, Try.ntmps41
      go_wp2_with fail
      refine (HC1.out _).mono ?_
      rintro e w1 ⟨rfl, hb⟩
      have HTBw1 := keep (HTB.out.to hb)
      clear hb n0 n1 n2 n3 n4 o0 o1 i0 i1 r0 r1 rl rf rs0 rs1
      obtain ⟨n0, n1, n2, n3, n4, o0, o1, i0, i1, r0, r1, rl, rf, rs0, rs1⟩ := HTBw1.out.facts
      simp only at n0 n1 n2 n3 n4
      go_wp2_with fail
      refine (HRW.out _ HTBw1.out.below).mono ?_
      rintro e w2 ⟨rfl, hb⟩
      have HTBw2 := keep (HTBw1.out.to hb)
      clear hb n0 n1 n2 n3 n4 o0 o1 i0 i1 r0 r1 rl rf rs0 rs1
      obtain ⟨n0, n1, n2, n3, n4, o0, o1, i0, i1, r0, r1, rl, rf, rs0, rs1⟩ := HTBw2.out.facts
      simp only at n0 n1 n2 n3 n4
      go_wp2_with fail
      refine bodyPost_ret (v := .agg #[.int .i64 (G.1 : Int), .bool G.2]) ?_ rfl ⟨rfl, (HTBw2.out.below.setCell (p := ⟨w.heap.size + 1 + 1 + 1, 0, none⟩) (by simp only; omega) _).setCell (p := ⟨w.heap.size + 1 + 1 + 1, 1, none⟩) (by simp only; omega) _⟩
      simp [results, Try.results41, go_sem, rs0, rs1]
    | false =>
      have HE : Keep ((a, false) = G) := ⟨by have := HE0.out; rw [if_neg (by simp)] at this; exact this.symm⟩
      clear HE0
      go_enter Try.func41, Try.ntmps41
      go_wp2_with fail
      refine (HC1.out _).mono ?_
      rintro e w1 ⟨rfl, hb⟩
      have HTBw1 := keep (HTB.out.to hb)
      clear hb n0 n1 n2 n3 n4 o0 o1 i0 i1 r0 r1 rl rf rs0 rs1
      obtain ⟨n0, n1, n2, n3, n4, o0, o1, i0, i1, r0, r1, rl, rf, rs0, rs1⟩ := HTBw1.out.facts
      simp only at n0 n1 n2 n3 n4
      go_wp2_with fail
      refine bodyPost_ret (v := .agg #[.int .i64 (a : Int), .bool false]) ?_ rfl ⟨by rw [← HE.out], (HTBw1.out.below.setCell (p := ⟨w.heap.size + 1 + 1 + 1, 0, none⟩) (by simp only; omega) _).setCell (p := ⟨w.heap.size + 1 + 1 + 1, 1, none⟩) (by simp only; omega) _⟩
      simp [results, Try.results41, go_sem, rs0, rs1]
  have q0 : (op == 37) = false := by simpa using h0
  have HE : Keep ((a, false) = G) := ⟨(HOFF.out (by unfold clsOf; (repeat' split) <;> first | decide | (exfalso; omega))).symm⟩
  have q34 : (op == 34) = false := by simpa using c34
  have q35 : (op == 35) = false := by simpa using c35
  have q36 : (op == 36) = false := by simpa using c36
  clear HOFF HCASE HNM HBR HROW HALL hk2 h0 c34 c35 c36
  go_enter Try.func41, Try.ntmps41
  go_wp2_with fail
  refine bodyPost_ret (v := .agg #[.int .i64 (a : Int), .bool false]) ?_ rfl ⟨by rw [← HE.out], ((((Below.refl _ w).alloc (Nat.le_refl _) _).alloc (by simp) _).alloc (by simp; omega) _).alloc (by simp; omega) _⟩
  simp [results, Try.results41, go_sem]
end Go.Proofs.Ytgodjgbdjgiapaa
