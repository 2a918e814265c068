/-
  The document's Piece at class 83. (Laid by tools/gen/treeX.py.)
-/
import Derived.Test.YtgodjgbdjgiapaaTreeXE
namespace Go.Proofs.Ytgodjgbdjgiapaa
open Go.RowKit Go.Joins

set_option maxRecDepth 100000 in
set_option maxHeartbeats 16000000 in
theorem piece83 (T : ByteArray) (hT : T.toList = [83]) (o : Option Addr) (cap : Nat) (l : List Nd) (x : Nd) (a a1 : Nat) (ha1 : a1 = a + 1) (w : World) (hn : l.length ≤ 1000) (hs : x.S.size ≤ 9223372036854775807) (hk1 : -9223372036854775808 ≤ x.K) (hk2 : x.K ≤ 9223372036854775807) (hx : l[a]? = some x) (hQ : Ask (.slice o l.length cap) l x a1 w) (hnd : ∃ b off, o = some ⟨b, off, none⟩ ∧ b < w.heap.size ∧ NdAt w b (off + a * 5) x) :
    Calls Try.prog 28 #[.slice o l.length cap, .int .i64 (a : Int), .string T] w fun e w' => e = .returned (.agg #[.int .i64 ((goP l [83] a).1 : Int), .bool (goP l [83] a).2]) ∧ Below w.heap.size w w' := by
  obtain ⟨b, off, rfl, hblt, c0, c1, c2, c3, c4⟩ := hnd
  have hal := (List.getElem?_eq_some_iff.1 hx).1
  have haI : (a : Int) < (l.length : Int) := by omega
  have haI2 : (a : Int) ≤ 1000 := by omega
  have haw : IntKind.i64.wrap ((a : Int) + 1) = (a1 : Int) := by rw [ha1, show ((a + 1 : Nat) : Int) = (a : Int) + 1 by omega]; exact IntWalk.i64_in _ ⟨by omega, by omega⟩
  have hage : ¬ ((l.length : Int) ≤ (a : Int)) := by omega
  have hage2 : decide (l.length ≤ a) = false := decide_eq_false (by omega)
  have HTB := keep (PB.start w x a a1)
  have hQ4 := hQ.to (PB.start w x a a1).below
  have HCT := keep (stmt_any _ _ l x a a1 ha1 _ hk2 hx hQ4)
  obtain ⟨G, hG⟩ : ∃ G, G = goP l [83] a := ⟨_, rfl⟩
  rw [← hG] at HCT ⊢
  obtain ⟨op, s, n, k, at_⟩ := x
  unfold p4 at HTB HCT
  simp only at *
  obtain ⟨n0, n1, n2, n3, n4, o0, o1, i0, i1, r0, r1, rl, rf, rs0, rs1⟩ := HTB.out.facts
  simp only at n0 n1 n2 n3 n4
  clear hx hG hQ hn hage haI2 hs hQ4 ha1 hal hk1 hk2
  go_enter Try.func28, Try.ntmps28
  go_wp2_with fail
  refine (HCT.out).mono ?_
  rintro e w1 ⟨rfl, hb⟩
  have HTBw1 := keep (HTB.out.to hb)
  clear hb n0 n1 n2 n3 n4 o0 o1 i0 i1 r0 r1 rl rf rs0 rs1
  obtain ⟨n0, n1, n2, n3, n4, o0, o1, i0, i1, r0, r1, rl, rf, rs0, rs1⟩ := HTBw1.out.facts
  simp only at n0 n1 n2 n3 n4
  go_wp2_with fail
  refine bodyPost_ret (v := .agg #[.int .i64 (G.1 : Int), .bool G.2]) ?_ rfl ⟨rfl, (HTBw1.out.below.setCell (p := ⟨w.heap.size, 0, none⟩) (Nat.le_refl _) _).setCell (p := ⟨w.heap.size, 1, none⟩) (Nat.le_refl _) _⟩
  simp [results, Try.results28, go_sem, rs0, rs1]
end Go.Proofs.Ytgodjgbdjgiapaa
