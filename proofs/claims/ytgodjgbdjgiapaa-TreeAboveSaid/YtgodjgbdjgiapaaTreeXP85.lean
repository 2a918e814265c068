/-
  The document's Piece at class 85. (Laid by tools/gen/treeX.py.)
-/
import Derived.Test.YtgodjgbdjgiapaaTreeXE
namespace Go.Proofs.Ytgodjgbdjgiapaa
open Go.RowKit Go.Joins

set_option maxRecDepth 100000 in
set_option maxHeartbeats 16000000 in
theorem piece85 (T : ByteArray) (hT : T.toList = [85]) (o : Option Addr) (cap : Nat) (l : List Nd) (x : Nd) (a a1 : Nat) (ha1 : a1 = a + 1) (w : World) (hn : l.length ≤ 1000) (hs : x.S.size ≤ 9223372036854775807) (hk1 : -9223372036854775808 ≤ x.K) (hk2 : x.K ≤ 9223372036854775807) (hx : l[a]? = some x) (hQ : Ask (.slice o l.length cap) l x a1 w) (hnd : ∃ b off, o = some ⟨b, off, none⟩ ∧ b < w.heap.size ∧ NdAt w b (off + a * 5) x) :
    Calls Try.prog 28 #[.slice o l.length cap, .int .i64 (a : Int), .string T] w fun e w' => e = .returned (.agg #[.int .i64 ((goP l [85] a).1 : Int), .bool (goP l [85] a).2]) ∧ Below w.heap.size w w' := by
  obtain ⟨b, off, rfl, hblt, c0, c1, c2, c3, c4⟩ := hnd
  have hal := (List.getElem?_eq_some_iff.1 hx).1
  have haI : (a : Int) < (l.length : Int) := by omega
  have haI2 : (a : Int) ≤ 1000 := by omega
  have haw : IntKind.i64.wrap ((a : Int) + 1) = (a1 : Int) := by rw [ha1, show ((a + 1 : Nat) : Int) = (a : Int) + 1 by omega]; exact IntWalk.i64_in _ ⟨by omega, by omega⟩
  have hage : ¬ ((l.length : Int) ≤ (a : Int)) := by omega
  have hage2 : decide (l.length ≤ a) = false := decide_eq_false (by omega)
  have HTB := keep (PB.start w x a a1)
  have HOFF := keep (fun h => goP_off (l := l) (c := 85) hx h)
  have HCASE := keep (fun (r : List UInt8) (b : Bool) h => goP_case (l := l) (c := 85) (r := r) (b := b) hx h)
  have HNM := keep hQ.nm
  have HBR := keep hQ.br
  have HROW := keep hQ.row
  have HALL := keep hQ.all
  have HRN := keep (fun W => rname_s x.S hs W)
  rw [← ha1] at HCASE
  clear ha1 hal
  obtain ⟨op, s, n, k, at_⟩ := x
  unfold p4 at HTB
  simp only at *
  obtain ⟨n0, n1, n2, n3, n4, o0, o1, i0, i1, r0, r1, rl, rf, rs0, rs1⟩ := HTB.out.facts
  simp only at n0 n1 n2 n3 n4
  obtain ⟨G, hG⟩ : ∃ G, G = goP l [85] a := ⟨_, rfl⟩
  rw [← hG] at HOFF HCASE ⊢
  clear hx hG hQ hn hage haI2 hs
  by_cases h0 : op = 42
  · subst h0
    clear HRN
    have HE0 : Keep (G = if (decide (0 ≤ k) && bar ⟨42, s, n, k, at_⟩ k) = true then goR l (List.replicate k.toNat 68) (a1, true) else (a, false)) := ⟨HCASE.out _ _ (rowC_mbar (x := ⟨42, s, n, k, at_⟩) (f := []) (m := 68) (la := []) rfl rfl rfl rfl rfl (fun _ => row_all 68 k.toNat))⟩
    have HC1 := keep (fun W => HBR.out k W)
    have HRW := keep (fun W hW => HALL.out 68 (by decide) k hk2 W hW)
    rw [show str [68] = ⟨#[68]⟩ from rfl] at HRW
    clear HOFF HCASE HNM HBR HROW HALL hk1 hk2
    by_cases hk : 0 ≤ k
    · have hd : decide (0 ≤ k) = true := decide_eq_true hk
      rw [hd, Bool.true_and] at HE0
      generalize bar ⟨42, s, n, k, at_⟩ k = b at *
      cases b with
      | true =>
        have HE : Keep (goR l (List.replicate k.toNat 68) (a1, true) = G) := ⟨by have := HE0.out; rw [if_pos rfl] at this; exact this.symm⟩
        rw [HE.out] at HRW
        clear HE0 hk
        go_enter Try.func28, Try.ntmps28
        go_wp2_with fail
        refine (HC1.out _).mono ?_
        rintro e w1 ⟨rfl, hb⟩
        have HTBw1 := keep (HTB.out.to hb)
        clear hb n0 n1 n2 n3 n4 o0 o1 i0 i1 r0 r1 rl rf rs0 rs1
        obtain ⟨n0, n1, n2, n3, n4, o0, o1, i0, i1, r0, r1, rl, rf, rs0, rs1⟩ := HTBw1.out.facts
        simp only at n0 n1 n2 n3 n4
        go_wp2_with fail
        refine (HRW.out _ HTBw1.out.below).mono ?_
        rintro e w2 ⟨rfl, hb⟩
        have HTBw2 := keep (HTBw1.out.to hb)
        clear hb n0 n1 n2 n3 n4 o0 o1 i0 i1 r0 r1 rl rf rs0 rs1
        obtain ⟨n0, n1, n2, n3, n4, o0, o1, i0, i1, r0, r1, rl, rf, rs0, rs1⟩ := HTBw2.out.facts
        simp only at n0 n1 n2 n3 n4
        go_wp2_with fail
        refine bodyPost_ret (v := .agg #[.int .i64 (G.1 : Int), .bool G.2]) ?_ rfl ⟨rfl, (HTBw2.out.below.setCell (p := ⟨w.heap.size, 0, none⟩) (Nat.le_refl _) _).setCell (p := ⟨w.heap.size, 1, none⟩) (Nat.le_refl _) _⟩
        simp [results, Try.results28, go_sem, rs0, rs1]
      | false =>
        have HE : Keep ((a, false) = G) := ⟨by have := HE0.out; rw [if_neg (by simp)] at this; exact this.symm⟩
        clear HE0 hk
        go_enter Try.func28, Try.ntmps28
        go_wp2_with fail
        refine (HC1.out _).mono ?_
        rintro e w1 ⟨rfl, hb⟩
        have HTBw1 := keep (HTB.out.to hb)
        clear hb n0 n1 n2 n3 n4 o0 o1 i0 i1 r0 r1 rl rf rs0 rs1
        obtain ⟨n0, n1, n2, n3, n4, o0, o1, i0, i1, r0, r1, rl, rf, rs0, rs1⟩ := HTBw1.out.facts
        simp only at n0 n1 n2 n3 n4
        go_wp2_with fail
        refine bodyPost_ret (v := .agg #[.int .i64 (a : Int), .bool false]) ?_ rfl ⟨by rw [← HE.out], (HTBw1.out.below.setCell (p := ⟨w.heap.size, 0, none⟩) (Nat.le_refl _) _).setCell (p := ⟨w.heap.size, 1, none⟩) (Nat.le_refl _) _⟩
        simp [results, Try.results28, go_sem, rs0, rs1]
    · have hd : decide (0 ≤ k) = false := decide_eq_false hk
      have HE : Keep ((a, false) = G) := ⟨by have := HE0.out; rw [hd, Bool.false_and, if_neg (by simp)] at this; exact this.symm⟩
      clear HE0 hk
      go_enter Try.func28, Try.ntmps28
      go_wp2_with fail
      refine bodyPost_ret (v := .agg #[.int .i64 (a : Int), .bool false]) ?_ rfl ⟨by rw [← HE.out], ((((Below.refl _ w).alloc (Nat.le_refl _) _).alloc (by simp) _).alloc (by simp; omega) _).alloc (by simp; omega) _⟩
      simp [results, Try.results28, go_sem]
  have q0 : (op == 42) = false := by simpa using h0
  have HE : Keep ((a, false) = G) := ⟨(HOFF.out (by unfold clsOf; (repeat' split) <;> first | decide | (exfalso; omega))).symm⟩
  clear HOFF HCASE HNM HBR HROW HALL HRN hk1 hk2 h0
  go_enter Try.func28, Try.ntmps28
  go_wp2_with fail
  refine bodyPost_ret (v := .agg #[.int .i64 (a : Int), .bool false]) ?_ rfl ⟨by rw [← HE.out], ((((Below.refl _ w).alloc (Nat.le_refl _) _).alloc (by simp) _).alloc (by simp; omega) _).alloc (by simp; omega) _⟩
  simp [results, Try.results28, go_sem]
end Go.Proofs.Ytgodjgbdjgiapaa
