/-
  The document's Piece at class 82. (Laid by tools/gen/treeX.py.)
-/
import Derived.Test.YtgodjgbdjgiapaaTreeXE
namespace Go.Proofs.Ytgodjgbdjgiapaa
open Go.RowKit Go.Joins

set_option maxRecDepth 100000 in
set_option maxHeartbeats 16000000 in
theorem piece82 (T : ByteArray) (hT : T.toList = [82]) (o : Option Addr) (cap : Nat) (l : List Nd) (x : Nd) (a a1 : Nat) (ha1 : a1 = a + 1) (w : World) (hn : l.length ≤ 1000) (hs : x.S.size ≤ 9223372036854775807) (hk1 : -9223372036854775808 ≤ x.K) (hk2 : x.K ≤ 9223372036854775807) (hx : l[a]? = some x) (hQ : Ask (.slice o l.length cap) l x a1 w) (hnd : ∃ b off, o = some ⟨b, off, none⟩ ∧ b < w.heap.size ∧ NdAt w b (off + a * 5) x) :
    Calls Try.prog 28 #[.slice o l.length cap, .int .i64 (a : Int), .string T] w fun e w' => e = .returned (.agg #[.int .i64 ((goP l [82] a).1 : Int), .bool (goP l [82] a).2]) ∧ Below w.heap.size w w' := by
  obtain ⟨b, off, rfl, hblt, c0, c1, c2, c3, c4⟩ := hnd
  have hal := (List.getElem?_eq_some_iff.1 hx).1
  have haI : (a : Int) < (l.length : Int) := by omega
  have haI2 : (a : Int) ≤ 1000 := by omega
  have haw : IntKind.i64.wrap ((a : Int) + 1) = (a1 : Int) := by rw [ha1, show ((a + 1 : Nat) : Int) = (a : Int) + 1 by omega]; exact IntWalk.i64_in _ ⟨by omega, by omega⟩
  have hage : ¬ ((l.length : Int) ≤ (a : Int)) := by omega
  have hage2 : decide (l.length ≤ a) = false := decide_eq_false (by omega)
  have HTB := keep (PB.start w x a a1)
  have HOFF := keep (fun h => goP_off (l := l) (c := 82) hx h)
  have HCASE := keep (fun (r : List UInt8) (b : Bool) h => goP_case (l := l) (c := 82) (r := r) (b := b) hx h)
  have HNM := keep hQ.nm
  have HBR := keep hQ.br
  have HROW := keep hQ.row
  have HALL := keep hQ.all
  have HRN := keep (fun W => rname_s x.S hs W)
  rw [← ha1] at HCASE
  clear ha1 hal
  obtain ⟨op, s, n, k, at_⟩ := x
  unfold p4 at HTB
  simp only at *
  obtain ⟨n0, n1, n2, n3, n4, o0, o1, i0, i1, r0, r1, rl, rf, rs0, rs1⟩ := HTB.out.facts
  simp only at n0 n1 n2 n3 n4
  obtain ⟨G, hG⟩ : ∃ G, G = goP l [82] a := ⟨_, rfl⟩
  rw [← hG] at HOFF HCASE ⊢
  clear hx hG hQ hn hage haI2 hs
  by_cases h0 : op = 33
  · subst h0
    clear HRN
    have HC0 := keep (fun W => HNM.out 0 W)
    have HC1 := keep (fun W => HNM.out 1 W)
    have HRW := keep (fun W hW => HALL.out 69 (by decide) k hk2 W hW)
    rw [show str [69] = ⟨#[69]⟩ from rfl] at HRW
    by_cases hk : k = 1
    · subst hk
      have hb0 : nmd ⟨33, s, n, 1, at_⟩ 0 = false := by unfold nmd; simp
      have HE0 : Keep (G = if nmd ⟨33, s, n, 1, at_⟩ 1 = true then goR l [69] (a1, true) else (a, false)) := ⟨HCASE.out [69] _ (rowC_nmd (x := ⟨33, s, n, 1, at_⟩) (f := [69]) rfl rfl rfl rfl)⟩
      rw [hb0] at HC0
      clear HOFF HCASE HNM HBR HROW HALL hk1 hk2 hb0
      generalize nmd ⟨33, s, n, 1, at_⟩ 1 = b1 at *
      cases b1 with
      | true =>
        have HE : Keep (goR l (List.replicate (1 : Int).toNat 69) (a1, true) = G) := ⟨by have := HE0.out; rw [if_pos rfl] at this; exact this.symm⟩
        rw [HE.out] at HRW
        clear HE0
        go_enter Try.func28, Try.ntmps28
        go_wp2_with fail
        refine (HC0.out _).mono ?_
        rintro e w1 ⟨rfl, hb⟩
        have HTBw1 := keep (HTB.out.to hb)
        clear hb n0 n1 n2 n3 n4 o0 o1 i0 i1 r0 r1 rl rf rs0 rs1
        obtain ⟨n0, n1, n2, n3, n4, o0, o1, i0, i1, r0, r1, rl, rf, rs0, rs1⟩ := HTBw1.out.facts
        simp only at n0 n1 n2 n3 n4
        go_wp2_with fail
        refine (HC1.out _).mono ?_
        rintro e w2 ⟨rfl, hb⟩
        have HTBw2 := keep (HTBw1.out.to hb)
        clear hb n0 n1 n2 n3 n4 o0 o1 i0 i1 r0 r1 rl rf rs0 rs1
        obtain ⟨n0, n1, n2, n3, n4, o0, o1, i0, i1, r0, r1, rl, rf, rs0, rs1⟩ := HTBw2.out.facts
        simp only at n0 n1 n2 n3 n4
        go_wp2_with fail
        refine (HRW.out _ HTBw2.out.below).mono ?_
        rintro e w3 ⟨rfl, hb⟩
        have HTBw3 := keep (HTBw2.out.to hb)
        clear hb n0 n1 n2 n3 n4 o0 o1 i0 i1 r0 r1 rl rf rs0 rs1
        obtain ⟨n0, n1, n2, n3, n4, o0, o1, i0, i1, r0, r1, rl, rf, rs0, rs1⟩ := HTBw3.out.facts
        simp only at n0 n1 n2 n3 n4
        go_wp2_with fail
        refine bodyPost_ret (v := .agg #[.int .i64 (G.1 : Int), .bool G.2]) ?_ rfl ⟨rfl, (HTBw3.out.below.setCell (p := ⟨w.heap.size, 0, none⟩) (Nat.le_refl _) _).setCell (p := ⟨w.heap.size, 1, none⟩) (Nat.le_refl _) _⟩
        simp [results, Try.results28, go_sem, rs0, rs1]
      | false =>
        have HE : Keep ((a, false) = G) := ⟨by have := HE0.out; rw [if_neg (by simp)] at this; exact this.symm⟩
        clear HE0
        go_enter Try.func28, Try.ntmps28
        go_wp2_with fail
        refine (HC0.out _).mono ?_
        rintro e w1 ⟨rfl, hb⟩
        have HTBw1 := keep (HTB.out.to hb)
        clear hb n0 n1 n2 n3 n4 o0 o1 i0 i1 r0 r1 rl rf rs0 rs1
        obtain ⟨n0, n1, n2, n3, n4, o0, o1, i0, i1, r0, r1, rl, rf, rs0, rs1⟩ := HTBw1.out.facts
        simp only at n0 n1 n2 n3 n4
        go_wp2_with fail
        refine (HC1.out _).mono ?_
        rintro e w2 ⟨rfl, hb⟩
        have HTBw2 := keep (HTBw1.out.to hb)
        clear hb n0 n1 n2 n3 n4 o0 o1 i0 i1 r0 r1 rl rf rs0 rs1
        obtain ⟨n0, n1, n2, n3, n4, o0, o1, i0, i1, r0, r1, rl, rf, rs0, rs1⟩ := HTBw2.out.facts
        simp only at n0 n1 n2 n3 n4
        go_wp2_with fail
        refine bodyPost_ret (v := .agg #[.int .i64 (a : Int), .bool false]) ?_ rfl ⟨by rw [← HE.out], (HTBw2.out.below.setCell (p := ⟨w.heap.size, 0, none⟩) (Nat.le_refl _) _).setCell (p := ⟨w.heap.size, 1, none⟩) (Nat.le_refl _) _⟩
        simp [results, Try.results28, go_sem, rs0, rs1]
    · have hb1 : nmd ⟨33, s, n, k, at_⟩ 1 = false := by unfold nmd; rw [show (k == 1) = false by simpa using hk]; simp
      have HE0 : Keep (G = if nmd ⟨33, s, n, k, at_⟩ 0 = true then goR l [] (a1, true) else (a, false)) := ⟨HCASE.out [] _ (rowC_nmd (x := ⟨33, s, n, k, at_⟩) (f := []) rfl rfl rfl (by unfold shpP; simp [hk]))⟩
      have HK0 : Keep (nmd ⟨33, s, n, k, at_⟩ 0 = true → k = 0) := ⟨fun h => by unfold nmd at h; simp only [Bool.and_eq_true, beq_iff_eq] at h; exact h.2⟩
      rw [hb1] at HC1
      clear HOFF HCASE HNM HBR HROW HALL hk1 hk2 hb1 hk
      generalize nmd ⟨33, s, n, k, at_⟩ 0 = b0 at *
      cases b0 with
      | true =>
        obtain rfl : k = 0 := HK0.out rfl
        have HE : Keep (goR l (List.replicate (0 : Int).toNat 69) (a1, true) = G) := ⟨by have := HE0.out; rw [if_pos rfl] at this; exact this.symm⟩
        rw [HE.out] at HRW
        clear HE0 HK0
        go_enter Try.func28, Try.ntmps28
        go_wp2_with fail
        refine (HC0.out _).mono ?_
        rintro e w1 ⟨rfl, hb⟩
        have HTBw1 := keep (HTB.out.to hb)
        clear hb n0 n1 n2 n3 n4 o0 o1 i0 i1 r0 r1 rl rf rs0 rs1
        obtain ⟨n0, n1, n2, n3, n4, o0, o1, i0, i1, r0, r1, rl, rf, rs0, rs1⟩ := HTBw1.out.facts
        simp only at n0 n1 n2 n3 n4
        go_wp2_with fail
        refine (HRW.out _ HTBw1.out.below).mono ?_
        rintro e w3 ⟨rfl, hb⟩
        have HTBw3 := keep (HTBw1.out.to hb)
        clear hb n0 n1 n2 n3 n4 o0 o1 i0 i1 r0 r1 rl rf rs0 rs1
        obtain ⟨n0, n1, n2, n3, n4, o0, o1, i0, i1, r0, r1, rl, rf, rs0, rs1⟩ := HTBw3.out.facts
        simp only at n0 n1 n2 n3 n4
        go_wp2_with fail
        refine bodyPost_ret (v := .agg #[.int .i64 (G.1 : Int), .bool G.2]) ?_ rfl ⟨rfl, (HTBw3.out.below.setCell (p := ⟨w.heap.size, 0, none⟩) (Nat.le_refl _) _).setCell (p := ⟨w.heap.size, 1, none⟩) (Nat.le_refl _) _⟩
        simp [results, Try.results28, go_sem, rs0, rs1]
      | false =>
        have HE : Keep ((a, false) = G) := ⟨by have := HE0.out; rw [if_neg (by simp)] at this; exact this.symm⟩
        clear HE0 HK0
        go_enter Try.func28, Try.ntmps28
        go_wp2_with fail
        refine (HC0.out _).mono ?_
        rintro e w1 ⟨rfl, hb⟩
        have HTBw1 := keep (HTB.out.to hb)
        clear hb n0 n1 n2 n3 n4 o0 o1 i0 i1 r0 r1 rl rf rs0 rs1
        obtain ⟨n0, n1, n2, n3, n4, o0, o1, i0, i1, r0, r1, rl, rf, rs0, rs1⟩ := HTBw1.out.facts
        simp only at n0 n1 n2 n3 n4
        go_wp2_with fail
        refine (HC1.out _).mono ?_
        rintro e w2 ⟨rfl, hb⟩
        have HTBw2 := keep (HTBw1.out.to hb)
        clear hb n0 n1 n2 n3 n4 o0 o1 i0 i1 r0 r1 rl rf rs0 rs1
        obtain ⟨n0, n1, n2, n3, n4, o0, o1, i0, i1, r0, r1, rl, rf, rs0, rs1⟩ := HTBw2.out.facts
        simp only at n0 n1 n2 n3 n4
        go_wp2_with fail
        refine bodyPost_ret (v := .agg #[.int .i64 (a : Int), .bool false]) ?_ rfl ⟨by rw [← HE.out], (HTBw2.out.below.setCell (p := ⟨w.heap.size, 0, none⟩) (Nat.le_refl _) _).setCell (p := ⟨w.heap.size, 1, none⟩) (Nat.le_refl _) _⟩
        simp [results, Try.results28, go_sem, rs0, rs1]
  have q0 : (op == 33) = false := by simpa using h0
  have HE : Keep ((a, false) = G) := ⟨(HOFF.out (by unfold clsOf; (repeat' split) <;> first | decide | (exfalso; omega))).symm⟩
  clear HOFF HCASE HNM HBR HROW HALL HRN hk1 hk2 h0
  go_enter Try.func28, Try.ntmps28
  go_wp2_with fail
  refine bodyPost_ret (v := .agg #[.int .i64 (a : Int), .bool false]) ?_ rfl ⟨by rw [← HE.out], ((((Below.refl _ w).alloc (Nat.le_refl _) _).alloc (by simp) _).alloc (by simp; omega) _).alloc (by simp; omega) _⟩
  simp [results, Try.results28, go_sem]
end Go.Proofs.Ytgodjgbdjgiapaa
