/-
  The document's Piece at class 68. (Laid by tools/gen/treeX.py.)
-/
import Derived.Test.YtgodjgbdjgiapaaTreeXE
namespace Go.Proofs.Ytgodjgbdjgiapaa
open Go.RowKit Go.Joins

set_option maxRecDepth 100000 in
set_option maxHeartbeats 16000000 in
theorem piece68 (T : ByteArray) (hT : T.toList = [68]) (o : Option Addr) (cap : Nat) (l : List Nd) (x : Nd) (a a1 : Nat) (ha1 : a1 = a + 1) (w : World) (hn : l.length ≤ 1000) (hs : x.S.size ≤ 9223372036854775807) (hk1 : -9223372036854775808 ≤ x.K) (hk2 : x.K ≤ 9223372036854775807) (hx : l[a]? = some x) (hQ : Ask (.slice o l.length cap) l x a1 w) (HR66 : ∀ (g : Nat × Bool), (a1 ≤ g.1 ∧ g.1 ≤ l.length) → ∀ W, Below w.heap.size w W → Calls Try.prog 46 #[.slice o l.length cap, .agg #[.int .i64 (g.1 : Int), .bool g.2], .string ⟨#[66]⟩] W fun e w' => e = .returned (.agg #[.int .i64 ((goR l [66] g).1 : Int), .bool (goR l [66] g).2]) ∧ Below W.heap.size W w') (hnd : ∃ b off, o = some ⟨b, off, none⟩ ∧ b < w.heap.size ∧ NdAt w b (off + a * 5) x) :
    Calls Try.prog 28 #[.slice o l.length cap, .int .i64 (a : Int), .string T] w fun e w' => e = .returned (.agg #[.int .i64 ((goP l [68] a).1 : Int), .bool (goP l [68] a).2]) ∧ Below w.heap.size w w' := by
  obtain ⟨b, off, rfl, hblt, c0, c1, c2, c3, c4⟩ := hnd
  have hal := (List.getElem?_eq_some_iff.1 hx).1
  have haI : (a : Int) < (l.length : Int) := by omega
  have haI2 : (a : Int) ≤ 1000 := by omega
  have haw : IntKind.i64.wrap ((a : Int) + 1) = (a1 : Int) := by rw [ha1, show ((a + 1 : Nat) : Int) = (a : Int) + 1 by omega]; exact IntWalk.i64_in _ ⟨by omega, by omega⟩
  have hage : ¬ ((l.length : Int) ≤ (a : Int)) := by omega
  have hage2 : decide (l.length ≤ a) = false := decide_eq_false (by omega)
  have HTB := keep (PB.start w x a a1)
  have HOFF := keep (fun h => goP_off (l := l) (c := 68) hx h)
  have HCASE := keep (fun (r : List UInt8) (b : Bool) h => goP_case (l := l) (c := 68) (r := r) (b := b) hx h)
  have HNM := keep hQ.nm
  have HBR := keep hQ.br
  have HROW := keep hQ.row
  have HALL := keep hQ.all
  have HRN := keep (fun W => rname_s x.S hs W)
  rw [← ha1] at HCASE
  have ha1l : a1 ≤ l.length := by omega
  clear ha1 hal
  obtain ⟨op, s, n, k, at_⟩ := x
  unfold p4 at HTB
  simp only at *
  obtain ⟨n0, n1, n2, n3, n4, o0, o1, i0, i1, r0, r1, rl, rf, rs0, rs1⟩ := HTB.out.facts
  simp only at n0 n1 n2 n3 n4
  obtain ⟨G, hG⟩ : ∃ G, G = goP l [68] a := ⟨_, rfl⟩
  rw [← hG] at HOFF HCASE ⊢
  clear hx hG hQ hn hage haI2 hs
  by_cases h0 : op = 38
  · subst h0
    have HE0 : Keep (G = if (nmP s && decide (0 ≤ n) && decide (n ≤ 16) && (k == 0)) = true then goR l [] (a1, true) else (a, false)) := ⟨HCASE.out [] _ (rowC_is (x := ⟨38, s, n, k, at_⟩) rfl (by show (nmP s && decide (0 ≤ n) && decide (n ≤ 16) && (Shp.mk [] 0 []).fits k) = _; rw [shp_eq]; rfl) (fun h => by
      simp only [Bool.and_eq_true, beq_iff_eq] at h
      show (Shp.mk [] 0 []).row k.toNat = []
      rw [h.2]; rfl))⟩
    rw [goR_nil] at HE0
    clear HOFF HCASE HNM HBR HROW HALL hk1 hk2
    cases hq : nmP s with
    | false =>
      rw [hq] at HRN
      have HE : Keep ((a, false) = G) := ⟨by have := HE0.out; rw [if_neg (by simp [hq])] at this; exact this.symm⟩
      clear HE0
      clear hq
      go_enter Try.func28, Try.ntmps28
      go_wp2_with fail
      refine (HRN.out _).mono ?_
      rintro e w1 ⟨rfl, hb⟩
      have HTBw1 := keep (HTB.out.to hb)
      clear hb n0 n1 n2 n3 n4 o0 o1 i0 i1 r0 r1 rl rf rs0 rs1
      obtain ⟨n0, n1, n2, n3, n4, o0, o1, i0, i1, r0, r1, rl, rf, rs0, rs1⟩ := HTBw1.out.facts
      simp only at n0 n1 n2 n3 n4
      go_wp2_with fail
      refine bodyPost_ret (v := .agg #[.int .i64 (a : Int), .bool false]) ?_ rfl ⟨by rw [← HE.out], (HTBw1.out.below.setCell (p := ⟨w.heap.size, 0, none⟩) (Nat.le_refl _) _).setCell (p := ⟨w.heap.size, 1, none⟩) (Nat.le_refl _) _⟩
      simp [results, Try.results28, go_sem, rs0, rs1]
    | true =>
      rw [hq] at HRN
      by_cases e0 : k = 0
      · have hb0 : (k == 0) = true := by simp [e0]
        by_cases e1 : 0 ≤ n
        · have hd1 : decide (0 ≤ n) = true := decide_eq_true e1
          by_cases e2 : n ≤ 16
          · have hd2 : decide (n ≤ 16) = true := decide_eq_true e2
            have HE : Keep ((a1, true) = G) := ⟨by have := HE0.out; rw [if_pos (by simp [hq, hb0, hd1, hd2])] at this; exact this.symm⟩
            clear HE0
            clear e0 e1 e2 hq
            go_enter Try.func28, Try.ntmps28
            go_wp2_with fail
            refine (HRN.out _).mono ?_
            rintro e w1 ⟨rfl, hb⟩
            have HTBw1 := keep (HTB.out.to hb)
            clear hb n0 n1 n2 n3 n4 o0 o1 i0 i1 r0 r1 rl rf rs0 rs1
            obtain ⟨n0, n1, n2, n3, n4, o0, o1, i0, i1, r0, r1, rl, rf, rs0, rs1⟩ := HTBw1.out.facts
            simp only at n0 n1 n2 n3 n4
            go_wp2_with fail
            refine bodyPost_ret (v := .agg #[.int .i64 (a1 : Int), .bool true]) ?_ rfl ⟨by rw [← HE.out], (HTBw1.out.below.setCell (p := ⟨w.heap.size, 0, none⟩) (Nat.le_refl _) _).setCell (p := ⟨w.heap.size, 1, none⟩) (Nat.le_refl _) _⟩
            simp [results, Try.results28, go_sem, rs0, rs1]
          · have hd2 : decide (n ≤ 16) = false := decide_eq_false e2
            have HE : Keep ((a, false) = G) := ⟨by have := HE0.out; rw [if_neg (by simp [hq, hb0, hd1, hd2])] at this; exact this.symm⟩
            clear HE0
            clear e0 e1 e2 hq
            go_enter Try.func28, Try.ntmps28
            go_wp2_with fail
            refine (HRN.out _).mono ?_
            rintro e w1 ⟨rfl, hb⟩
            have HTBw1 := keep (HTB.out.to hb)
            clear hb n0 n1 n2 n3 n4 o0 o1 i0 i1 r0 r1 rl rf rs0 rs1
            obtain ⟨n0, n1, n2, n3, n4, o0, o1, i0, i1, r0, r1, rl, rf, rs0, rs1⟩ := HTBw1.out.facts
            simp only at n0 n1 n2 n3 n4
            go_wp2_with fail
            refine bodyPost_ret (v := .agg #[.int .i64 (a : Int), .bool false]) ?_ rfl ⟨by rw [← HE.out], (HTBw1.out.below.setCell (p := ⟨w.heap.size, 0, none⟩) (Nat.le_refl _) _).setCell (p := ⟨w.heap.size, 1, none⟩) (Nat.le_refl _) _⟩
            simp [results, Try.results28, go_sem, rs0, rs1]
        · have hd1 : decide (0 ≤ n) = false := decide_eq_false e1
          have HE : Keep ((a, false) = G) := ⟨by have := HE0.out; rw [if_neg (by simp [hq, hb0, hd1])] at this; exact this.symm⟩
          clear HE0
          clear e0 e1 hq
          go_enter Try.func28, Try.ntmps28
          go_wp2_with fail
          refine (HRN.out _).mono ?_
          rintro e w1 ⟨rfl, hb⟩
          have HTBw1 := keep (HTB.out.to hb)
          clear hb n0 n1 n2 n3 n4 o0 o1 i0 i1 r0 r1 rl rf rs0 rs1
          obtain ⟨n0, n1, n2, n3, n4, o0, o1, i0, i1, r0, r1, rl, rf, rs0, rs1⟩ := HTBw1.out.facts
          simp only at n0 n1 n2 n3 n4
          go_wp2_with fail
          refine bodyPost_ret (v := .agg #[.int .i64 (a : Int), .bool false]) ?_ rfl ⟨by rw [← HE.out], (HTBw1.out.below.setCell (p := ⟨w.heap.size, 0, none⟩) (Nat.le_refl _) _).setCell (p := ⟨w.heap.size, 1, none⟩) (Nat.le_refl _) _⟩
          simp [results, Try.results28, go_sem, rs0, rs1]
      · have hb0 : (k == 0) = false := by simpa using e0
        have HE : Keep ((a, false) = G) := ⟨by have := HE0.out; rw [if_neg (by simp [hq, hb0])] at this; exact this.symm⟩
        clear HE0
        clear e0 hq
        go_enter Try.func28, Try.ntmps28
        go_wp2_with fail
        refine (HRN.out _).mono ?_
        rintro e w1 ⟨rfl, hb⟩
        have HTBw1 := keep (HTB.out.to hb)
        clear hb n0 n1 n2 n3 n4 o0 o1 i0 i1 r0 r1 rl rf rs0 rs1
        obtain ⟨n0, n1, n2, n3, n4, o0, o1, i0, i1, r0, r1, rl, rf, rs0, rs1⟩ := HTBw1.out.facts
        simp only at n0 n1 n2 n3 n4
        go_wp2_with fail
        refine bodyPost_ret (v := .agg #[.int .i64 (a : Int), .bool false]) ?_ rfl ⟨by rw [← HE.out], (HTBw1.out.below.setCell (p := ⟨w.heap.size, 0, none⟩) (Nat.le_refl _) _).setCell (p := ⟨w.heap.size, 1, none⟩) (Nat.le_refl _) _⟩
        simp [results, Try.results28, go_sem, rs0, rs1]
  have q0 : (op == 38) = false := by simpa using h0
  by_cases h1 : op = 41
  · subst h1
    clear HRN
    have HE0 : Keep (G = if bar ⟨41, s, n, k, at_⟩ 1 = true then goR l [66] (a1, true) else (a, false)) := ⟨HCASE.out [66] (bar ⟨41, s, n, k, at_⟩ 1) (rowC_bar (x := ⟨41, s, n, k, at_⟩) (f := [66]) rfl rfl rfl rfl)⟩
    have HC1 := keep (fun W => HBR.out 1 W)
    have HRW := keep (fun W hW => HROW.out [66] (by decide) (by decide) W hW)
    rw [show str [66] = ⟨#[66]⟩ from rfl] at HRW
    clear HOFF HCASE HNM HBR HROW HALL hk1 hk2
    generalize bar ⟨41, s, n, k, at_⟩ 1 = b at *
    cases b with
    | true =>
      have HE : Keep (goR l [66] (a1, true) = G) := ⟨by have := HE0.out; rw [if_pos rfl] at this; exact this.symm⟩
      rw [HE.out] at HRW
      clear HE0
      go_enter Try.func28, Try.ntmps28
      go_wp2_with fail
      refine (HC1.out _).mono ?_
      rintro e w1 ⟨rfl, hb⟩
      have HTBw1 := keep (HTB.out.to hb)
      clear hb n0 n1 n2 n3 n4 o0 o1 i0 i1 r0 r1 rl rf rs0 rs1
      obtain ⟨n0, n1, n2, n3, n4, o0, o1, i0, i1, r0, r1, rl, rf, rs0, rs1⟩ := HTBw1.out.facts
      simp only at n0 n1 n2 n3 n4
      go_wp2_with fail
      refine (HRW.out _ HTBw1.out.below).mono ?_
      rintro e w2 ⟨rfl, hb⟩
      have HTBw2 := keep (HTBw1.out.to hb)
      clear hb n0 n1 n2 n3 n4 o0 o1 i0 i1 r0 r1 rl rf rs0 rs1
      obtain ⟨n0, n1, n2, n3, n4, o0, o1, i0, i1, r0, r1, rl, rf, rs0, rs1⟩ := HTBw2.out.facts
      simp only at n0 n1 n2 n3 n4
      go_wp2_with fail
      refine bodyPost_ret (v := .agg #[.int .i64 (G.1 : Int), .bool G.2]) ?_ rfl ⟨rfl, (HTBw2.out.below.setCell (p := ⟨w.heap.size, 0, none⟩) (Nat.le_refl _) _).setCell (p := ⟨w.heap.size, 1, none⟩) (Nat.le_refl _) _⟩
      simp [results, Try.results28, go_sem, rs0, rs1]
    | false =>
      have HE : Keep ((a, false) = G) := ⟨by have := HE0.out; rw [if_neg (by simp)] at this; exact this.symm⟩
      clear HE0
      go_enter Try.func28, Try.ntmps28
      go_wp2_with fail
      refine (HC1.out _).mono ?_
      rintro e w1 ⟨rfl, hb⟩
      have HTBw1 := keep (HTB.out.to hb)
      clear hb n0 n1 n2 n3 n4 o0 o1 i0 i1 r0 r1 rl rf rs0 rs1
      obtain ⟨n0, n1, n2, n3, n4, o0, o1, i0, i1, r0, r1, rl, rf, rs0, rs1⟩ := HTBw1.out.facts
      simp only at n0 n1 n2 n3 n4
      go_wp2_with fail
      refine bodyPost_ret (v := .agg #[.int .i64 (a : Int), .bool false]) ?_ rfl ⟨by rw [← HE.out], (HTBw1.out.below.setCell (p := ⟨w.heap.size, 0, none⟩) (Nat.le_refl _) _).setCell (p := ⟨w.heap.size, 1, none⟩) (Nat.le_refl _) _⟩
      simp [results, Try.results28, go_sem, rs0, rs1]
  have q1 : (op == 41) = false := by simpa using h1
  by_cases h2 : op = 40
  · subst h2
    have HE0 : Keep (G = if (decide (1 ≤ k) && nmd ⟨40, s, n, k, at_⟩ k) = true then goR l (List.replicate (k - 1).toNat 80 ++ [66]) (a1, true) else (a, false)) := ⟨HCASE.out _ _ (rowC_mnmd (x := ⟨40, s, n, k, at_⟩) (f := []) (m := 80) (la := [66]) rfl rfl rfl rfl rfl (fun _ => row_proc 80 66 k))⟩
    have HC1 := keep (fun W => HNM.out k W)
    have HAL := keep (fun W hW => HALL.out 80 (by decide) (k - 1) (by omega) W hW)
    rw [show str [80] = ⟨#[80]⟩ from rfl] at HAL
    clear HOFF HCASE HNM HBR HROW HALL HRN
    by_cases hk : 1 ≤ k
    · have hd : decide (1 ≤ k) = true := decide_eq_true hk
      have hkw : IntKind.i64.wrap (k - 1) = k - 1 := IntWalk.i64_in _ ⟨by omega, by omega⟩
      rw [hd, Bool.true_and] at HE0
      generalize nmd ⟨40, s, n, k, at_⟩ k = b at *
      cases b with
      | true =>
        have HE : Keep (goR l [66] (goR l (List.replicate (k - 1).toNat 80) (a1, true)) = G) := ⟨by have := HE0.out; rw [if_pos rfl, goR_append] at this; exact this.symm⟩
        have HRB := keep (HR66 (goR l (List.replicate (k - 1).toNat 80) (a1, true)) (goR_le (l := l) (g := (a1, true)) ha1l))
        rw [HE.out] at HRB
        clear HE0 hk hk1 hk2 HR66 ha1l
        generalize goR l (List.replicate (k - 1).toNat 80) (a1, true) = Y at *
        go_enter Try.func28, Try.ntmps28
        go_wp2_with fail
        refine (HC1.out _).mono ?_
        rintro e w1 ⟨rfl, hb⟩
        have HTBw1 := keep (HTB.out.to hb)
        clear hb n0 n1 n2 n3 n4 o0 o1 i0 i1 r0 r1 rl rf rs0 rs1
        obtain ⟨n0, n1, n2, n3, n4, o0, o1, i0, i1, r0, r1, rl, rf, rs0, rs1⟩ := HTBw1.out.facts
        simp only at n0 n1 n2 n3 n4
        go_wp2_with fail
        refine (HAL.out _ HTBw1.out.below).mono ?_
        rintro e w2 ⟨rfl, hb⟩
        have HTBw2 := keep (HTBw1.out.to hb)
        clear hb n0 n1 n2 n3 n4 o0 o1 i0 i1 r0 r1 rl rf rs0 rs1
        obtain ⟨n0, n1, n2, n3, n4, o0, o1, i0, i1, r0, r1, rl, rf, rs0, rs1⟩ := HTBw2.out.facts
        simp only at n0 n1 n2 n3 n4
        go_wp2_with fail
        refine (HRB.out _ HTBw2.out.below).mono ?_
        rintro e w3 ⟨rfl, hb⟩
        have HTBw3 := keep (HTBw2.out.to hb)
        clear hb n0 n1 n2 n3 n4 o0 o1 i0 i1 r0 r1 rl rf rs0 rs1
        obtain ⟨n0, n1, n2, n3, n4, o0, o1, i0, i1, r0, r1, rl, rf, rs0, rs1⟩ := HTBw3.out.facts
        simp only at n0 n1 n2 n3 n4
        go_wp2_with fail
        refine bodyPost_ret (v := .agg #[.int .i64 (G.1 : Int), .bool G.2]) ?_ rfl ⟨rfl, (HTBw3.out.below.setCell (p := ⟨w.heap.size, 0, none⟩) (Nat.le_refl _) _).setCell (p := ⟨w.heap.size, 1, none⟩) (Nat.le_refl _) _⟩
        simp [results, Try.results28, go_sem, rs0, rs1]
      | false =>
        have HE : Keep ((a, false) = G) := ⟨by have := HE0.out; rw [if_neg (by simp)] at this; exact this.symm⟩
        clear HE0 hk hk1 hk2
        go_enter Try.func28, Try.ntmps28
        go_wp2_with fail
        refine (HC1.out _).mono ?_
        rintro e w1 ⟨rfl, hb⟩
        have HTBw1 := keep (HTB.out.to hb)
        clear hb n0 n1 n2 n3 n4 o0 o1 i0 i1 r0 r1 rl rf rs0 rs1
        obtain ⟨n0, n1, n2, n3, n4, o0, o1, i0, i1, r0, r1, rl, rf, rs0, rs1⟩ := HTBw1.out.facts
        simp only at n0 n1 n2 n3 n4
        go_wp2_with fail
        refine bodyPost_ret (v := .agg #[.int .i64 (a : Int), .bool false]) ?_ rfl ⟨by rw [← HE.out], (HTBw1.out.below.setCell (p := ⟨w.heap.size, 0, none⟩) (Nat.le_refl _) _).setCell (p := ⟨w.heap.size, 1, none⟩) (Nat.le_refl _) _⟩
        simp [results, Try.results28, go_sem, rs0, rs1]
    · have hd : decide (1 ≤ k) = false := decide_eq_false hk
      have HE : Keep ((a, false) = G) := ⟨by have := HE0.out; rw [hd, Bool.false_and, if_neg (by simp)] at this; exact this.symm⟩
      clear HE0 hk hk1 hk2
      go_enter Try.func28, Try.ntmps28
      go_wp2_with fail
      refine bodyPost_ret (v := .agg #[.int .i64 (a : Int), .bool false]) ?_ rfl ⟨by rw [← HE.out], ((((Below.refl _ w).alloc (Nat.le_refl _) _).alloc (by simp) _).alloc (by simp; omega) _).alloc (by simp; omega) _⟩
      simp [results, Try.results28, go_sem]
  have q2 : (op == 40) = false := by simpa using h2
  have HE : Keep ((a, false) = G) := ⟨(HOFF.out (by unfold clsOf; (repeat' split) <;> first | decide | (exfalso; omega))).symm⟩
  clear HOFF HCASE HNM HBR HROW HALL HRN hk1 hk2 h0 h1 h2
  go_enter Try.func28, Try.ntmps28
  go_wp2_with fail
  refine bodyPost_ret (v := .agg #[.int .i64 (a : Int), .bool false]) ?_ rfl ⟨by rw [← HE.out], ((((Below.refl _ w).alloc (Nat.le_refl _) _).alloc (by simp) _).alloc (by simp; omega) _).alloc (by simp; omega) _⟩
  simp [results, Try.results28, go_sem]
end Go.Proofs.Ytgodjgbdjgiapaa
