/-
  The document's term. (Laid by tools/gen/treeX.py.)
-/
import Derived.Test.YtgodjgbdjgiapaaTreeXA
namespace Go.Proofs.Ytgodjgbdjgiapaa
open Go.RowKit Go.Joins

set_option maxRecDepth 100000 in
set_option maxHeartbeats 16000000 in
theorem term_any (o : Option Addr) (cap : Nat) (l : List Nd) (x : Nd) (a a1 : Nat) (ha1 : a1 = a + 1) (w : World) (hk2 : x.K ≤ 9223372036854775807) (hx : l[a]? = some x) (hQ : Ask (.slice o l.length cap) l x a1 w) :
    Calls Try.prog 39 #[.slice o l.length cap, .agg #[.int .i64 x.O, .string x.S, .int .i64 x.N, .int .i64 x.K, .int .i64 x.A], .agg #[.int .i64 (a : Int), .bool false], .agg #[.int .i64 (a1 : Int), .bool true]] w fun e w' => e = .returned (.agg #[.int .i64 ((goP l [69] a).1 : Int), .bool (goP l [69] a).2]) ∧ Below w.heap.size w w' := by
  have HTB := keep (TB.start w x a a1)
  have HOFF := keep (fun h => goP_off (l := l) (c := 69) hx h)
  have HCASE := keep (fun (r : List UInt8) (b : Bool) h => goP_case (l := l) (c := 69) (r := r) (b := b) hx h)
  have HNM := keep hQ.nm
  have HBR := keep hQ.br
  have HROW := keep hQ.row
  have HALL := keep hQ.all
  rw [← ha1] at HCASE
  clear ha1
  obtain ⟨op, s, n, k, at_⟩ := x
  unfold w4 at HTB
  simp only at *
  obtain ⟨n0, n1, n2, n3, n4, o0, o1, i0, i1, r0, r1, rl, rf, rs0, rs1⟩ := HTB.out.facts
  simp only at n0 n1 n2 n3 n4
  obtain ⟨G, hG⟩ : ∃ G, G = goP l [69] a := ⟨_, rfl⟩
  rw [← hG] at HOFF HCASE ⊢
  clear hx hG hQ
  by_cases h0 : op = 1
  · subst h0
    have HE0 : Keep (G = if (noP s && decide (0 ≤ n) && decide (n ≤ 999999999999999999) && (k == 0)) = true then goR l [] (a1, true) else (a, false)) := ⟨HCASE.out [] _ (rowC_is (x := ⟨1, s, n, k, at_⟩) rfl (by show (noP s && decide (0 ≤ n) && decide (n ≤ 999999999999999999) && (Shp.mk [] 0 []).fits k) = _; rw [shp_eq]; rfl) (fun h => by
      simp only [Bool.and_eq_true, beq_iff_eq] at h
      show (Shp.mk [] 0 []).row k.toNat = []
      rw [h.2]; rfl))⟩
    rw [goR_nil] at HE0
    clear HOFF HCASE HNM HBR HROW HALL hk2
    unfold noP at HE0
    cases hs : s.toList.isEmpty with
    | false =>
      have HE : Keep ((a, false) = G) := ⟨by have := HE0.out; rw [if_neg (by simp [hs])] at this; exact this.symm⟩
      clear HE0
      go_enter Try.func39, Try.ntmps39
      go_wp2_with fail
      refine bodyPost_ret (v := .agg #[.int .i64 (a : Int), .bool false]) ?_ rfl ⟨by rw [← HE.out], ((((Below.refl _ w).alloc (Nat.le_refl _) _).alloc (by simp) _).alloc (by simp; omega) _).alloc (by simp; omega) _⟩
      simp [results, Try.results39, go_sem]
    | true =>
      by_cases h0 : k = 0
      · have hb0 : (k == 0) = true := by simp [h0]
        by_cases h1 : 0 ≤ n
        · have hd1 : decide (0 ≤ n) = true := decide_eq_true h1
          by_cases h2 : n ≤ 999999999999999999
          · have hd2 : decide (n ≤ 999999999999999999) = true := decide_eq_true h2
            have HE : Keep ((a1, true) = G) := ⟨by have := HE0.out; rw [if_pos (by simp [hs, hb0, hd1, hd2])] at this; exact this.symm⟩
            clear HE0
            clear h0 h1 h2
            go_enter Try.func39, Try.ntmps39
            go_wp2_with fail
            refine bodyPost_ret (v := .agg #[.int .i64 (a1 : Int), .bool true]) ?_ rfl ⟨by rw [← HE.out], ((((Below.refl _ w).alloc (Nat.le_refl _) _).alloc (by simp) _).alloc (by simp; omega) _).alloc (by simp; omega) _⟩
            simp [results, Try.results39, go_sem]
          · have hd2 : decide (n ≤ 999999999999999999) = false := decide_eq_false h2
            have HE : Keep ((a, false) = G) := ⟨by have := HE0.out; rw [if_neg (by simp [hs, hb0, hd1, hd2])] at this; exact this.symm⟩
            clear HE0
            clear h0 h1 h2
            go_enter Try.func39, Try.ntmps39
            go_wp2_with fail
            refine bodyPost_ret (v := .agg #[.int .i64 (a : Int), .bool false]) ?_ rfl ⟨by rw [← HE.out], ((((Below.refl _ w).alloc (Nat.le_refl _) _).alloc (by simp) _).alloc (by simp; omega) _).alloc (by simp; omega) _⟩
            simp [results, Try.results39, go_sem]
        · have hd1 : decide (0 ≤ n) = false := decide_eq_false h1
          have HE : Keep ((a, false) = G) := ⟨by have := HE0.out; rw [if_neg (by simp [hs, hb0, hd1])] at this; exact this.symm⟩
          clear HE0
          clear h0 h1
          go_enter Try.func39, Try.ntmps39
          go_wp2_with fail
          refine bodyPost_ret (v := .agg #[.int .i64 (a : Int), .bool false]) ?_ rfl ⟨by rw [← HE.out], ((((Below.refl _ w).alloc (Nat.le_refl _) _).alloc (by simp) _).alloc (by simp; omega) _).alloc (by simp; omega) _⟩
          simp [results, Try.results39, go_sem]
      · have hb0 : (k == 0) = false := by simpa using h0
        have HE : Keep ((a, false) = G) := ⟨by have := HE0.out; rw [if_neg (by simp [hs, hb0])] at this; exact this.symm⟩
        clear HE0
        clear h0
        go_enter Try.func39, Try.ntmps39
        go_wp2_with fail
        refine bodyPost_ret (v := .agg #[.int .i64 (a : Int), .bool false]) ?_ rfl ⟨by rw [← HE.out], ((((Below.refl _ w).alloc (Nat.le_refl _) _).alloc (by simp) _).alloc (by simp; omega) _).alloc (by simp; omega) _⟩
        simp [results, Try.results39, go_sem]
  have q0 : (op == 1) = false := by simpa using h0
  by_cases h1 : op = 2
  · subst h1
    have HE0 : Keep (G = if nmd ⟨2, s, n, k, at_⟩ 0 = true then goR l [] (a1, true) else (a, false)) := ⟨HCASE.out [] (nmd ⟨2, s, n, k, at_⟩ 0) (rowC_nmd (x := ⟨2, s, n, k, at_⟩) (f := []) rfl rfl rfl rfl)⟩
    have HC1 := keep (fun W => HNM.out 0 W)
    clear HOFF HCASE HNM HBR HROW HALL
    generalize nmd ⟨2, s, n, k, at_⟩ 0 = b at *
    cases b with
    | true =>
      have HE : Keep ((a1, true) = G) := ⟨by have := HE0.out; rw [if_pos rfl, goR_nil] at this; exact this.symm⟩
      clear HE0
      go_enter Try.func39, Try.ntmps39
      go_wp2_with fail
      refine (HC1.out _).mono ?_
      rintro e w1 ⟨rfl, hb⟩
      have HTBw1 := keep (HTB.out.to hb)
      clear hb n0 n1 n2 n3 n4 o0 o1 i0 i1 r0 r1 rl rf rs0 rs1
      obtain ⟨n0, n1, n2, n3, n4, o0, o1, i0, i1, r0, r1, rl, rf, rs0, rs1⟩ := HTBw1.out.facts
      simp only at n0 n1 n2 n3 n4
      go_wp2_with fail
      refine bodyPost_ret (v := .agg #[.int .i64 (a1 : Int), .bool true]) ?_ rfl ⟨by rw [← HE.out], (HTBw1.out.below.setCell (p := ⟨w.heap.size + 1 + 1 + 1, 0, none⟩) (by simp only; omega) _).setCell (p := ⟨w.heap.size + 1 + 1 + 1, 1, none⟩) (by simp only; omega) _⟩
      simp [results, Try.results39, go_sem, rs0, rs1]
    | false =>
      have HE : Keep ((a, false) = G) := ⟨by have := HE0.out; rw [if_neg (by simp)] at this; exact this.symm⟩
      clear HE0
      go_enter Try.func39, Try.ntmps39
      go_wp2_with fail
      refine (HC1.out _).mono ?_
      rintro e w1 ⟨rfl, hb⟩
      have HTBw1 := keep (HTB.out.to hb)
      clear hb n0 n1 n2 n3 n4 o0 o1 i0 i1 r0 r1 rl rf rs0 rs1
      obtain ⟨n0, n1, n2, n3, n4, o0, o1, i0, i1, r0, r1, rl, rf, rs0, rs1⟩ := HTBw1.out.facts
      simp only at n0 n1 n2 n3 n4
      go_wp2_with fail
      refine bodyPost_ret (v := .agg #[.int .i64 (a : Int), .bool false]) ?_ rfl ⟨by rw [← HE.out], (HTBw1.out.below.setCell (p := ⟨w.heap.size + 1 + 1 + 1, 0, none⟩) (by simp only; omega) _).setCell (p := ⟨w.heap.size + 1 + 1 + 1, 1, none⟩) (by simp only; omega) _⟩
      simp [results, Try.results39, go_sem, rs0, rs1]
  have q1 : (op == 2) = false := by simpa using h1
  by_cases h2 : op = 3
  · subst h2
    have HE0 : Keep (G = if bar ⟨3, s, n, k, at_⟩ 1 = true then goR l [69] (a1, true) else (a, false)) := ⟨HCASE.out [69] (bar ⟨3, s, n, k, at_⟩ 1) (rowC_bar (x := ⟨3, s, n, k, at_⟩) (f := [69]) rfl rfl rfl rfl)⟩
    have HC1 := keep (fun W => HBR.out 1 W)
    have HRW := keep (fun W hW => HROW.out [69] (by decide) (by decide) W hW)
    rw [show str [69] = ⟨#[69]⟩ from rfl] at HRW
    clear HOFF HCASE HNM HBR HROW HALL
    generalize bar ⟨3, s, n, k, at_⟩ 1 = b at *
    cases b with
    | true =>
      have HE : Keep (goR l [69] (a1, true) = G) := ⟨by have := HE0.out; rw [if_pos rfl] at this; exact this.symm⟩
      rw [HE.out] at HRW
      clear HE0
      go_enter Try.func39, Try.ntmps39
      go_wp2_with fail
      refine (HC1.out _).mono ?_
      rintro e w1 ⟨rfl, hb⟩
      have HTBw1 := keep (HTB.out.to hb)
      clear hb n0 n1 n2 n3 n4 o0 o1 i0 i1 r0 r1 rl rf rs0 rs1
      obtain ⟨n0, n1, n2, n3, n4, o0, o1, i0, i1, r0, r1, rl, rf, rs0, rs1⟩ := HTBw1.out.facts
      simp only at n0 n1 n2 n3 n4
      go_wp2_with fail
      refine (HRW.out _ HTBw1.out.below).mono ?_
      rintro e w2 ⟨rfl, hb⟩
      have HTBw2 := keep (HTBw1.out.to hb)
      clear hb n0 n1 n2 n3 n4 o0 o1 i0 i1 r0 r1 rl rf rs0 rs1
      obtain ⟨n0, n1, n2, n3, n4, o0, o1, i0, i1, r0, r1, rl, rf, rs0, rs1⟩ := HTBw2.out.facts
      simp only at n0 n1 n2 n3 n4
      go_wp2_with fail
      refine bodyPost_ret (v := .agg #[.int .i64 (G.1 : Int), .bool G.2]) ?_ rfl ⟨rfl, (HTBw2.out.below.setCell (p := ⟨w.heap.size + 1 + 1 + 1, 0, none⟩) (by simp only; omega) _).setCell (p := ⟨w.heap.size + 1 + 1 + 1, 1, none⟩) (by simp only; omega) _⟩
      simp [results, Try.results39, go_sem, rs0, rs1]
    | false =>
      have HE : Keep ((a, false) = G) := ⟨by have := HE0.out; rw [if_neg (by simp)] at this; exact this.symm⟩
      clear HE0
      go_enter Try.func39, Try.ntmps39
      go_wp2_with fail
      refine (HC1.out _).mono ?_
      rintro e w1 ⟨rfl, hb⟩
      have HTBw1 := keep (HTB.out.to hb)
      clear hb n0 n1 n2 n3 n4 o0 o1 i0 i1 r0 r1 rl rf rs0 rs1
      obtain ⟨n0, n1, n2, n3, n4, o0, o1, i0, i1, r0, r1, rl, rf, rs0, rs1⟩ := HTBw1.out.facts
      simp only at n0 n1 n2 n3 n4
      go_wp2_with fail
      refine bodyPost_ret (v := .agg #[.int .i64 (a : Int), .bool false]) ?_ rfl ⟨by rw [← HE.out], (HTBw1.out.below.setCell (p := ⟨w.heap.size + 1 + 1 + 1, 0, none⟩) (by simp only; omega) _).setCell (p := ⟨w.heap.size + 1 + 1 + 1, 1, none⟩) (by simp only; omega) _⟩
      simp [results, Try.results39, go_sem, rs0, rs1]
  have q2 : (op == 3) = false := by simpa using h2
  by_cases h3 : op = 4
  · subst h3
    have HE0 : Keep (G = if bar ⟨4, s, n, k, at_⟩ 1 = true then goR l [69] (a1, true) else (a, false)) := ⟨HCASE.out [69] (bar ⟨4, s, n, k, at_⟩ 1) (rowC_bar (x := ⟨4, s, n, k, at_⟩) (f := [69]) rfl rfl rfl rfl)⟩
    have HC1 := keep (fun W => HBR.out 1 W)
    have HRW := keep (fun W hW => HROW.out [69] (by decide) (by decide) W hW)
    rw [show str [69] = ⟨#[69]⟩ from rfl] at HRW
    clear HOFF HCASE HNM HBR HROW HALL
    generalize bar ⟨4, s, n, k, at_⟩ 1 = b at *
    cases b with
    | true =>
      have HE : Keep (goR l [69] (a1, true) = G) := ⟨by have := HE0.out; rw [if_pos rfl] at this; exact this.symm⟩
      rw [HE.out] at HRW
      clear HE0
      go_enter Try.func39, Try.ntmps39
      go_wp2_with fail
      refine (HC1.out _).mono ?_
      rintro e w1 ⟨rfl, hb⟩
      have HTBw1 := keep (HTB.out.to hb)
      clear hb n0 n1 n2 n3 n4 o0 o1 i0 i1 r0 r1 rl rf rs0 rs1
      obtain ⟨n0, n1, n2, n3, n4, o0, o1, i0, i1, r0, r1, rl, rf, rs0, rs1⟩ := HTBw1.out.facts
      simp only at n0 n1 n2 n3 n4
      go_wp2_with fail
      refine (HRW.out _ HTBw1.out.below).mono ?_
      rintro e w2 ⟨rfl, hb⟩
      have HTBw2 := keep (HTBw1.out.to hb)
      clear hb n0 n1 n2 n3 n4 o0 o1 i0 i1 r0 r1 rl rf rs0 rs1
      obtain ⟨n0, n1, n2, n3, n4, o0, o1, i0, i1, r0, r1, rl, rf, rs0, rs1⟩ := HTBw2.out.facts
      simp only at n0 n1 n2 n3 n4
      go_wp2_with fail
      refine bodyPost_ret (v := .agg #[.int .i64 (G.1 : Int), .bool G.2]) ?_ rfl ⟨rfl, (HTBw2.out.below.setCell (p := ⟨w.heap.size + 1 + 1 + 1, 0, none⟩) (by simp only; omega) _).setCell (p := ⟨w.heap.size + 1 + 1 + 1, 1, none⟩) (by simp only; omega) _⟩
      simp [results, Try.results39, go_sem, rs0, rs1]
    | false =>
      have HE : Keep ((a, false) = G) := ⟨by have := HE0.out; rw [if_neg (by simp)] at this; exact this.symm⟩
      clear HE0
      go_enter Try.func39, Try.ntmps39
      go_wp2_with fail
      refine (HC1.out _).mono ?_
      rintro e w1 ⟨rfl, hb⟩
      have HTBw1 := keep (HTB.out.to hb)
      clear hb n0 n1 n2 n3 n4 o0 o1 i0 i1 r0 r1 rl rf rs0 rs1
      obtain ⟨n0, n1, n2, n3, n4, o0, o1, i0, i1, r0, r1, rl, rf, rs0, rs1⟩ := HTBw1.out.facts
      simp only at n0 n1 n2 n3 n4
      go_wp2_with fail
      refine bodyPost_ret (v := .agg #[.int .i64 (a : Int), .bool false]) ?_ rfl ⟨by rw [← HE.out], (HTBw1.out.below.setCell (p := ⟨w.heap.size + 1 + 1 + 1, 0, none⟩) (by simp only; omega) _).setCell (p := ⟨w.heap.size + 1 + 1 + 1, 1, none⟩) (by simp only; omega) _⟩
      simp [results, Try.results39, go_sem, rs0, rs1]
  have q3 : (op == 4) = false := by simpa using h3
  by_cases ha : 5 ≤ op
  · have hda : decide (5 ≤ op) = true := decide_eq_true ha
    by_cases hb : op ≤ 17
    · have hdb : decide (op ≤ 17) = true := decide_eq_true hb
      have z1 : clsOf op = 69 := by unfold clsOf; rw [if_neg (by omega), if_neg (by omega), if_neg (by omega), if_neg (by omega), if_pos ⟨by omega, by omega⟩]
      have z2 : isNmd op = false := by unfold isNmd; rw [show (op == 2) = false by simp; omega, show (op == 18) = false by simp; omega, show (op == 19) = false by simp; omega, show (op == 20) = false by simp; omega, show (op == 22) = false by simp; omega, show (op == 26) = false by simp; omega, show (op == 33) = false by simp; omega, show (op == 34) = false by simp; omega, show (op == 38) = false by simp; omega, show (op == 39) = false by simp; omega, show (op == 40) = false by simp; omega]; rfl
      have z3 : mostP op = 0 := by unfold mostP; rw [if_neg (by omega), if_neg (by omega), if_neg (by omega)]
      have z4 : shpP ⟨op, s, n, k, at_⟩ = ⟨[69, 69], 0, []⟩ := by
        have zp : plainP op = [69, 69] := by unfold plainP; rw [if_neg (by omega), if_neg (by omega), if_neg (by omega), if_neg (by omega), if_neg (by omega), if_neg (by omega), if_neg (by omega), if_pos ⟨ha, hb⟩]
        unfold shpP
        simp only
        rw [if_neg (by omega), if_neg (by omega), if_neg (by omega), if_neg (by omega), if_neg (by omega), if_neg (by omega), if_neg (by omega), if_neg (by omega), zp]
      have HE0 : Keep (G = if bar ⟨op, s, n, k, at_⟩ 2 = true then goR l [69, 69] (a1, true) else (a, false)) := ⟨HCASE.out [69, 69] (bar ⟨op, s, n, k, at_⟩ 2) (rowC_bar (x := ⟨op, s, n, k, at_⟩) (f := [69, 69]) z1 z2 z3 z4)⟩
      have HC1 := keep (fun W => HBR.out 2 W)
      have HRW := keep (fun W hW => HROW.out [69, 69] (by decide) (by decide) W hW)
      rw [show str [69, 69] = ⟨#[69, 69]⟩ from rfl] at HRW
      clear HOFF HCASE HNM HBR HROW HALL h0 h1 h2 h3 ha hb z1 z2 z3 z4
      generalize bar ⟨op, s, n, k, at_⟩ 2 = b at *
      cases b with
      | true =>
        have HE : Keep (goR l [69, 69] (a1, true) = G) := ⟨by have := HE0.out; rw [if_pos rfl] at this; exact this.symm⟩
        rw [HE.out] at HRW
        clear HE0
        go_enter Try.func39, Try.ntmps39
        go_wp2_with fail
        refine (HC1.out _).mono ?_
        rintro e w1 ⟨rfl, hb⟩
        have HTBw1 := keep (HTB.out.to hb)
        clear hb n0 n1 n2 n3 n4 o0 o1 i0 i1 r0 r1 rl rf rs0 rs1
        obtain ⟨n0, n1, n2, n3, n4, o0, o1, i0, i1, r0, r1, rl, rf, rs0, rs1⟩ := HTBw1.out.facts
        simp only at n0 n1 n2 n3 n4
        go_wp2_with fail
        refine (HRW.out _ HTBw1.out.below).mono ?_
        rintro e w2 ⟨rfl, hb⟩
        have HTBw2 := keep (HTBw1.out.to hb)
        clear hb n0 n1 n2 n3 n4 o0 o1 i0 i1 r0 r1 rl rf rs0 rs1
        obtain ⟨n0, n1, n2, n3, n4, o0, o1, i0, i1, r0, r1, rl, rf, rs0, rs1⟩ := HTBw2.out.facts
        simp only at n0 n1 n2 n3 n4
        go_wp2_with fail
        refine bodyPost_ret (v := .agg #[.int .i64 (G.1 : Int), .bool G.2]) ?_ rfl ⟨rfl, (HTBw2.out.below.setCell (p := ⟨w.heap.size + 1 + 1 + 1, 0, none⟩) (by simp only; omega) _).setCell (p := ⟨w.heap.size + 1 + 1 + 1, 1, none⟩) (by simp only; omega) _⟩
        simp [results, Try.results39, go_sem, rs0, rs1]
      | false =>
        have HE : Keep ((a, false) = G) := ⟨by have := HE0.out; rw [if_neg (by simp)] at this; exact this.symm⟩
        clear HE0
        go_enter Try.func39, Try.ntmps39
        go_wp2_with fail
        refine (HC1.out _).mono ?_
        rintro e w1 ⟨rfl, hb⟩
        have HTBw1 := keep (HTB.out.to hb)
        clear hb n0 n1 n2 n3 n4 o0 o1 i0 i1 r0 r1 rl rf rs0 rs1
        obtain ⟨n0, n1, n2, n3, n4, o0, o1, i0, i1, r0, r1, rl, rf, rs0, rs1⟩ := HTBw1.out.facts
        simp only at n0 n1 n2 n3 n4
        go_wp2_with fail
        refine bodyPost_ret (v := .agg #[.int .i64 (a : Int), .bool false]) ?_ rfl ⟨by rw [← HE.out], (HTBw1.out.below.setCell (p := ⟨w.heap.size + 1 + 1 + 1, 0, none⟩) (by simp only; omega) _).setCell (p := ⟨w.heap.size + 1 + 1 + 1, 1, none⟩) (by simp only; omega) _⟩
        simp [results, Try.results39, go_sem, rs0, rs1]
    · have hdb : decide (op ≤ 17) = false := decide_eq_false hb
      have HE : Keep ((a, false) = G) := ⟨(HOFF.out (by unfold clsOf; (repeat' split) <;> first | decide | (exfalso; omega))).symm⟩
      clear HOFF HCASE HNM HBR HROW HALL hk2 h0 h1 h2 h3 ha hb
      go_enter Try.func39, Try.ntmps39
      go_wp2_with fail
      refine bodyPost_ret (v := .agg #[.int .i64 (a : Int), .bool false]) ?_ rfl ⟨by rw [← HE.out], ((((Below.refl _ w).alloc (Nat.le_refl _) _).alloc (by simp) _).alloc (by simp; omega) _).alloc (by simp; omega) _⟩
      simp [results, Try.results39, go_sem]
  · have hda : decide (5 ≤ op) = false := decide_eq_false ha
    have HE : Keep ((a, false) = G) := ⟨(HOFF.out (by unfold clsOf; (repeat' split) <;> first | decide | (exfalso; omega))).symm⟩
    clear HOFF HCASE HNM HBR HROW HALL hk2 h0 h1 h2 h3 ha
    go_enter Try.func39, Try.ntmps39
    go_wp2_with fail
    refine bodyPost_ret (v := .agg #[.int .i64 (a : Int), .bool false]) ?_ rfl ⟨by rw [← HE.out], ((((Below.refl _ w).alloc (Nat.le_refl _) _).alloc (by simp) _).alloc (by simp; omega) _).alloc (by simp; omega) _⟩
    simp [results, Try.results39, go_sem]
end Go.Proofs.Ytgodjgbdjgiapaa
