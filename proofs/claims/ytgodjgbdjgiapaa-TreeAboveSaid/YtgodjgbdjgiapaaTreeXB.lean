/-
  The document's stmt. (Laid by tools/gen/treeX.py.)
-/
import Derived.Test.YtgodjgbdjgiapaaTreeXA
namespace Go.Proofs.Ytgodjgbdjgiapaa
open Go.RowKit Go.Joins

set_option maxRecDepth 100000 in
set_option maxHeartbeats 16000000 in
theorem stmt_any (o : Option Addr) (cap : Nat) (l : List Nd) (x : Nd) (a a1 : Nat) (ha1 : a1 = a + 1) (w : World) (hk2 : x.K ≤ 9223372036854775807) (hx : l[a]? = some x) (hQ : Ask (.slice o l.length cap) l x a1 w) :
    Calls Try.prog 40 #[.slice o l.length cap, .agg #[.int .i64 x.O, .string x.S, .int .i64 x.N, .int .i64 x.K, .int .i64 x.A], .agg #[.int .i64 (a : Int), .bool false], .agg #[.int .i64 (a1 : Int), .bool true]] w fun e w' => e = .returned (.agg #[.int .i64 ((goP l [83] a).1 : Int), .bool (goP l [83] a).2]) ∧ Below w.heap.size w w' := by
  have HTB := keep (TB.start w x a a1)
  have HOFF := keep (fun h => goP_off (l := l) (c := 83) hx h)
  have HCASE := keep (fun (r : List UInt8) (b : Bool) h => goP_case (l := l) (c := 83) (r := r) (b := b) hx h)
  have HNM := keep hQ.nm
  have HBR := keep hQ.br
  have HROW := keep hQ.row
  have HALL := keep hQ.all
  rw [← ha1] at HCASE
  clear ha1
  obtain ⟨op, s, n, k, at_⟩ := x
  unfold w4 at HTB
  simp only at *
  obtain ⟨n0, n1, n2, n3, n4, o0, o1, i0, i1, r0, r1, rl, rf, rs0, rs1⟩ := HTB.out.facts
  simp only at n0 n1 n2 n3 n4
  obtain ⟨G, hG⟩ : ∃ G, G = goP l [83] a := ⟨_, rfl⟩
  rw [← hG] at HOFF HCASE ⊢
  clear hx hG hQ
  by_cases h0 : op = 18
  · subst h0
    have HE0 : Keep (G = if nmd ⟨18, s, n, k, at_⟩ 1 = true then goR l [69] (a1, true) else (a, false)) := ⟨HCASE.out [69] (nmd ⟨18, s, n, k, at_⟩ 1) (rowC_nmd (x := ⟨18, s, n, k, at_⟩) (f := [69]) rfl rfl rfl rfl)⟩
    have HC1 := keep (fun W => HNM.out 1 W)
    have HRW := keep (fun W hW => HROW.out [69] (by decide) (by decide) W hW)
    rw [show str [69] = ⟨#[69]⟩ from rfl] at HRW
    clear HOFF HCASE HNM HBR HROW HALL
    generalize nmd ⟨18, s, n, k, at_⟩ 1 = b at *
    cases b with
    | true =>
      have HE : Keep (goR l [69] (a1, true) = G) := ⟨by have := HE0.out; rw [if_pos rfl] at this; exact this.symm⟩
      rw [HE.out] at HRW
      clear HE0
      go_enter Try.func40, Try.ntmps40
      go_wp2_with fail
      refine (HC1.out _).mono ?_
      rintro e w1 ⟨rfl, hb⟩
      have HTBw1 := keep (HTB.out.to hb)
      clear hb n0 n1 n2 n3 n4 o0 o1 i0 i1 r0 r1 rl rf rs0 rs1
      obtain ⟨n0, n1, n2, n3, n4, o0, o1, i0, i1, r0, r1, rl, rf, rs0, rs1⟩ := HTBw1.out.facts
      simp only at n0 n1 n2 n3 n4
      go_wp2_with fail
      refine (HRW.out _ HTBw1.out.below).mono ?_
      rintro e w2 ⟨rfl, hb⟩
      have HTBw2 := keep (HTBw1.out.to hb)
      clear hb n0 n1 n2 n3 n4 o0 o1 i0 i1 r0 r1 rl rf rs0 rs1
      obtain ⟨n0, n1, n2, n3, n4, o0, o1, i0, i1, r0, r1, rl, rf, rs0, rs1⟩ := HTBw2.out.facts
      simp only at n0 n1 n2 n3 n4
      go_wp2_with fail
      refine bodyPost_ret (v := .agg #[.int .i64 (G.1 : Int), .bool G.2]) ?_ rfl ⟨rfl, (HTBw2.out.below.setCell (p := ⟨w.heap.size + 1 + 1 + 1, 0, none⟩) (by simp only; omega) _).setCell (p := ⟨w.heap.size + 1 + 1 + 1, 1, none⟩) (by simp only; omega) _⟩
      simp [results, Try.results40, go_sem, rs0, rs1]
    | false =>
      have HE : Keep ((a, false) = G) := ⟨by have := HE0.out; rw [if_neg (by simp)] at this; exact this.symm⟩
      clear HE0
      go_enter Try.func40, Try.ntmps40
      go_wp2_with fail
      refine (HC1.out _).mono ?_
      rintro e w1 ⟨rfl, hb⟩
      have HTBw1 := keep (HTB.out.to hb)
      clear hb n0 n1 n2 n3 n4 o0 o1 i0 i1 r0 r1 rl rf rs0 rs1
      obtain ⟨n0, n1, n2, n3, n4, o0, o1, i0, i1, r0, r1, rl, rf, rs0, rs1⟩ := HTBw1.out.facts
      simp only at n0 n1 n2 n3 n4
      go_wp2_with fail
      refine bodyPost_ret (v := .agg #[.int .i64 (a : Int), .bool false]) ?_ rfl ⟨by rw [← HE.out], (HTBw1.out.below.setCell (p := ⟨w.heap.size + 1 + 1 + 1, 0, none⟩) (by simp only; omega) _).setCell (p := ⟨w.heap.size + 1 + 1 + 1, 1, none⟩) (by simp only; omega) _⟩
      simp [results, Try.results40, go_sem, rs0, rs1]
  have q0 : (op == 18) = false := by simpa using h0
  by_cases h1 : op = 19
  · subst h1
    have HE0 : Keep (G = if nmd ⟨19, s, n, k, at_⟩ 1 = true then goR l [69] (a1, true) else (a, false)) := ⟨HCASE.out [69] (nmd ⟨19, s, n, k, at_⟩ 1) (rowC_nmd (x := ⟨19, s, n, k, at_⟩) (f := [69]) rfl rfl rfl rfl)⟩
    have HC1 := keep (fun W => HNM.out 1 W)
    have HRW := keep (fun W hW => HROW.out [69] (by decide) (by decide) W hW)
    rw [show str [69] = ⟨#[69]⟩ from rfl] at HRW
    clear HOFF HCASE HNM HBR HROW HALL
    generalize nmd ⟨19, s, n, k, at_⟩ 1 = b at *
    cases b with
    | true =>
      have HE : Keep (goR l [69] (a1, true) = G) := ⟨by have := HE0.out; rw [if_pos rfl] at this; exact this.symm⟩
      rw [HE.out] at HRW
      clear HE0
      go_enter Try.func40, Try.ntmps40
      go_wp2_with fail
      refine (HC1.out _).mono ?_
      rintro e w1 ⟨rfl, hb⟩
      have HTBw1 := keep (HTB.out.to hb)
      clear hb n0 n1 n2 n3 n4 o0 o1 i0 i1 r0 r1 rl rf rs0 rs1
      obtain ⟨n0, n1, n2, n3, n4, o0, o1, i0, i1, r0, r1, rl, rf, rs0, rs1⟩ := HTBw1.out.facts
      simp only at n0 n1 n2 n3 n4
      go_wp2_with fail
      refine (HRW.out _ HTBw1.out.below).mono ?_
      rintro e w2 ⟨rfl, hb⟩
      have HTBw2 := keep (HTBw1.out.to hb)
      clear hb n0 n1 n2 n3 n4 o0 o1 i0 i1 r0 r1 rl rf rs0 rs1
      obtain ⟨n0, n1, n2, n3, n4, o0, o1, i0, i1, r0, r1, rl, rf, rs0, rs1⟩ := HTBw2.out.facts
      simp only at n0 n1 n2 n3 n4
      go_wp2_with fail
      refine bodyPost_ret (v := .agg #[.int .i64 (G.1 : Int), .bool G.2]) ?_ rfl ⟨rfl, (HTBw2.out.below.setCell (p := ⟨w.heap.size + 1 + 1 + 1, 0, none⟩) (by simp only; omega) _).setCell (p := ⟨w.heap.size + 1 + 1 + 1, 1, none⟩) (by simp only; omega) _⟩
      simp [results, Try.results40, go_sem, rs0, rs1]
    | false =>
      have HE : Keep ((a, false) = G) := ⟨by have := HE0.out; rw [if_neg (by simp)] at this; exact this.symm⟩
      clear HE0
      go_enter Try.func40, Try.ntmps40
      go_wp2_with fail
      refine (HC1.out _).mono ?_
      rintro e w1 ⟨rfl, hb⟩
      have HTBw1 := keep (HTB.out.to hb)
      clear hb n0 n1 n2 n3 n4 o0 o1 i0 i1 r0 r1 rl rf rs0 rs1
      obtain ⟨n0, n1, n2, n3, n4, o0, o1, i0, i1, r0, r1, rl, rf, rs0, rs1⟩ := HTBw1.out.facts
      simp only at n0 n1 n2 n3 n4
      go_wp2_with fail
      refine bodyPost_ret (v := .agg #[.int .i64 (a : Int), .bool false]) ?_ rfl ⟨by rw [← HE.out], (HTBw1.out.below.setCell (p := ⟨w.heap.size + 1 + 1 + 1, 0, none⟩) (by simp only; omega) _).setCell (p := ⟨w.heap.size + 1 + 1 + 1, 1, none⟩) (by simp only; omega) _⟩
      simp [results, Try.results40, go_sem, rs0, rs1]
  have q1 : (op == 19) = false := by simpa using h1
  by_cases h2 : op = 20
  · subst h2
    have HE0 : Keep (G = if nmd ⟨20, s, n, k, at_⟩ 1 = true then goR l [69] (a1, true) else (a, false)) := ⟨HCASE.out [69] (nmd ⟨20, s, n, k, at_⟩ 1) (rowC_nmd (x := ⟨20, s, n, k, at_⟩) (f := [69]) rfl rfl rfl rfl)⟩
    have HC1 := keep (fun W => HNM.out 1 W)
    have HRW := keep (fun W hW => HROW.out [69] (by decide) (by decide) W hW)
    rw [show str [69] = ⟨#[69]⟩ from rfl] at HRW
    clear HOFF HCASE HNM HBR HROW HALL
    generalize nmd ⟨20, s, n, k, at_⟩ 1 = b at *
    cases b with
    | true =>
      have HE : Keep (goR l [69] (a1, true) = G) := ⟨by have := HE0.out; rw [if_pos rfl] at this; exact this.symm⟩
      rw [HE.out] at HRW
      clear HE0
      go_enter Try.func40, Try.ntmps40
      go_wp2_with fail
      refine (HC1.out _).mono ?_
      rintro e w1 ⟨rfl, hb⟩
      have HTBw1 := keep (HTB.out.to hb)
      clear hb n0 n1 n2 n3 n4 o0 o1 i0 i1 r0 r1 rl rf rs0 rs1
      obtain ⟨n0, n1, n2, n3, n4, o0, o1, i0, i1, r0, r1, rl, rf, rs0, rs1⟩ := HTBw1.out.facts
      simp only at n0 n1 n2 n3 n4
      go_wp2_with fail
      refine (HRW.out _ HTBw1.out.below).mono ?_
      rintro e w2 ⟨rfl, hb⟩
      have HTBw2 := keep (HTBw1.out.to hb)
      clear hb n0 n1 n2 n3 n4 o0 o1 i0 i1 r0 r1 rl rf rs0 rs1
      obtain ⟨n0, n1, n2, n3, n4, o0, o1, i0, i1, r0, r1, rl, rf, rs0, rs1⟩ := HTBw2.out.facts
      simp only at n0 n1 n2 n3 n4
      go_wp2_with fail
      refine bodyPost_ret (v := .agg #[.int .i64 (G.1 : Int), .bool G.2]) ?_ rfl ⟨rfl, (HTBw2.out.below.setCell (p := ⟨w.heap.size + 1 + 1 + 1, 0, none⟩) (by simp only; omega) _).setCell (p := ⟨w.heap.size + 1 + 1 + 1, 1, none⟩) (by simp only; omega) _⟩
      simp [results, Try.results40, go_sem, rs0, rs1]
    | false =>
      have HE : Keep ((a, false) = G) := ⟨by have := HE0.out; rw [if_neg (by simp)] at this; exact this.symm⟩
      clear HE0
      go_enter Try.func40, Try.ntmps40
      go_wp2_with fail
      refine (HC1.out _).mono ?_
      rintro e w1 ⟨rfl, hb⟩
      have HTBw1 := keep (HTB.out.to hb)
      clear hb n0 n1 n2 n3 n4 o0 o1 i0 i1 r0 r1 rl rf rs0 rs1
      obtain ⟨n0, n1, n2, n3, n4, o0, o1, i0, i1, r0, r1, rl, rf, rs0, rs1⟩ := HTBw1.out.facts
      simp only at n0 n1 n2 n3 n4
      go_wp2_with fail
      refine bodyPost_ret (v := .agg #[.int .i64 (a : Int), .bool false]) ?_ rfl ⟨by rw [← HE.out], (HTBw1.out.below.setCell (p := ⟨w.heap.size + 1 + 1 + 1, 0, none⟩) (by simp only; omega) _).setCell (p := ⟨w.heap.size + 1 + 1 + 1, 1, none⟩) (by simp only; omega) _⟩
      simp [results, Try.results40, go_sem, rs0, rs1]
  have q2 : (op == 20) = false := by simpa using h2
  by_cases h3 : op = 21
  · subst h3
    have HE0 : Keep (G = if bar ⟨21, s, n, k, at_⟩ 2 = true then goR l [82, 69] (a1, true) else (a, false)) := ⟨HCASE.out [82, 69] (bar ⟨21, s, n, k, at_⟩ 2) (rowC_bar (x := ⟨21, s, n, k, at_⟩) (f := [82, 69]) rfl rfl rfl rfl)⟩
    have HC1 := keep (fun W => HBR.out 2 W)
    have HRW := keep (fun W hW => HROW.out [82, 69] (by decide) (by decide) W hW)
    rw [show str [82, 69] = ⟨#[82, 69]⟩ from rfl] at HRW
    clear HOFF HCASE HNM HBR HROW HALL
    generalize bar ⟨21, s, n, k, at_⟩ 2 = b at *
    cases b with
    | true =>
      have HE : Keep (goR l [82, 69] (a1, true) = G) := ⟨by have := HE0.out; rw [if_pos rfl] at this; exact this.symm⟩
      rw [HE.out] at HRW
      clear HE0
      go_enter Try.func40, Try.ntmps40
      go_wp2_with fail
      refine (HC1.out _).mono ?_
      rintro e w1 ⟨rfl, hb⟩
      have HTBw1 := keep (HTB.out.to hb)
      clear hb n0 n1 n2 n3 n4 o0 o1 i0 i1 r0 r1 rl rf rs0 rs1
      obtain ⟨n0, n1, n2, n3, n4, o0, o1, i0, i1, r0, r1, rl, rf, rs0, rs1⟩ := HTBw1.out.facts
      simp only at n0 n1 n2 n3 n4
      go_wp2_with fail
      refine (HRW.out _ HTBw1.out.below).mono ?_
      rintro e w2 ⟨rfl, hb⟩
      have HTBw2 := keep (HTBw1.out.to hb)
      clear hb n0 n1 n2 n3 n4 o0 o1 i0 i1 r0 r1 rl rf rs0 rs1
      obtain ⟨n0, n1, n2, n3, n4, o0, o1, i0, i1, r0, r1, rl, rf, rs0, rs1⟩ := HTBw2.out.facts
      simp only at n0 n1 n2 n3 n4
      go_wp2_with fail
      refine bodyPost_ret (v := .agg #[.int .i64 (G.1 : Int), .bool G.2]) ?_ rfl ⟨rfl, (HTBw2.out.below.setCell (p := ⟨w.heap.size + 1 + 1 + 1, 0, none⟩) (by simp only; omega) _).setCell (p := ⟨w.heap.size + 1 + 1 + 1, 1, none⟩) (by simp only; omega) _⟩
      simp [results, Try.results40, go_sem, rs0, rs1]
    | false =>
      have HE : Keep ((a, false) = G) := ⟨by have := HE0.out; rw [if_neg (by simp)] at this; exact this.symm⟩
      clear HE0
      go_enter Try.func40, Try.ntmps40
      go_wp2_with fail
      refine (HC1.out _).mono ?_
      rintro e w1 ⟨rfl, hb⟩
      have HTBw1 := keep (HTB.out.to hb)
      clear hb n0 n1 n2 n3 n4 o0 o1 i0 i1 r0 r1 rl rf rs0 rs1
      obtain ⟨n0, n1, n2, n3, n4, o0, o1, i0, i1, r0, r1, rl, rf, rs0, rs1⟩ := HTBw1.out.facts
      simp only at n0 n1 n2 n3 n4
      go_wp2_with fail
      refine bodyPost_ret (v := .agg #[.int .i64 (a : Int), .bool false]) ?_ rfl ⟨by rw [← HE.out], (HTBw1.out.below.setCell (p := ⟨w.heap.size + 1 + 1 + 1, 0, none⟩) (by simp only; omega) _).setCell (p := ⟨w.heap.size + 1 + 1 + 1, 1, none⟩) (by simp only; omega) _⟩
      simp [results, Try.results40, go_sem, rs0, rs1]
  have q3 : (op == 21) = false := by simpa using h3
  by_cases h4 : op = 22
  · subst h4
    have HE0 : Keep (G = if nmd ⟨22, s, n, k, at_⟩ 1 = true then goR l [82] (a1, true) else (a, false)) := ⟨HCASE.out [82] (nmd ⟨22, s, n, k, at_⟩ 1) (rowC_nmd (x := ⟨22, s, n, k, at_⟩) (f := [82]) rfl rfl rfl rfl)⟩
    have HC1 := keep (fun W => HNM.out 1 W)
    have HRW := keep (fun W hW => HROW.out [82] (by decide) (by decide) W hW)
    rw [show str [82] = ⟨#[82]⟩ from rfl] at HRW
    clear HOFF HCASE HNM HBR HROW HALL
    generalize nmd ⟨22, s, n, k, at_⟩ 1 = b at *
    cases b with
    | true =>
      have HE : Keep (goR l [82] (a1, true) = G) := ⟨by have := HE0.out; rw [if_pos rfl] at this; exact this.symm⟩
      rw [HE.out] at HRW
      clear HE0
      go_enter Try.func40, Try.ntmps40
      go_wp2_with fail
      refine (HC1.out _).mono ?_
      rintro e w1 ⟨rfl, hb⟩
      have HTBw1 := keep (HTB.out.to hb)
      clear hb n0 n1 n2 n3 n4 o0 o1 i0 i1 r0 r1 rl rf rs0 rs1
      obtain ⟨n0, n1, n2, n3, n4, o0, o1, i0, i1, r0, r1, rl, rf, rs0, rs1⟩ := HTBw1.out.facts
      simp only at n0 n1 n2 n3 n4
      go_wp2_with fail
      refine (HRW.out _ HTBw1.out.below).mono ?_
      rintro e w2 ⟨rfl, hb⟩
      have HTBw2 := keep (HTBw1.out.to hb)
      clear hb n0 n1 n2 n3 n4 o0 o1 i0 i1 r0 r1 rl rf rs0 rs1
      obtain ⟨n0, n1, n2, n3, n4, o0, o1, i0, i1, r0, r1, rl, rf, rs0, rs1⟩ := HTBw2.out.facts
      simp only at n0 n1 n2 n3 n4
      go_wp2_with fail
      refine bodyPost_ret (v := .agg #[.int .i64 (G.1 : Int), .bool G.2]) ?_ rfl ⟨rfl, (HTBw2.out.below.setCell (p := ⟨w.heap.size + 1 + 1 + 1, 0, none⟩) (by simp only; omega) _).setCell (p := ⟨w.heap.size + 1 + 1 + 1, 1, none⟩) (by simp only; omega) _⟩
      simp [results, Try.results40, go_sem, rs0, rs1]
    | false =>
      have HE : Keep ((a, false) = G) := ⟨by have := HE0.out; rw [if_neg (by simp)] at this; exact this.symm⟩
      clear HE0
      go_enter Try.func40, Try.ntmps40
      go_wp2_with fail
      refine (HC1.out _).mono ?_
      rintro e w1 ⟨rfl, hb⟩
      have HTBw1 := keep (HTB.out.to hb)
      clear hb n0 n1 n2 n3 n4 o0 o1 i0 i1 r0 r1 rl rf rs0 rs1
      obtain ⟨n0, n1, n2, n3, n4, o0, o1, i0, i1, r0, r1, rl, rf, rs0, rs1⟩ := HTBw1.out.facts
      simp only at n0 n1 n2 n3 n4
      go_wp2_with fail
      refine bodyPost_ret (v := .agg #[.int .i64 (a : Int), .bool false]) ?_ rfl ⟨by rw [← HE.out], (HTBw1.out.below.setCell (p := ⟨w.heap.size + 1 + 1 + 1, 0, none⟩) (by simp only; omega) _).setCell (p := ⟨w.heap.size + 1 + 1 + 1, 1, none⟩) (by simp only; omega) _⟩
      simp [results, Try.results40, go_sem, rs0, rs1]
  have q4 : (op == 22) = false := by simpa using h4
  by_cases h5 : op = 23
  · subst h5
    by_cases hk3 : k = 3
    · have hb2 : bar ⟨23, s, n, k, at_⟩ 2 = false := by unfold bar; rw [show (k == 2) = false by simp; omega]; simp
      have HC0 := keep (fun W => HBR.out 2 W)
      rw [hb2] at HC0
      have HE0 : Keep (G = if bar ⟨23, s, n, k, at_⟩ 3 = true then goR l [69, 66, 66] (a1, true) else (a, false)) := ⟨HCASE.out [69, 66, 66] (bar ⟨23, s, n, k, at_⟩ 3) (rowC_bar (x := ⟨23, s, n, k, at_⟩) (f := [69, 66, 66]) rfl rfl rfl (by unfold shpP; simp [hk3]))⟩
      have HC1 := keep (fun W => HBR.out 3 W)
      have HRW := keep (fun W hW => HROW.out [69, 66, 66] (by decide) (by decide) W hW)
      rw [show str [69, 66, 66] = ⟨#[69, 66, 66]⟩ from rfl] at HRW
      clear HOFF HCASE HNM HBR HROW HALL
      clear hb2 hk3
      generalize bar ⟨23, s, n, k, at_⟩ 3 = b at *
      cases b with
      | true =>
        have HE : Keep (goR l [69, 66, 66] (a1, true) = G) := ⟨by have := HE0.out; rw [if_pos rfl] at this; exact this.symm⟩
        rw [HE.out] at HRW
        clear HE0
        go_enter Try.func40, Try.ntmps40
        go_wp2_with fail
        refine (HC0.out _).mono ?_
        rintro e w0 ⟨rfl, hb⟩
        have HTBw0 := keep (HTB.out.to hb)
        clear hb n0 n1 n2 n3 n4 o0 o1 i0 i1 r0 r1 rl rf rs0 rs1
        obtain ⟨n0, n1, n2, n3, n4, o0, o1, i0, i1, r0, r1, rl, rf, rs0, rs1⟩ := HTBw0.out.facts
        simp only at n0 n1 n2 n3 n4
        go_wp2_with fail
        refine (HC1.out _).mono ?_
        rintro e w1 ⟨rfl, hb⟩
        have HTBw1 := keep (HTBw0.out.to hb)
        clear hb n0 n1 n2 n3 n4 o0 o1 i0 i1 r0 r1 rl rf rs0 rs1
        obtain ⟨n0, n1, n2, n3, n4, o0, o1, i0, i1, r0, r1, rl, rf, rs0, rs1⟩ := HTBw1.out.facts
        simp only at n0 n1 n2 n3 n4
        go_wp2_with fail
        refine (HRW.out _ HTBw1.out.below).mono ?_
        rintro e w2 ⟨rfl, hb⟩
        have HTBw2 := keep (HTBw1.out.to hb)
        clear hb n0 n1 n2 n3 n4 o0 o1 i0 i1 r0 r1 rl rf rs0 rs1
        obtain ⟨n0, n1, n2, n3, n4, o0, o1, i0, i1, r0, r1, rl, rf, rs0, rs1⟩ := HTBw2.out.facts
        simp only at n0 n1 n2 n3 n4
        go_wp2_with fail
        refine bodyPost_ret (v := .agg #[.int .i64 (G.1 : Int), .bool G.2]) ?_ rfl ⟨rfl, (HTBw2.out.below.setCell (p := ⟨w.heap.size + 1 + 1 + 1, 0, none⟩) (by simp only; omega) _).setCell (p := ⟨w.heap.size + 1 + 1 + 1, 1, none⟩) (by simp only; omega) _⟩
        simp [results, Try.results40, go_sem, rs0, rs1]
      | false =>
        have HE : Keep ((a, false) = G) := ⟨by have := HE0.out; rw [if_neg (by simp)] at this; exact this.symm⟩
        clear HE0
        go_enter Try.func40, Try.ntmps40
        go_wp2_with fail
        refine (HC0.out _).mono ?_
        rintro e w0 ⟨rfl, hb⟩
        have HTBw0 := keep (HTB.out.to hb)
        clear hb n0 n1 n2 n3 n4 o0 o1 i0 i1 r0 r1 rl rf rs0 rs1
        obtain ⟨n0, n1, n2, n3, n4, o0, o1, i0, i1, r0, r1, rl, rf, rs0, rs1⟩ := HTBw0.out.facts
        simp only at n0 n1 n2 n3 n4
        go_wp2_with fail
        refine (HC1.out _).mono ?_
        rintro e w1 ⟨rfl, hb⟩
        have HTBw1 := keep (HTBw0.out.to hb)
        clear hb n0 n1 n2 n3 n4 o0 o1 i0 i1 r0 r1 rl rf rs0 rs1
        obtain ⟨n0, n1, n2, n3, n4, o0, o1, i0, i1, r0, r1, rl, rf, rs0, rs1⟩ := HTBw1.out.facts
        simp only at n0 n1 n2 n3 n4
        go_wp2_with fail
        refine bodyPost_ret (v := .agg #[.int .i64 (a : Int), .bool false]) ?_ rfl ⟨by rw [← HE.out], (HTBw1.out.below.setCell (p := ⟨w.heap.size + 1 + 1 + 1, 0, none⟩) (by simp only; omega) _).setCell (p := ⟨w.heap.size + 1 + 1 + 1, 1, none⟩) (by simp only; omega) _⟩
        simp [results, Try.results40, go_sem, rs0, rs1]
    · have hb3 : bar ⟨23, s, n, k, at_⟩ 3 = false := by unfold bar; rw [show (k == 3) = false by simpa using hk3]; simp
      have HC0 := keep (fun W => HBR.out 3 W)
      rw [hb3] at HC0
      have HE0 : Keep (G = if bar ⟨23, s, n, k, at_⟩ 2 = true then goR l [69, 66] (a1, true) else (a, false)) := ⟨HCASE.out [69, 66] (bar ⟨23, s, n, k, at_⟩ 2) (rowC_bar (x := ⟨23, s, n, k, at_⟩) (f := [69, 66]) rfl rfl rfl (by unfold shpP; simp [hk3]))⟩
      have HC1 := keep (fun W => HBR.out 2 W)
      have HRW := keep (fun W hW => HROW.out [69, 66] (by decide) (by decide) W hW)
      rw [show str [69, 66] = ⟨#[69, 66]⟩ from rfl] at HRW
      clear HOFF HCASE HNM HBR HROW HALL
      clear hb3 hk3
      generalize bar ⟨23, s, n, k, at_⟩ 2 = b at *
      cases b with
      | true =>
        have HE : Keep (goR l [69, 66] (a1, true) = G) := ⟨by have := HE0.out; rw [if_pos rfl] at this; exact this.symm⟩
        rw [HE.out] at HRW
        clear HE0
        go_enter Try.func40, Try.ntmps40
        go_wp2_with fail
        refine (HC1.out _).mono ?_
        rintro e w1 ⟨rfl, hb⟩
        have HTBw1 := keep (HTB.out.to hb)
        clear hb n0 n1 n2 n3 n4 o0 o1 i0 i1 r0 r1 rl rf rs0 rs1
        obtain ⟨n0, n1, n2, n3, n4, o0, o1, i0, i1, r0, r1, rl, rf, rs0, rs1⟩ := HTBw1.out.facts
        simp only at n0 n1 n2 n3 n4
        go_wp2_with fail
        refine (HRW.out _ HTBw1.out.below).mono ?_
        rintro e w2 ⟨rfl, hb⟩
        have HTBw2 := keep (HTBw1.out.to hb)
        clear hb n0 n1 n2 n3 n4 o0 o1 i0 i1 r0 r1 rl rf rs0 rs1
        obtain ⟨n0, n1, n2, n3, n4, o0, o1, i0, i1, r0, r1, rl, rf, rs0, rs1⟩ := HTBw2.out.facts
        simp only at n0 n1 n2 n3 n4
        go_wp2_with fail
        refine bodyPost_ret (v := .agg #[.int .i64 (G.1 : Int), .bool G.2]) ?_ rfl ⟨rfl, (HTBw2.out.below.setCell (p := ⟨w.heap.size + 1 + 1 + 1, 0, none⟩) (by simp only; omega) _).setCell (p := ⟨w.heap.size + 1 + 1 + 1, 1, none⟩) (by simp only; omega) _⟩
        simp [results, Try.results40, go_sem, rs0, rs1]
      | false =>
        have HE : Keep ((a, false) = G) := ⟨by have := HE0.out; rw [if_neg (by simp)] at this; exact this.symm⟩
        clear HE0
        go_enter Try.func40, Try.ntmps40
        go_wp2_with fail
        refine (HC1.out _).mono ?_
        rintro e w1 ⟨rfl, hb⟩
        have HTBw1 := keep (HTB.out.to hb)
        clear hb n0 n1 n2 n3 n4 o0 o1 i0 i1 r0 r1 rl rf rs0 rs1
        obtain ⟨n0, n1, n2, n3, n4, o0, o1, i0, i1, r0, r1, rl, rf, rs0, rs1⟩ := HTBw1.out.facts
        simp only at n0 n1 n2 n3 n4
        go_wp2_with fail
        refine (HC0.out _).mono ?_
        rintro e w2 ⟨rfl, hb⟩
        have HTBw2 := keep (HTBw1.out.to hb)
        clear hb n0 n1 n2 n3 n4 o0 o1 i0 i1 r0 r1 rl rf rs0 rs1
        obtain ⟨n0, n1, n2, n3, n4, o0, o1, i0, i1, r0, r1, rl, rf, rs0, rs1⟩ := HTBw2.out.facts
        simp only at n0 n1 n2 n3 n4
        go_wp2_with fail
        refine bodyPost_ret (v := .agg #[.int .i64 (a : Int), .bool false]) ?_ rfl ⟨by rw [← HE.out], (HTBw2.out.below.setCell (p := ⟨w.heap.size + 1 + 1 + 1, 0, none⟩) (by simp only; omega) _).setCell (p := ⟨w.heap.size + 1 + 1 + 1, 1, none⟩) (by simp only; omega) _⟩
        simp [results, Try.results40, go_sem, rs0, rs1]
  have q5 : (op == 23) = false := by simpa using h5
  by_cases h6 : op = 24
  · subst h6
    have HE0 : Keep (G = if bar ⟨24, s, n, k, at_⟩ 2 = true then goR l [69, 66] (a1, true) else (a, false)) := ⟨HCASE.out [69, 66] (bar ⟨24, s, n, k, at_⟩ 2) (rowC_bar (x := ⟨24, s, n, k, at_⟩) (f := [69, 66]) rfl rfl rfl rfl)⟩
    have HC1 := keep (fun W => HBR.out 2 W)
    have HRW := keep (fun W hW => HROW.out [69, 66] (by decide) (by decide) W hW)
    rw [show str [69, 66] = ⟨#[69, 66]⟩ from rfl] at HRW
    clear HOFF HCASE HNM HBR HROW HALL
    generalize bar ⟨24, s, n, k, at_⟩ 2 = b at *
    cases b with
    | true =>
      have HE : Keep (goR l [69, 66] (a1, true) = G) := ⟨by have := HE0.out; rw [if_pos rfl] at this; exact this.symm⟩
      rw [HE.out] at HRW
      clear HE0
      go_enter Try.func40, Try.ntmps40
      go_wp2_with fail
      refine (HC1.out _).mono ?_
      rintro e w1 ⟨rfl, hb⟩
      have HTBw1 := keep (HTB.out.to hb)
      clear hb n0 n1 n2 n3 n4 o0 o1 i0 i1 r0 r1 rl rf rs0 rs1
      obtain ⟨n0, n1, n2, n3, n4, o0, o1, i0, i1, r0, r1, rl, rf, rs0, rs1⟩ := HTBw1.out.facts
      simp only at n0 n1 n2 n3 n4
      go_wp2_with fail
      refine (HRW.out _ HTBw1.out.below).mono ?_
      rintro e w2 ⟨rfl, hb⟩
      have HTBw2 := keep (HTBw1.out.to hb)
      clear hb n0 n1 n2 n3 n4 o0 o1 i0 i1 r0 r1 rl rf rs0 rs1
      obtain ⟨n0, n1, n2, n3, n4, o0, o1, i0, i1, r0, r1, rl, rf, rs0, rs1⟩ := HTBw2.out.facts
      simp only at n0 n1 n2 n3 n4
      go_wp2_with fail
      refine bodyPost_ret (v := .agg #[.int .i64 (G.1 : Int), .bool G.2]) ?_ rfl ⟨rfl, (HTBw2.out.below.setCell (p := ⟨w.heap.size + 1 + 1 + 1, 0, none⟩) (by simp only; omega) _).setCell (p := ⟨w.heap.size + 1 + 1 + 1, 1, none⟩) (by simp only; omega) _⟩
      simp [results, Try.results40, go_sem, rs0, rs1]
    | false =>
      have HE : Keep ((a, false) = G) := ⟨by have := HE0.out; rw [if_neg (by simp)] at this; exact this.symm⟩
      clear HE0
      go_enter Try.func40, Try.ntmps40
      go_wp2_with fail
      refine (HC1.out _).mono ?_
      rintro e w1 ⟨rfl, hb⟩
      have HTBw1 := keep (HTB.out.to hb)
      clear hb n0 n1 n2 n3 n4 o0 o1 i0 i1 r0 r1 rl rf rs0 rs1
      obtain ⟨n0, n1, n2, n3, n4, o0, o1, i0, i1, r0, r1, rl, rf, rs0, rs1⟩ := HTBw1.out.facts
      simp only at n0 n1 n2 n3 n4
      go_wp2_with fail
      refine bodyPost_ret (v := .agg #[.int .i64 (a : Int), .bool false]) ?_ rfl ⟨by rw [← HE.out], (HTBw1.out.below.setCell (p := ⟨w.heap.size + 1 + 1 + 1, 0, none⟩) (by simp only; omega) _).setCell (p := ⟨w.heap.size + 1 + 1 + 1, 1, none⟩) (by simp only; omega) _⟩
      simp [results, Try.results40, go_sem, rs0, rs1]
  have q6 : (op == 24) = false := by simpa using h6
  by_cases h7 : op = 25
  · subst h7
    have HE0 : Keep (G = if (decide (1 ≤ k) && bar ⟨25, s, n, k, at_⟩ k) = true then goR l (List.replicate k.toNat 67) (a1, true) else (a, false)) := ⟨HCASE.out _ _ (rowC_mbar (x := ⟨25, s, n, k, at_⟩) (f := [67]) (m := 67) (la := []) rfl rfl rfl rfl rfl (fun h => row_sel 67 k h))⟩
    have HC1 := keep (fun W => HBR.out k W)
    have HRW := keep (fun W hW => HALL.out 67 (by decide) k hk2 W hW)
    rw [show str [67] = ⟨#[67]⟩ from rfl] at HRW
    clear HOFF HCASE HNM HBR HROW HALL hk2
    by_cases hk : 1 ≤ k
    · have hd : decide (1 ≤ k) = true := decide_eq_true hk
      rw [hd, Bool.true_and] at HE0
      generalize bar ⟨25, s, n, k, at_⟩ k = b at *
      cases b with
      | true =>
        have HE : Keep (goR l (List.replicate k.toNat 67) (a1, true) = G) := ⟨by have := HE0.out; rw [if_pos rfl] at this; exact this.symm⟩
        rw [HE.out] at HRW
        clear HE0 hk
        go_enter Try.func40, Try.ntmps40
        go_wp2_with fail
        refine (HC1.out _).mono ?_
        rintro e w1 ⟨rfl, hb⟩
        have HTBw1 := keep (HTB.out.to hb)
        clear hb n0 n1 n2 n3 n4 o0 o1 i0 i1 r0 r1 rl rf rs0 rs1
        obtain ⟨n0, n1, n2, n3, n4, o0, o1, i0, i1, r0, r1, rl, rf, rs0, rs1⟩ := HTBw1.out.facts
        simp only at n0 n1 n2 n3 n4
        go_wp2_with fail
        refine (HRW.out _ HTBw1.out.below).mono ?_
        rintro e w2 ⟨rfl, hb⟩
        have HTBw2 := keep (HTBw1.out.to hb)
        clear hb n0 n1 n2 n3 n4 o0 o1 i0 i1 r0 r1 rl rf rs0 rs1
        obtain ⟨n0, n1, n2, n3, n4, o0, o1, i0, i1, r0, r1, rl, rf, rs0, rs1⟩ := HTBw2.out.facts
        simp only at n0 n1 n2 n3 n4
        go_wp2_with fail
        refine bodyPost_ret (v := .agg #[.int .i64 (G.1 : Int), .bool G.2]) ?_ rfl ⟨rfl, (HTBw2.out.below.setCell (p := ⟨w.heap.size + 1 + 1 + 1, 0, none⟩) (by simp only; omega) _).setCell (p := ⟨w.heap.size + 1 + 1 + 1, 1, none⟩) (by simp only; omega) _⟩
        simp [results, Try.results40, go_sem, rs0, rs1]
      | false =>
        have HE : Keep ((a, false) = G) := ⟨by have := HE0.out; rw [if_neg (by simp)] at this; exact this.symm⟩
        clear HE0 hk
        go_enter Try.func40, Try.ntmps40
        go_wp2_with fail
        refine (HC1.out _).mono ?_
        rintro e w1 ⟨rfl, hb⟩
        have HTBw1 := keep (HTB.out.to hb)
        clear hb n0 n1 n2 n3 n4 o0 o1 i0 i1 r0 r1 rl rf rs0 rs1
        obtain ⟨n0, n1, n2, n3, n4, o0, o1, i0, i1, r0, r1, rl, rf, rs0, rs1⟩ := HTBw1.out.facts
        simp only at n0 n1 n2 n3 n4
        go_wp2_with fail
        refine bodyPost_ret (v := .agg #[.int .i64 (a : Int), .bool false]) ?_ rfl ⟨by rw [← HE.out], (HTBw1.out.below.setCell (p := ⟨w.heap.size + 1 + 1 + 1, 0, none⟩) (by simp only; omega) _).setCell (p := ⟨w.heap.size + 1 + 1 + 1, 1, none⟩) (by simp only; omega) _⟩
        simp [results, Try.results40, go_sem, rs0, rs1]
    · have hd : decide (1 ≤ k) = false := decide_eq_false hk
      have HE : Keep ((a, false) = G) := ⟨by have := HE0.out; rw [hd, Bool.false_and, if_neg (by simp)] at this; exact this.symm⟩
      clear HE0 hk
      go_enter Try.func40, Try.ntmps40
      go_wp2_with fail
      refine bodyPost_ret (v := .agg #[.int .i64 (a : Int), .bool false]) ?_ rfl ⟨by rw [← HE.out], ((((Below.refl _ w).alloc (Nat.le_refl _) _).alloc (by simp) _).alloc (by simp; omega) _).alloc (by simp; omega) _⟩
      simp [results, Try.results40, go_sem]
  have q7 : (op == 25) = false := by simpa using h7
  by_cases h8 : op = 26
  · subst h8
    have HE0 : Keep (G = if (decide (0 ≤ k) && nmd ⟨26, s, n, k, at_⟩ k) = true then goR l (List.replicate k.toNat 69) (a1, true) else (a, false)) := ⟨HCASE.out _ _ (rowC_mnmd (x := ⟨26, s, n, k, at_⟩) (f := []) (m := 69) (la := []) rfl rfl rfl rfl rfl (fun _ => row_all 69 k.toNat))⟩
    have HC1 := keep (fun W => HNM.out k W)
    have HRW := keep (fun W hW => HALL.out 69 (by decide) k hk2 W hW)
    rw [show str [69] = ⟨#[69]⟩ from rfl] at HRW
    clear HOFF HCASE HNM HBR HROW HALL hk2
    by_cases hk : 0 ≤ k
    · have hd : decide (0 ≤ k) = true := decide_eq_true hk
      rw [hd, Bool.true_and] at HE0
      generalize nmd ⟨26, s, n, k, at_⟩ k = b at *
      cases b with
      | true =>
        have HE : Keep (goR l (List.replicate k.toNat 69) (a1, true) = G) := ⟨by have := HE0.out; rw [if_pos rfl] at this; exact this.symm⟩
        rw [HE.out] at HRW
        clear HE0 hk
        go_enter Try.func40, Try.ntmps40
        go_wp2_with fail
        refine (HC1.out _).mono ?_
        rintro e w1 ⟨rfl, hb⟩
        have HTBw1 := keep (HTB.out.to hb)
        clear hb n0 n1 n2 n3 n4 o0 o1 i0 i1 r0 r1 rl rf rs0 rs1
        obtain ⟨n0, n1, n2, n3, n4, o0, o1, i0, i1, r0, r1, rl, rf, rs0, rs1⟩ := HTBw1.out.facts
        simp only at n0 n1 n2 n3 n4
        go_wp2_with fail
        refine (HRW.out _ HTBw1.out.below).mono ?_
        rintro e w2 ⟨rfl, hb⟩
        have HTBw2 := keep (HTBw1.out.to hb)
        clear hb n0 n1 n2 n3 n4 o0 o1 i0 i1 r0 r1 rl rf rs0 rs1
        obtain ⟨n0, n1, n2, n3, n4, o0, o1, i0, i1, r0, r1, rl, rf, rs0, rs1⟩ := HTBw2.out.facts
        simp only at n0 n1 n2 n3 n4
        go_wp2_with fail
        refine bodyPost_ret (v := .agg #[.int .i64 (G.1 : Int), .bool G.2]) ?_ rfl ⟨rfl, (HTBw2.out.below.setCell (p := ⟨w.heap.size + 1 + 1 + 1, 0, none⟩) (by simp only; omega) _).setCell (p := ⟨w.heap.size + 1 + 1 + 1, 1, none⟩) (by simp only; omega) _⟩
        simp [results, Try.results40, go_sem, rs0, rs1]
      | false =>
        have HE : Keep ((a, false) = G) := ⟨by have := HE0.out; rw [if_neg (by simp)] at this; exact this.symm⟩
        clear HE0 hk
        go_enter Try.func40, Try.ntmps40
        go_wp2_with fail
        refine (HC1.out _).mono ?_
        rintro e w1 ⟨rfl, hb⟩
        have HTBw1 := keep (HTB.out.to hb)
        clear hb n0 n1 n2 n3 n4 o0 o1 i0 i1 r0 r1 rl rf rs0 rs1
        obtain ⟨n0, n1, n2, n3, n4, o0, o1, i0, i1, r0, r1, rl, rf, rs0, rs1⟩ := HTBw1.out.facts
        simp only at n0 n1 n2 n3 n4
        go_wp2_with fail
        refine bodyPost_ret (v := .agg #[.int .i64 (a : Int), .bool false]) ?_ rfl ⟨by rw [← HE.out], (HTBw1.out.below.setCell (p := ⟨w.heap.size + 1 + 1 + 1, 0, none⟩) (by simp only; omega) _).setCell (p := ⟨w.heap.size + 1 + 1 + 1, 1, none⟩) (by simp only; omega) _⟩
        simp [results, Try.results40, go_sem, rs0, rs1]
    · have hd : decide (0 ≤ k) = false := decide_eq_false hk
      have HE : Keep ((a, false) = G) := ⟨by have := HE0.out; rw [hd, Bool.false_and, if_neg (by simp)] at this; exact this.symm⟩
      clear HE0 hk
      go_enter Try.func40, Try.ntmps40
      go_wp2_with fail
      refine bodyPost_ret (v := .agg #[.int .i64 (a : Int), .bool false]) ?_ rfl ⟨by rw [← HE.out], ((((Below.refl _ w).alloc (Nat.le_refl _) _).alloc (by simp) _).alloc (by simp; omega) _).alloc (by simp; omega) _⟩
      simp [results, Try.results40, go_sem]
  have q8 : (op == 26) = false := by simpa using h8
  by_cases h9 : op = 27
  · subst h9
    have HE0 : Keep (G = if bar ⟨27, s, n, k, at_⟩ 1 = true then goR l [69] (a1, true) else (a, false)) := ⟨HCASE.out [69] (bar ⟨27, s, n, k, at_⟩ 1) (rowC_bar (x := ⟨27, s, n, k, at_⟩) (f := [69]) rfl rfl rfl rfl)⟩
    have HC1 := keep (fun W => HBR.out 1 W)
    have HRW := keep (fun W hW => HROW.out [69] (by decide) (by decide) W hW)
    rw [show str [69] = ⟨#[69]⟩ from rfl] at HRW
    clear HOFF HCASE HNM HBR HROW HALL
    generalize bar ⟨27, s, n, k, at_⟩ 1 = b at *
    cases b with
    | true =>
      have HE : Keep (goR l [69] (a1, true) = G) := ⟨by have := HE0.out; rw [if_pos rfl] at this; exact this.symm⟩
      rw [HE.out] at HRW
      clear HE0
      go_enter Try.func40, Try.ntmps40
      go_wp2_with fail
      refine (HC1.out _).mono ?_
      rintro e w1 ⟨rfl, hb⟩
      have HTBw1 := keep (HTB.out.to hb)
      clear hb n0 n1 n2 n3 n4 o0 o1 i0 i1 r0 r1 rl rf rs0 rs1
      obtain ⟨n0, n1, n2, n3, n4, o0, o1, i0, i1, r0, r1, rl, rf, rs0, rs1⟩ := HTBw1.out.facts
      simp only at n0 n1 n2 n3 n4
      go_wp2_with fail
      refine (HRW.out _ HTBw1.out.below).mono ?_
      rintro e w2 ⟨rfl, hb⟩
      have HTBw2 := keep (HTBw1.out.to hb)
      clear hb n0 n1 n2 n3 n4 o0 o1 i0 i1 r0 r1 rl rf rs0 rs1
      obtain ⟨n0, n1, n2, n3, n4, o0, o1, i0, i1, r0, r1, rl, rf, rs0, rs1⟩ := HTBw2.out.facts
      simp only at n0 n1 n2 n3 n4
      go_wp2_with fail
      refine bodyPost_ret (v := .agg #[.int .i64 (G.1 : Int), .bool G.2]) ?_ rfl ⟨rfl, (HTBw2.out.below.setCell (p := ⟨w.heap.size + 1 + 1 + 1, 0, none⟩) (by simp only; omega) _).setCell (p := ⟨w.heap.size + 1 + 1 + 1, 1, none⟩) (by simp only; omega) _⟩
      simp [results, Try.results40, go_sem, rs0, rs1]
    | false =>
      have HE : Keep ((a, false) = G) := ⟨by have := HE0.out; rw [if_neg (by simp)] at this; exact this.symm⟩
      clear HE0
      go_enter Try.func40, Try.ntmps40
      go_wp2_with fail
      refine (HC1.out _).mono ?_
      rintro e w1 ⟨rfl, hb⟩
      have HTBw1 := keep (HTB.out.to hb)
      clear hb n0 n1 n2 n3 n4 o0 o1 i0 i1 r0 r1 rl rf rs0 rs1
      obtain ⟨n0, n1, n2, n3, n4, o0, o1, i0, i1, r0, r1, rl, rf, rs0, rs1⟩ := HTBw1.out.facts
      simp only at n0 n1 n2 n3 n4
      go_wp2_with fail
      refine bodyPost_ret (v := .agg #[.int .i64 (a : Int), .bool false]) ?_ rfl ⟨by rw [← HE.out], (HTBw1.out.below.setCell (p := ⟨w.heap.size + 1 + 1 + 1, 0, none⟩) (by simp only; omega) _).setCell (p := ⟨w.heap.size + 1 + 1 + 1, 1, none⟩) (by simp only; omega) _⟩
      simp [results, Try.results40, go_sem, rs0, rs1]
  have q9 : (op == 27) = false := by simpa using h9
  by_cases h10 : op = 28
  · subst h10
    have HE0 : Keep (G = if bar ⟨28, s, n, k, at_⟩ 1 = true then goR l [69] (a1, true) else (a, false)) := ⟨HCASE.out [69] (bar ⟨28, s, n, k, at_⟩ 1) (rowC_bar (x := ⟨28, s, n, k, at_⟩) (f := [69]) rfl rfl rfl rfl)⟩
    have HC1 := keep (fun W => HBR.out 1 W)
    have HRW := keep (fun W hW => HROW.out [69] (by decide) (by decide) W hW)
    rw [show str [69] = ⟨#[69]⟩ from rfl] at HRW
    clear HOFF HCASE HNM HBR HROW HALL
    generalize bar ⟨28, s, n, k, at_⟩ 1 = b at *
    cases b with
    | true =>
      have HE : Keep (goR l [69] (a1, true) = G) := ⟨by have := HE0.out; rw [if_pos rfl] at this; exact this.symm⟩
      rw [HE.out] at HRW
      clear HE0
      go_enter Try.func40, Try.ntmps40
      go_wp2_with fail
      refine (HC1.out _).mono ?_
      rintro e w1 ⟨rfl, hb⟩
      have HTBw1 := keep (HTB.out.to hb)
      clear hb n0 n1 n2 n3 n4 o0 o1 i0 i1 r0 r1 rl rf rs0 rs1
      obtain ⟨n0, n1, n2, n3, n4, o0, o1, i0, i1, r0, r1, rl, rf, rs0, rs1⟩ := HTBw1.out.facts
      simp only at n0 n1 n2 n3 n4
      go_wp2_with fail
      refine (HRW.out _ HTBw1.out.below).mono ?_
      rintro e w2 ⟨rfl, hb⟩
      have HTBw2 := keep (HTBw1.out.to hb)
      clear hb n0 n1 n2 n3 n4 o0 o1 i0 i1 r0 r1 rl rf rs0 rs1
      obtain ⟨n0, n1, n2, n3, n4, o0, o1, i0, i1, r0, r1, rl, rf, rs0, rs1⟩ := HTBw2.out.facts
      simp only at n0 n1 n2 n3 n4
      go_wp2_with fail
      refine bodyPost_ret (v := .agg #[.int .i64 (G.1 : Int), .bool G.2]) ?_ rfl ⟨rfl, (HTBw2.out.below.setCell (p := ⟨w.heap.size + 1 + 1 + 1, 0, none⟩) (by simp only; omega) _).setCell (p := ⟨w.heap.size + 1 + 1 + 1, 1, none⟩) (by simp only; omega) _⟩
      simp [results, Try.results40, go_sem, rs0, rs1]
    | false =>
      have HE : Keep ((a, false) = G) := ⟨by have := HE0.out; rw [if_neg (by simp)] at this; exact this.symm⟩
      clear HE0
      go_enter Try.func40, Try.ntmps40
      go_wp2_with fail
      refine (HC1.out _).mono ?_
      rintro e w1 ⟨rfl, hb⟩
      have HTBw1 := keep (HTB.out.to hb)
      clear hb n0 n1 n2 n3 n4 o0 o1 i0 i1 r0 r1 rl rf rs0 rs1
      obtain ⟨n0, n1, n2, n3, n4, o0, o1, i0, i1, r0, r1, rl, rf, rs0, rs1⟩ := HTBw1.out.facts
      simp only at n0 n1 n2 n3 n4
      go_wp2_with fail
      refine bodyPost_ret (v := .agg #[.int .i64 (a : Int), .bool false]) ?_ rfl ⟨by rw [← HE.out], (HTBw1.out.below.setCell (p := ⟨w.heap.size + 1 + 1 + 1, 0, none⟩) (by simp only; omega) _).setCell (p := ⟨w.heap.size + 1 + 1 + 1, 1, none⟩) (by simp only; omega) _⟩
      simp [results, Try.results40, go_sem, rs0, rs1]
  have q10 : (op == 28) = false := by simpa using h10
  by_cases h11 : op = 29
  · subst h11
    have HE0 : Keep (G = if bar ⟨29, s, n, k, at_⟩ 1 = true then goR l [69] (a1, true) else (a, false)) := ⟨HCASE.out [69] (bar ⟨29, s, n, k, at_⟩ 1) (rowC_bar (x := ⟨29, s, n, k, at_⟩) (f := [69]) rfl rfl rfl rfl)⟩
    have HC1 := keep (fun W => HBR.out 1 W)
    have HRW := keep (fun W hW => HROW.out [69] (by decide) (by decide) W hW)
    rw [show str [69] = ⟨#[69]⟩ from rfl] at HRW
    clear HOFF HCASE HNM HBR HROW HALL
    generalize bar ⟨29, s, n, k, at_⟩ 1 = b at *
    cases b with
    | true =>
      have HE : Keep (goR l [69] (a1, true) = G) := ⟨by have := HE0.out; rw [if_pos rfl] at this; exact this.symm⟩
      rw [HE.out] at HRW
      clear HE0
      go_enter Try.func40, Try.ntmps40
      go_wp2_with fail
      refine (HC1.out _).mono ?_
      rintro e w1 ⟨rfl, hb⟩
      have HTBw1 := keep (HTB.out.to hb)
      clear hb n0 n1 n2 n3 n4 o0 o1 i0 i1 r0 r1 rl rf rs0 rs1
      obtain ⟨n0, n1, n2, n3, n4, o0, o1, i0, i1, r0, r1, rl, rf, rs0, rs1⟩ := HTBw1.out.facts
      simp only at n0 n1 n2 n3 n4
      go_wp2_with fail
      refine (HRW.out _ HTBw1.out.below).mono ?_
      rintro e w2 ⟨rfl, hb⟩
      have HTBw2 := keep (HTBw1.out.to hb)
      clear hb n0 n1 n2 n3 n4 o0 o1 i0 i1 r0 r1 rl rf rs0 rs1
      obtain ⟨n0, n1, n2, n3, n4, o0, o1, i0, i1, r0, r1, rl, rf, rs0, rs1⟩ := HTBw2.out.facts
      simp only at n0 n1 n2 n3 n4
      go_wp2_with fail
      refine bodyPost_ret (v := .agg #[.int .i64 (G.1 : Int), .bool G.2]) ?_ rfl ⟨rfl, (HTBw2.out.below.setCell (p := ⟨w.heap.size + 1 + 1 + 1, 0, none⟩) (by simp only; omega) _).setCell (p := ⟨w.heap.size + 1 + 1 + 1, 1, none⟩) (by simp only; omega) _⟩
      simp [results, Try.results40, go_sem, rs0, rs1]
    | false =>
      have HE : Keep ((a, false) = G) := ⟨by have := HE0.out; rw [if_neg (by simp)] at this; exact this.symm⟩
      clear HE0
      go_enter Try.func40, Try.ntmps40
      go_wp2_with fail
      refine (HC1.out _).mono ?_
      rintro e w1 ⟨rfl, hb⟩
      have HTBw1 := keep (HTB.out.to hb)
      clear hb n0 n1 n2 n3 n4 o0 o1 i0 i1 r0 r1 rl rf rs0 rs1
      obtain ⟨n0, n1, n2, n3, n4, o0, o1, i0, i1, r0, r1, rl, rf, rs0, rs1⟩ := HTBw1.out.facts
      simp only at n0 n1 n2 n3 n4
      go_wp2_with fail
      refine bodyPost_ret (v := .agg #[.int .i64 (a : Int), .bool false]) ?_ rfl ⟨by rw [← HE.out], (HTBw1.out.below.setCell (p := ⟨w.heap.size + 1 + 1 + 1, 0, none⟩) (by simp only; omega) _).setCell (p := ⟨w.heap.size + 1 + 1 + 1, 1, none⟩) (by simp only; omega) _⟩
      simp [results, Try.results40, go_sem, rs0, rs1]
  have q11 : (op == 29) = false := by simpa using h11
  by_cases h12 : op = 30
  · subst h12
    have HE0 : Keep (G = if bar ⟨30, s, n, k, at_⟩ 0 = true then goR l [] (a1, true) else (a, false)) := ⟨HCASE.out [] (bar ⟨30, s, n, k, at_⟩ 0) (rowC_bar (x := ⟨30, s, n, k, at_⟩) (f := []) rfl rfl rfl rfl)⟩
    have HC1 := keep (fun W => HBR.out 0 W)
    clear HOFF HCASE HNM HBR HROW HALL
    generalize bar ⟨30, s, n, k, at_⟩ 0 = b at *
    cases b with
    | true =>
      have HE : Keep ((a1, true) = G) := ⟨by have := HE0.out; rw [if_pos rfl, goR_nil] at this; exact this.symm⟩
      clear HE0
      go_enter Try.func40, Try.ntmps40
      go_wp2_with fail
      refine (HC1.out _).mono ?_
      rintro e w1 ⟨rfl, hb⟩
      have HTBw1 := keep (HTB.out.to hb)
      clear hb n0 n1 n2 n3 n4 o0 o1 i0 i1 r0 r1 rl rf rs0 rs1
      obtain ⟨n0, n1, n2, n3, n4, o0, o1, i0, i1, r0, r1, rl, rf, rs0, rs1⟩ := HTBw1.out.facts
      simp only at n0 n1 n2 n3 n4
      go_wp2_with fail
      refine bodyPost_ret (v := .agg #[.int .i64 (a1 : Int), .bool true]) ?_ rfl ⟨by rw [← HE.out], (HTBw1.out.below.setCell (p := ⟨w.heap.size + 1 + 1 + 1, 0, none⟩) (by simp only; omega) _).setCell (p := ⟨w.heap.size + 1 + 1 + 1, 1, none⟩) (by simp only; omega) _⟩
      simp [results, Try.results40, go_sem, rs0, rs1]
    | false =>
      have HE : Keep ((a, false) = G) := ⟨by have := HE0.out; rw [if_neg (by simp)] at this; exact this.symm⟩
      clear HE0
      go_enter Try.func40, Try.ntmps40
      go_wp2_with fail
      refine (HC1.out _).mono ?_
      rintro e w1 ⟨rfl, hb⟩
      have HTBw1 := keep (HTB.out.to hb)
      clear hb n0 n1 n2 n3 n4 o0 o1 i0 i1 r0 r1 rl rf rs0 rs1
      obtain ⟨n0, n1, n2, n3, n4, o0, o1, i0, i1, r0, r1, rl, rf, rs0, rs1⟩ := HTBw1.out.facts
      simp only at n0 n1 n2 n3 n4
      go_wp2_with fail
      refine bodyPost_ret (v := .agg #[.int .i64 (a : Int), .bool false]) ?_ rfl ⟨by rw [← HE.out], (HTBw1.out.below.setCell (p := ⟨w.heap.size + 1 + 1 + 1, 0, none⟩) (by simp only; omega) _).setCell (p := ⟨w.heap.size + 1 + 1 + 1, 1, none⟩) (by simp only; omega) _⟩
      simp [results, Try.results40, go_sem, rs0, rs1]
  have q12 : (op == 30) = false := by simpa using h12
  by_cases h13 : op = 31
  · subst h13
    have HE0 : Keep (G = if bar ⟨31, s, n, k, at_⟩ 0 = true then goR l [] (a1, true) else (a, false)) := ⟨HCASE.out [] (bar ⟨31, s, n, k, at_⟩ 0) (rowC_bar (x := ⟨31, s, n, k, at_⟩) (f := []) rfl rfl rfl rfl)⟩
    have HC1 := keep (fun W => HBR.out 0 W)
    clear HOFF HCASE HNM HBR HROW HALL
    generalize bar ⟨31, s, n, k, at_⟩ 0 = b at *
    cases b with
    | true =>
      have HE : Keep ((a1, true) = G) := ⟨by have := HE0.out; rw [if_pos rfl, goR_nil] at this; exact this.symm⟩
      clear HE0
      go_enter Try.func40, Try.ntmps40
      go_wp2_with fail
      refine (HC1.out _).mono ?_
      rintro e w1 ⟨rfl, hb⟩
      have HTBw1 := keep (HTB.out.to hb)
      clear hb n0 n1 n2 n3 n4 o0 o1 i0 i1 r0 r1 rl rf rs0 rs1
      obtain ⟨n0, n1, n2, n3, n4, o0, o1, i0, i1, r0, r1, rl, rf, rs0, rs1⟩ := HTBw1.out.facts
      simp only at n0 n1 n2 n3 n4
      go_wp2_with fail
      refine bodyPost_ret (v := .agg #[.int .i64 (a1 : Int), .bool true]) ?_ rfl ⟨by rw [← HE.out], (HTBw1.out.below.setCell (p := ⟨w.heap.size + 1 + 1 + 1, 0, none⟩) (by simp only; omega) _).setCell (p := ⟨w.heap.size + 1 + 1 + 1, 1, none⟩) (by simp only; omega) _⟩
      simp [results, Try.results40, go_sem, rs0, rs1]
    | false =>
      have HE : Keep ((a, false) = G) := ⟨by have := HE0.out; rw [if_neg (by simp)] at this; exact this.symm⟩
      clear HE0
      go_enter Try.func40, Try.ntmps40
      go_wp2_with fail
      refine (HC1.out _).mono ?_
      rintro e w1 ⟨rfl, hb⟩
      have HTBw1 := keep (HTB.out.to hb)
      clear hb n0 n1 n2 n3 n4 o0 o1 i0 i1 r0 r1 rl rf rs0 rs1
      obtain ⟨n0, n1, n2, n3, n4, o0, o1, i0, i1, r0, r1, rl, rf, rs0, rs1⟩ := HTBw1.out.facts
      simp only at n0 n1 n2 n3 n4
      go_wp2_with fail
      refine bodyPost_ret (v := .agg #[.int .i64 (a : Int), .bool false]) ?_ rfl ⟨by rw [← HE.out], (HTBw1.out.below.setCell (p := ⟨w.heap.size + 1 + 1 + 1, 0, none⟩) (by simp only; omega) _).setCell (p := ⟨w.heap.size + 1 + 1 + 1, 1, none⟩) (by simp only; omega) _⟩
      simp [results, Try.results40, go_sem, rs0, rs1]
  have q13 : (op == 31) = false := by simpa using h13
  have HE : Keep ((a, false) = G) := ⟨(HOFF.out (by unfold clsOf; (repeat' split) <;> first | decide | (exfalso; omega))).symm⟩
  clear HOFF HCASE HNM HBR HROW HALL hk2 h0 h1 h2 h3 h4 h5 h6 h7 h8 h9 h10 h11 h12 h13
  go_enter Try.func40, Try.ntmps40
  go_wp2_with fail
  refine bodyPost_ret (v := .agg #[.int .i64 (a : Int), .bool false]) ?_ rfl ⟨by rw [← HE.out], ((((Below.refl _ w).alloc (Nat.le_refl _) _).alloc (by simp) _).alloc (by simp; omega) _).alloc (by simp; omega) _⟩
  simp [results, Try.results40, go_sem]
end Go.Proofs.Ytgodjgbdjgiapaa
