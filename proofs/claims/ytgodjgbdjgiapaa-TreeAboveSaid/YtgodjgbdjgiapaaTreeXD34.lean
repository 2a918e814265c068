/-
  The document's clause at kind 34. (Laid by tools/gen/treeX.py.)
-/
import Derived.Test.YtgodjgbdjgiapaaTreeXA
namespace Go.Proofs.Ytgodjgbdjgiapaa
open Go.RowKit Go.Joins

set_option maxRecDepth 100000 in
set_option maxHeartbeats 16000000 in
theorem clause34_any (o : Option Addr) (cap : Nat) (l : List Nd) (x : Nd) (a a1 : Nat) (ha1 : a1 = a + 1) (w : World) (hk2 : x.K ≤ 9223372036854775807) (hs : x.S.size ≤ 9223372036854775807) (h0 : x.O = 34) (hx : l[a]? = some x) (hQ : Ask (.slice o l.length cap) l x a1 w) :
    Calls Try.prog 41 #[.slice o l.length cap, .agg #[.int .i64 x.O, .string x.S, .int .i64 x.N, .int .i64 x.K, .int .i64 x.A], .agg #[.int .i64 (a : Int), .bool false], .agg #[.int .i64 (a1 : Int), .bool true]] w fun e w' => e = .returned (.agg #[.int .i64 ((goP l [67] a).1 : Int), .bool (goP l [67] a).2]) ∧ Below w.heap.size w w' := by
  have HTB := keep (TB.start w x a a1)
  have HOFF := keep (fun h => goP_off (l := l) (c := 67) hx h)
  have HCASE := keep (fun (r : List UInt8) (b : Bool) h => goP_case (l := l) (c := 67) (r := r) (b := b) hx h)
  have HNM := keep hQ.nm
  have HBR := keep hQ.br
  have HROW := keep hQ.row
  have HALL := keep hQ.all
  rw [← ha1] at HCASE
  clear ha1
  obtain ⟨op, s, n, k, at_⟩ := x
  unfold w4 at HTB
  simp only at *
  subst h0
  obtain ⟨n0, n1, n2, n3, n4, o0, o1, i0, i1, r0, r1, rl, rf, rs0, rs1⟩ := HTB.out.facts
  simp only at n0 n1 n2 n3 n4
  obtain ⟨G, hG⟩ : ∃ G, G = goP l [67] a := ⟨_, rfl⟩
  rw [← hG] at HOFF HCASE ⊢
  clear hx hG hQ
  have HF : Keep (fitsP ⟨34, s, n, k, at_⟩ = (nmP s && decide (0 ≤ n) && decide (n ≤ 1) && (k == (((if n = 1 then [69] else []) ++ [82, 66] : List UInt8).length : Int)))) := ⟨by
    show (nmP s && decide (0 ≤ n) && decide (n ≤ 1) && (Shp.mk ((if n = 1 then [69] else []) ++ [82, 66]) 0 []).fits k) = _
    rw [shp_eq]⟩
  have HNO : Keep (fitsP ⟨34, s, n, k, at_⟩ = false → (a, false) = G) := ⟨fun h => by
    have := HCASE.out [] false (by unfold rowC; rw [if_neg (fun e => by rw [h] at e; cases e.2)]; rfl)
    rw [if_neg (by simp)] at this; exact this.symm⟩
  have HYES : Keep (fitsP ⟨34, s, n, k, at_⟩ = true → goR l (rowP ⟨34, s, n, k, at_⟩) (a1, true) = G) := ⟨fun h => by
    have := HCASE.out (rowP ⟨34, s, n, k, at_⟩) true (by unfold rowC; rw [if_pos ⟨rfl, h⟩]; rfl)
    rw [if_pos rfl] at this; exact this.symm⟩
  have HRN := keep (fun W => rname_s s hs W)
  clear HOFF HCASE HNM HBR HALL hk2 hs
  by_cases hneg : n < 0
  · have HE := keep (HNO.out (by rw [HF.out, decide_eq_false (show ¬ 0 ≤ n by omega)]; simp))
    have e1 : (n == 1) = false := by simp; omega
    have e2 : decide (n < 0) = true := decide_eq_true hneg
    clear HF HNO HYES HROW HRN
    clear hneg
    go_enter Try.func41, Try.ntmps41
    go_wp2_with fail
    go_quiet (fail)
    have HTBq := keep (HTB.out.to (below_draws _ _ nq))
    clear n0 n1 n2 n3 n4 o0 o1 i0 i1 r0 r1 rl rf rs0 rs1
    obtain ⟨n0, n1, n2, n3, n4, o0, o1, i0, i1, r0, r1, rl, rf, rs0, rs1⟩ := HTBq.out.facts
    simp only at n0 n1 n2 n3 n4
    generalize World.drewN _ nq = wq at *
    go_wp2_with fail
    refine bodyPost_ret (v := .agg #[.int .i64 (a : Int), .bool false]) ?_ rfl ⟨by rw [← HE.out], (HTBq.out.below.setCell (p := ⟨w.heap.size + 1 + 1 + 1, 0, none⟩) (by simp only; omega) _).setCell (p := ⟨w.heap.size + 1 + 1 + 1, 1, none⟩) (by simp only; omega) _⟩
    simp [results, Try.results41, go_sem, rs0, rs1]
  · by_cases hbig : 1 < n
    · have HE := keep (HNO.out (by rw [HF.out, decide_eq_false (show ¬ n ≤ 1 by omega)]; simp))
      have e1 : (n == 1) = false := by simp; omega
      have e2 : decide (n < 0) = false := decide_eq_false hneg
      have e3 : decide (1 < n) = true := decide_eq_true hbig
      clear HF HNO HYES HROW HRN
      clear hneg hbig
      go_enter Try.func41, Try.ntmps41
      go_wp2_with fail
      go_quiet (fail)
      have HTBq := keep (HTB.out.to (below_draws _ _ nq))
      clear n0 n1 n2 n3 n4 o0 o1 i0 i1 r0 r1 rl rf rs0 rs1
      obtain ⟨n0, n1, n2, n3, n4, o0, o1, i0, i1, r0, r1, rl, rf, rs0, rs1⟩ := HTBq.out.facts
      simp only at n0 n1 n2 n3 n4
      generalize World.drewN _ nq = wq at *
      go_wp2_with fail
      refine bodyPost_ret (v := .agg #[.int .i64 (a : Int), .bool false]) ?_ rfl ⟨by rw [← HE.out], (HTBq.out.below.setCell (p := ⟨w.heap.size + 1 + 1 + 1, 0, none⟩) (by simp only; omega) _).setCell (p := ⟨w.heap.size + 1 + 1 + 1, 1, none⟩) (by simp only; omega) _⟩
      simp [results, Try.results41, go_sem, rs0, rs1]
    · rcases (show n = 1 ∨ n = 0 by omega) with rfl | rfl
      · clear hneg hbig
        have hcat : (⟨#[69]⟩ : ByteArray) ++ ⟨#[82, 66]⟩ = ⟨#[69, 82, 66]⟩ := rfl
        have hsz1 : (9223372036854775807 < (⟨#[69]⟩ : ByteArray).size + (⟨#[82, 66]⟩ : ByteArray).size) = False := by simp [ByteArray.size]
        by_cases hk : k = 3
        · subst hk
          cases hs1 : nmP s with
          | true =>
            have HE := keep (HYES.out (by rw [HF.out]; simp [hs1]))
            rw [show rowP ⟨34, s, 1, 3, at_⟩ = [69, 82, 66] from rfl] at HE
            have HRW := keep (fun W hW => HROW.out [69, 82, 66] (by decide) (by decide) W hW)
            rw [show str [69, 82, 66] = ⟨#[69, 82, 66]⟩ from rfl, HE.out] at HRW
            rw [hs1] at HRN
            clear HF HNO HYES HROW
            go_enter Try.func41, Try.ntmps41
            go_wp2_with fail
            refine AnyGo.region (fun W' => W'.cell? ⟨w.heap.size, 0, none⟩ = some (.int .i64 34) ∧ W'.cell? ⟨w.heap.size, 1, none⟩ = some (.string s) ∧ W'.cell? ⟨w.heap.size, 2, none⟩ = some (.int .i64 1) ∧ W'.cell? ⟨w.heap.size, 3, none⟩ = some (.int .i64 3)) (by kernel_rfl) (by rfl) ⟨HTB.out.facts.1, HTB.out.facts.2.1, HTB.out.facts.2.2.1, HTB.out.facts.2.2.2.1⟩ ?_
            intro wd ewd
            subst ewd
            (refine AnyGo.take 0 (some 33) ?_ (a' := ?_) rfl (by kernel_rfl) (fun _ _ d _ _ h => by cases d <;> exact h) (by kernel_rfl) (by rfl) (by kernel_rfl) ?_ ?_ ?_; rotate_left 2; (focus (intro W hW; (try dsimp only at hW); go_simp; (try with_reducible rfl))); (focus (simp only [Act.put, List.setIfInBounds_toArray]; rfl)))
            (refine AnyGo.take 1 (some 34) ?_ (a' := ?_) rfl (by kernel_rfl) (fun _ _ d _ _ h => by cases d <;> exact h) (by kernel_rfl) (by rfl) (by kernel_rfl) ?_ ?_ ?_; rotate_left 2; (focus (intro W hW; (try dsimp only at hW); go_simp; (try with_reducible rfl))); (focus (simp only [Act.put, List.setIfInBounds_toArray]; rfl)))
            (refine AnyGo.take 2 (some 35) ?_ (a' := ?_) rfl (by kernel_rfl) (fun _ _ d _ _ h => by cases d <;> exact h) (by kernel_rfl) (by rfl) (by kernel_rfl) ?_ ?_ ?_; rotate_left 2; (focus (intro W hW; (try dsimp only at hW); go_simp; (try with_reducible rfl))); (focus (simp only [Act.put, List.setIfInBounds_toArray]; rfl)))
            (refine AnyGo.take 3 (some 36) ?_ (a' := ?_) rfl (by kernel_rfl) (fun _ _ d _ _ h => by cases d <;> exact h) (by kernel_rfl) (by rfl) (by kernel_rfl) ?_ ?_ ?_; rotate_left 2; (focus (intro W hW; (try dsimp only at hW); go_simp; (try with_reducible rfl))); (focus (simp only [Act.put, List.setIfInBounds_toArray]; rfl)))
            (refine AnyGo.take 4 (some 37) ?_ (a' := ?_) rfl (by kernel_rfl) (fun _ _ d _ _ h => by cases d <;> exact h) (by kernel_rfl) (by rfl) (by kernel_rfl) ?_ ?_ ?_; rotate_left 2; (focus (intro W hW; (try dsimp only at hW); go_simp; (try with_reducible rfl))); (focus (simp only [Act.put, List.setIfInBounds_toArray]; rfl)))
            (refine AnyGo.take 5 (some 38) ?_ (a' := ?_) rfl (by kernel_rfl) (fun _ _ d _ _ h => by cases d <;> exact h) (by kernel_rfl) (by rfl) (by kernel_rfl) ?_ ?_ ?_; rotate_left 2; (focus (intro W hW; (try dsimp only at hW); go_simp; (try with_reducible rfl))); (focus (simp only [Act.put, List.setIfInBounds_toArray]; rfl)))
            (refine AnyGo.take 6 (some 39) ?_ (a' := ?_) rfl (by kernel_rfl) (fun _ _ d _ _ h => by cases d <;> exact h) (by kernel_rfl) (by rfl) (by kernel_rfl) ?_ ?_ ?_; rotate_left 2; (focus (intro W hW; (try dsimp only at hW); go_simp; (try with_reducible rfl))); (focus (simp only [Act.put, List.setIfInBounds_toArray]; rfl)))
            (refine AnyGo.take 7 (some 40) ?_ (a' := ?_) rfl (by kernel_rfl) (fun _ _ d _ _ h => by cases d <;> exact h) (by kernel_rfl) (by rfl) (by kernel_rfl) ?_ ?_ ?_; rotate_left 2; (focus (intro W hW; (try dsimp only at hW); go_simp; (try with_reducible rfl))); (focus (simp only [Act.put, List.setIfInBounds_toArray]; rfl)))
            (refine AnyGo.take 8 (some 41) ?_ (a' := ?_) rfl (by kernel_rfl) (fun _ _ d _ _ h => by cases d <;> exact h) (by kernel_rfl) (by rfl) (by kernel_rfl) ?_ ?_ ?_; rotate_left 2; (focus (intro W hW; (try dsimp only at hW); go_simp; (try with_reducible rfl))); (focus (simp only [Act.put, List.setIfInBounds_toArray]; rfl)))
            (refine AnyGo.take 9 (some 42) ?_ (a' := ?_) rfl (by kernel_rfl) (fun _ _ d _ _ h => by cases d <;> exact h) (by kernel_rfl) (by rfl) (by kernel_rfl) ?_ ?_ ?_; rotate_left 2; (focus (intro W hW; (try dsimp only at hW); go_simp; (try with_reducible rfl))); (focus (simp only [Act.put, List.setIfInBounds_toArray]; rfl)))
            (refine AnyGo.take 10 (some 43) ?_ (a' := ?_) rfl (by kernel_rfl) (fun _ _ d _ _ h => by cases d <;> exact h) (by kernel_rfl) (by rfl) (by kernel_rfl) ?_ ?_ ?_; rotate_left 2; (focus (intro W hW; (try dsimp only at hW); go_simp; (try with_reducible rfl))); (focus (simp only [Act.put, List.setIfInBounds_toArray]; rfl)))
            (refine AnyGo.take 11 (some 44) ?_ (a' := ?_) rfl (by kernel_rfl) (fun _ _ d _ _ h => by cases d <;> exact h) (by kernel_rfl) (by rfl) (by kernel_rfl) ?_ ?_ ?_; rotate_left 2; (focus (intro W hW; (try dsimp only at hW); go_simp; (try with_reducible rfl))); (focus (simp only [Act.put, List.setIfInBounds_toArray]; rfl)))
            (refine AnyGo.take 12 (some 45) ?_ (a' := ?_) rfl (by kernel_rfl) (fun _ _ d _ _ h => by cases d <;> exact h) (by kernel_rfl) (by rfl) (by kernel_rfl) ?_ ?_ ?_; rotate_left 2; (focus (intro W hW; (try dsimp only at hW); go_simp; (try with_reducible rfl))); (focus (simp only [Act.put, List.setIfInBounds_toArray]; rfl)))
            (refine AnyGo.take 13 (some 46) ?_ (a' := ?_) rfl (by kernel_rfl) (fun _ _ d _ _ h => by cases d <;> exact h) (by kernel_rfl) (by rfl) (by kernel_rfl) ?_ ?_ ?_; rotate_left 2; (focus (intro W hW; (try dsimp only at hW); go_simp; (try with_reducible rfl))); (focus (simp only [Act.put, List.setIfInBounds_toArray]; rfl)))
            (refine AnyGo.take 14 (some 47) ?_ (a' := ?_) rfl (by kernel_rfl) (fun _ _ d _ _ h => by cases d <;> exact h) (by kernel_rfl) (by rfl) (by kernel_rfl) ?_ ?_ ?_; rotate_left 2; (focus (intro W hW; (try dsimp only at hW); go_simp; (try with_reducible rfl))); (focus (simp only [Act.put, List.setIfInBounds_toArray]; rfl)))
            (refine AnyGo.take 15 (some 48) ?_ (a' := ?_) rfl (by kernel_rfl) (fun _ _ d _ _ h => by cases d <;> exact h) (by kernel_rfl) (by rfl) (by kernel_rfl) ?_ ?_ ?_; rotate_left 2; (focus (intro W hW; (try dsimp only at hW); go_simp; (try with_reducible rfl))); (focus (simp only [Act.put, List.setIfInBounds_toArray]; rfl)))
            (refine AnyGo.take 16 (some 49) ?_ (a' := ?_) rfl (by kernel_rfl) (fun _ _ d _ _ h => by cases d <;> exact h) (by kernel_rfl) (by rfl) (by kernel_rfl) ?_ ?_ ?_; rotate_left 2; (focus (intro W hW; (try dsimp only at hW); go_simp; (try with_reducible rfl))); (focus (simp only [Act.put, List.setIfInBounds_toArray]; rfl)))
            (refine AnyGo.take 17 (some 50) ?_ (a' := ?_) rfl (by kernel_rfl) (fun _ _ d _ _ h => by cases d <;> exact h) (by kernel_rfl) (by rfl) (by kernel_rfl) ?_ ?_ ?_; rotate_left 2; (focus (intro W hW; (try dsimp only at hW); go_simp; (try with_reducible rfl))); (focus (simp only [Act.put, List.setIfInBounds_toArray]; rfl)))
            (refine AnyGo.take 18 (some 51) ?_ (a' := ?_) rfl (by kernel_rfl) (fun _ _ d _ _ h => by cases d <;> exact h) (by kernel_rfl) (by rfl) (by kernel_rfl) ?_ ?_ ?_; rotate_left 2; (focus (intro W hW; (try dsimp only at hW); go_simp; (try with_reducible rfl))); (focus (simp only [Act.put, List.setIfInBounds_toArray]; rfl)))
            (refine AnyGo.take 19 (some 52) ?_ (a' := ?_) rfl (by kernel_rfl) (fun _ _ d _ _ h => by cases d <;> exact h) (by kernel_rfl) (by rfl) (by kernel_rfl) ?_ ?_ ?_; rotate_left 2; (focus (intro W hW; (try dsimp only at hW); go_simp; (try with_reducible rfl))); (focus (simp only [Act.put, List.setIfInBounds_toArray]; rfl)))
            (refine AnyGo.take 20 (some 53) ?_ (a' := ?_) rfl (by kernel_rfl) (fun _ _ d _ _ h => by cases d <;> exact h) (by kernel_rfl) (by rfl) (by kernel_rfl) ?_ ?_ ?_; rotate_left 2; (focus (intro W hW; (try dsimp only at hW); go_simp; (try with_reducible rfl))); (focus (simp only [Act.put, List.setIfInBounds_toArray]; rfl)))
            refine AnyGo.one (i := 21) (by kernel_rfl) rfl (by kernel_rfl) (fun K' hK' => ?_)
            go_simp
            refine (HRN.out _).mono ?_
            rintro e w1 ⟨rfl, hb⟩
            have HTBw1 := keep (TB.to (HTB.out.drew) hb)
            clear hb n0 n1 n2 n3 n4 o0 o1 i0 i1 r0 r1 rl rf rs0 rs1
            obtain ⟨n0, n1, n2, n3, n4, o0, o1, i0, i1, r0, r1, rl, rf, rs0, rs1⟩ := HTBw1.out.facts
            simp only at n0 n1 n2 n3 n4
            refine hK'.out _ _ ⟨n0, n1, n2, n3⟩ ?_
            clear hK' K'
            (try simp only [Act.put, List.setIfInBounds_toArray])
            (refine AnyGo.take 22 (some 55) ?_ (a' := ?_) rfl (by kernel_rfl) (fun _ _ d _ _ h => by cases d <;> exact h) (by kernel_rfl) (by rfl) (by kernel_rfl) ?_ ?_ ?_; rotate_left 2; (focus (intro W hW; (try dsimp only at hW); go_simp; (try with_reducible rfl))); (focus (simp only [Act.put, List.setIfInBounds_toArray]; rfl)))
            (refine AnyGo.take 23 (some 56) ?_ (a' := ?_) rfl (by kernel_rfl) (fun _ _ d _ _ h => by cases d <;> exact h) (by kernel_rfl) (by rfl) (by kernel_rfl) ?_ ?_ ?_; rotate_left 2; (focus (intro W hW; (try dsimp only at hW); go_simp; (try with_reducible rfl))); (focus (simp only [Act.put, List.setIfInBounds_toArray]; rfl)))
            (refine AnyGo.take 24 (some 57) ?_ (a' := ?_) rfl (by kernel_rfl) (fun _ _ d _ _ h => by cases d <;> exact h) (by kernel_rfl) (by rfl) (by kernel_rfl) ?_ ?_ ?_; rotate_left 2; (focus (intro W hW; (try dsimp only at hW); go_simp; (try with_reducible rfl))); (focus (simp only [Act.put, List.setIfInBounds_toArray]; rfl)))
            (refine AnyGo.take 25 (some 58) ?_ (a' := ?_) rfl (by kernel_rfl) (fun _ _ d _ _ h => by cases d <;> exact h) (by kernel_rfl) (by rfl) (by kernel_rfl) ?_ ?_ ?_; rotate_left 2; (focus (intro W hW; (try dsimp only at hW); go_simp; (try with_reducible rfl))); (focus (simp only [Act.put, List.setIfInBounds_toArray]; rfl)))
            (refine AnyGo.take 26 (some 59) ?_ (a' := ?_) rfl (by kernel_rfl) (fun _ _ d _ _ h => by cases d <;> exact h) (by kernel_rfl) (by rfl) (by kernel_rfl) ?_ ?_ ?_; rotate_left 2; (focus (intro W hW; (try dsimp only at hW); go_simp; (try with_reducible rfl))); (focus (simp only [Act.put, List.setIfInBounds_toArray]; rfl)))
            (refine AnyGo.take 27 (some 60) ?_ (a' := ?_) rfl (by kernel_rfl) (fun _ _ d _ _ h => by cases d <;> exact h) (by kernel_rfl) (by rfl) (by kernel_rfl) ?_ ?_ ?_; rotate_left 2; (focus (intro W hW; (try dsimp only at hW); go_simp; (try with_reducible rfl))); (focus (simp only [Act.put, List.setIfInBounds_toArray]; rfl)))
            (refine AnyGo.take 28 (some 61) ?_ (a' := ?_) rfl (by kernel_rfl) (fun _ _ d _ _ h => by cases d <;> exact h) (by kernel_rfl) (by rfl) (by kernel_rfl) ?_ ?_ ?_; rotate_left 2; (focus (intro W hW; (try dsimp only at hW); go_simp; (try with_reducible rfl))); (focus (simp only [Act.put, List.setIfInBounds_toArray]; rfl)))
            (refine AnyGo.skip 29 (some 62) (a' := ?_) rfl (by kernel_rfl) (fun _ _ d _ _ h => by cases d <;> exact h) (by kernel_rfl) (by rfl) (by kernel_rfl) ?_ ?_; rotate_left 1; (focus (simp only [Act.put, List.setIfInBounds_toArray]; rfl)))
            (refine AnyGo.skip 30 (some 63) (a' := ?_) rfl (by kernel_rfl) (fun _ _ d _ _ h => by cases d <;> exact h) (by kernel_rfl) (by rfl) (by kernel_rfl) ?_ ?_; rotate_left 1; (focus (simp only [Act.put, List.setIfInBounds_toArray]; rfl)))
            (refine AnyGo.skip 31 (some 64) (a' := ?_) rfl (by kernel_rfl) (fun _ _ d _ _ h => by cases d <;> exact h) (by kernel_rfl) (by rfl) (by kernel_rfl) ?_ ?_; rotate_left 1; (focus (simp only [Act.put, List.setIfInBounds_toArray]; rfl)))
            (refine AnyGo.take 32 (some 65) ?_ (a' := ?_) rfl (by kernel_rfl) (fun _ _ d _ _ h => by cases d <;> exact h) (by kernel_rfl) (by rfl) (by kernel_rfl) ?_ ?_ ?_; rotate_left 2; (focus (intro W hW; (try dsimp only at hW); go_simp; (try with_reducible rfl))); (focus (simp only [Act.put, List.setIfInBounds_toArray]; rfl)))
            (refine AnyGo.take 33 (some 66) ?_ (a' := ?_) rfl (by kernel_rfl) (fun _ _ d _ _ h => by cases d <;> exact h) (by kernel_rfl) (by rfl) (by kernel_rfl) ?_ ?_ ?_; rotate_left 2; (focus (intro W hW; (try dsimp only at hW); go_simp; (try with_reducible rfl))); (focus (simp only [Act.put, List.setIfInBounds_toArray]; rfl)))
            refine AnyGo.fin (by kernel_rfl) ?_
            (try simp only [List.set_cons_succ, List.set_cons_zero])
            go_wp2_with fail
            refine (HRW.out _ HTBw1.out.below).mono ?_
            rintro e w2 ⟨rfl, hb⟩
            have HTBw2 := keep (HTBw1.out.to hb)
            clear hb n0 n1 n2 n3 n4 o0 o1 i0 i1 r0 r1 rl rf rs0 rs1
            obtain ⟨n0, n1, n2, n3, n4, o0, o1, i0, i1, r0, r1, rl, rf, rs0, rs1⟩ := HTBw2.out.facts
            simp only at n0 n1 n2 n3 n4
            go_wp2_with fail
            refine bodyPost_ret (v := .agg #[.int .i64 (G.1 : Int), .bool G.2]) ?_ rfl ⟨rfl, (HTBw2.out.below.setCell (p := ⟨w.heap.size + 1 + 1 + 1, 0, none⟩) (by simp only; omega) _).setCell (p := ⟨w.heap.size + 1 + 1 + 1, 1, none⟩) (by simp only; omega) _⟩
            simp [results, Try.results41, go_sem, rs0, rs1]
          | false =>
            have HE := keep (HNO.out (by rw [HF.out, hs1]; simp))
            rw [hs1] at HRN
            clear HF HNO HYES HROW
            go_enter Try.func41, Try.ntmps41
            go_wp2_with fail
            refine AnyGo.region (fun W' => W'.cell? ⟨w.heap.size, 0, none⟩ = some (.int .i64 34) ∧ W'.cell? ⟨w.heap.size, 1, none⟩ = some (.string s) ∧ W'.cell? ⟨w.heap.size, 2, none⟩ = some (.int .i64 1) ∧ W'.cell? ⟨w.heap.size, 3, none⟩ = some (.int .i64 3)) (by kernel_rfl) (by rfl) ⟨HTB.out.facts.1, HTB.out.facts.2.1, HTB.out.facts.2.2.1, HTB.out.facts.2.2.2.1⟩ ?_
            intro wd ewd
            subst ewd
            (refine AnyGo.take 0 (some 33) ?_ (a' := ?_) rfl (by kernel_rfl) (fun _ _ d _ _ h => by cases d <;> exact h) (by kernel_rfl) (by rfl) (by kernel_rfl) ?_ ?_ ?_; rotate_left 2; (focus (intro W hW; (try dsimp only at hW); go_simp; (try with_reducible rfl))); (focus (simp only [Act.put, List.setIfInBounds_toArray]; rfl)))
            (refine AnyGo.take 1 (some 34) ?_ (a' := ?_) rfl (by kernel_rfl) (fun _ _ d _ _ h => by cases d <;> exact h) (by kernel_rfl) (by rfl) (by kernel_rfl) ?_ ?_ ?_; rotate_left 2; (focus (intro W hW; (try dsimp only at hW); go_simp; (try with_reducible rfl))); (focus (simp only [Act.put, List.setIfInBounds_toArray]; rfl)))
            (refine AnyGo.take 2 (some 35) ?_ (a' := ?_) rfl (by kernel_rfl) (fun _ _ d _ _ h => by cases d <;> exact h) (by kernel_rfl) (by rfl) (by kernel_rfl) ?_ ?_ ?_; rotate_left 2; (focus (intro W hW; (try dsimp only at hW); go_simp; (try with_reducible rfl))); (focus (simp only [Act.put, List.setIfInBounds_toArray]; rfl)))
            (refine AnyGo.take 3 (some 36) ?_ (a' := ?_) rfl (by kernel_rfl) (fun _ _ d _ _ h => by cases d <;> exact h) (by kernel_rfl) (by rfl) (by kernel_rfl) ?_ ?_ ?_; rotate_left 2; (focus (intro W hW; (try dsimp only at hW); go_simp; (try with_reducible rfl))); (focus (simp only [Act.put, List.setIfInBounds_toArray]; rfl)))
            (refine AnyGo.take 4 (some 37) ?_ (a' := ?_) rfl (by kernel_rfl) (fun _ _ d _ _ h => by cases d <;> exact h) (by kernel_rfl) (by rfl) (by kernel_rfl) ?_ ?_ ?_; rotate_left 2; (focus (intro W hW; (try dsimp only at hW); go_simp; (try with_reducible rfl))); (focus (simp only [Act.put, List.setIfInBounds_toArray]; rfl)))
            (refine AnyGo.take 5 (some 38) ?_ (a' := ?_) rfl (by kernel_rfl) (fun _ _ d _ _ h => by cases d <;> exact h) (by kernel_rfl) (by rfl) (by kernel_rfl) ?_ ?_ ?_; rotate_left 2; (focus (intro W hW; (try dsimp only at hW); go_simp; (try with_reducible rfl))); (focus (simp only [Act.put, List.setIfInBounds_toArray]; rfl)))
            (refine AnyGo.take 6 (some 39) ?_ (a' := ?_) rfl (by kernel_rfl) (fun _ _ d _ _ h => by cases d <;> exact h) (by kernel_rfl) (by rfl) (by kernel_rfl) ?_ ?_ ?_; rotate_left 2; (focus (intro W hW; (try dsimp only at hW); go_simp; (try with_reducible rfl))); (focus (simp only [Act.put, List.setIfInBounds_toArray]; rfl)))
            (refine AnyGo.take 7 (some 40) ?_ (a' := ?_) rfl (by kernel_rfl) (fun _ _ d _ _ h => by cases d <;> exact h) (by kernel_rfl) (by rfl) (by kernel_rfl) ?_ ?_ ?_; rotate_left 2; (focus (intro W hW; (try dsimp only at hW); go_simp; (try with_reducible rfl))); (focus (simp only [Act.put, List.setIfInBounds_toArray]; rfl)))
            (refine AnyGo.take 8 (some 41) ?_ (a' := ?_) rfl (by kernel_rfl) (fun _ _ d _ _ h => by cases d <;> exact h) (by kernel_rfl) (by rfl) (by kernel_rfl) ?_ ?_ ?_; rotate_left 2; (focus (intro W hW; (try dsimp only at hW); go_simp; (try with_reducible rfl))); (focus (simp only [Act.put, List.setIfInBounds_toArray]; rfl)))
            (refine AnyGo.take 9 (some 42) ?_ (a' := ?_) rfl (by kernel_rfl) (fun _ _ d _ _ h => by cases d <;> exact h) (by kernel_rfl) (by rfl) (by kernel_rfl) ?_ ?_ ?_; rotate_left 2; (focus (intro W hW; (try dsimp only at hW); go_simp; (try with_reducible rfl))); (focus (simp only [Act.put, List.setIfInBounds_toArray]; rfl)))
            (refine AnyGo.take 10 (some 43) ?_ (a' := ?_) rfl (by kernel_rfl) (fun _ _ d _ _ h => by cases d <;> exact h) (by kernel_rfl) (by rfl) (by kernel_rfl) ?_ ?_ ?_; rotate_left 2; (focus (intro W hW; (try dsimp only at hW); go_simp; (try with_reducible rfl))); (focus (simp only [Act.put, List.setIfInBounds_toArray]; rfl)))
            (refine AnyGo.take 11 (some 44) ?_ (a' := ?_) rfl (by kernel_rfl) (fun _ _ d _ _ h => by cases d <;> exact h) (by kernel_rfl) (by rfl) (by kernel_rfl) ?_ ?_ ?_; rotate_left 2; (focus (intro W hW; (try dsimp only at hW); go_simp; (try with_reducible rfl))); (focus (simp only [Act.put, List.setIfInBounds_toArray]; rfl)))
            (refine AnyGo.take 12 (some 45) ?_ (a' := ?_) rfl (by kernel_rfl) (fun _ _ d _ _ h => by cases d <;> exact h) (by kernel_rfl) (by rfl) (by kernel_rfl) ?_ ?_ ?_; rotate_left 2; (focus (intro W hW; (try dsimp only at hW); go_simp; (try with_reducible rfl))); (focus (simp only [Act.put, List.setIfInBounds_toArray]; rfl)))
            (refine AnyGo.take 13 (some 46) ?_ (a' := ?_) rfl (by kernel_rfl) (fun _ _ d _ _ h => by cases d <;> exact h) (by kernel_rfl) (by rfl) (by kernel_rfl) ?_ ?_ ?_; rotate_left 2; (focus (intro W hW; (try dsimp only at hW); go_simp; (try with_reducible rfl))); (focus (simp only [Act.put, List.setIfInBounds_toArray]; rfl)))
            (refine AnyGo.take 14 (some 47) ?_ (a' := ?_) rfl (by kernel_rfl) (fun _ _ d _ _ h => by cases d <;> exact h) (by kernel_rfl) (by rfl) (by kernel_rfl) ?_ ?_ ?_; rotate_left 2; (focus (intro W hW; (try dsimp only at hW); go_simp; (try with_reducible rfl))); (focus (simp only [Act.put, List.setIfInBounds_toArray]; rfl)))
            (refine AnyGo.take 15 (some 48) ?_ (a' := ?_) rfl (by kernel_rfl) (fun _ _ d _ _ h => by cases d <;> exact h) (by kernel_rfl) (by rfl) (by kernel_rfl) ?_ ?_ ?_; rotate_left 2; (focus (intro W hW; (try dsimp only at hW); go_simp; (try with_reducible rfl))); (focus (simp only [Act.put, List.setIfInBounds_toArray]; rfl)))
            (refine AnyGo.take 16 (some 49) ?_ (a' := ?_) rfl (by kernel_rfl) (fun _ _ d _ _ h => by cases d <;> exact h) (by kernel_rfl) (by rfl) (by kernel_rfl) ?_ ?_ ?_; rotate_left 2; (focus (intro W hW; (try dsimp only at hW); go_simp; (try with_reducible rfl))); (focus (simp only [Act.put, List.setIfInBounds_toArray]; rfl)))
            (refine AnyGo.take 17 (some 50) ?_ (a' := ?_) rfl (by kernel_rfl) (fun _ _ d _ _ h => by cases d <;> exact h) (by kernel_rfl) (by rfl) (by kernel_rfl) ?_ ?_ ?_; rotate_left 2; (focus (intro W hW; (try dsimp only at hW); go_simp; (try with_reducible rfl))); (focus (simp only [Act.put, List.setIfInBounds_toArray]; rfl)))
            (refine AnyGo.take 18 (some 51) ?_ (a' := ?_) rfl (by kernel_rfl) (fun _ _ d _ _ h => by cases d <;> exact h) (by kernel_rfl) (by rfl) (by kernel_rfl) ?_ ?_ ?_; rotate_left 2; (focus (intro W hW; (try dsimp only at hW); go_simp; (try with_reducible rfl))); (focus (simp only [Act.put, List.setIfInBounds_toArray]; rfl)))
            (refine AnyGo.take 19 (some 52) ?_ (a' := ?_) rfl (by kernel_rfl) (fun _ _ d _ _ h => by cases d <;> exact h) (by kernel_rfl) (by rfl) (by kernel_rfl) ?_ ?_ ?_; rotate_left 2; (focus (intro W hW; (try dsimp only at hW); go_simp; (try with_reducible rfl))); (focus (simp only [Act.put, List.setIfInBounds_toArray]; rfl)))
            (refine AnyGo.take 20 (some 53) ?_ (a' := ?_) rfl (by kernel_rfl) (fun _ _ d _ _ h => by cases d <;> exact h) (by kernel_rfl) (by rfl) (by kernel_rfl) ?_ ?_ ?_; rotate_left 2; (focus (intro W hW; (try dsimp only at hW); go_simp; (try with_reducible rfl))); (focus (simp only [Act.put, List.setIfInBounds_toArray]; rfl)))
            refine AnyGo.one (i := 21) (by kernel_rfl) rfl (by kernel_rfl) (fun K' hK' => ?_)
            go_simp
            refine (HRN.out _).mono ?_
            rintro e w1 ⟨rfl, hb⟩
            have HTBw1 := keep (TB.to (HTB.out.drew) hb)
            clear hb n0 n1 n2 n3 n4 o0 o1 i0 i1 r0 r1 rl rf rs0 rs1
            obtain ⟨n0, n1, n2, n3, n4, o0, o1, i0, i1, r0, r1, rl, rf, rs0, rs1⟩ := HTBw1.out.facts
            simp only at n0 n1 n2 n3 n4
            refine hK'.out _ _ ⟨n0, n1, n2, n3⟩ ?_
            clear hK' K'
            (try simp only [Act.put, List.setIfInBounds_toArray])
            (refine AnyGo.take 22 (some 55) ?_ (a' := ?_) rfl (by kernel_rfl) (fun _ _ d _ _ h => by cases d <;> exact h) (by kernel_rfl) (by rfl) (by kernel_rfl) ?_ ?_ ?_; rotate_left 2; (focus (intro W hW; (try dsimp only at hW); go_simp; (try with_reducible rfl))); (focus (simp only [Act.put, List.setIfInBounds_toArray]; rfl)))
            (refine AnyGo.take 23 (some 56) ?_ (a' := ?_) rfl (by kernel_rfl) (fun _ _ d _ _ h => by cases d <;> exact h) (by kernel_rfl) (by rfl) (by kernel_rfl) ?_ ?_ ?_; rotate_left 2; (focus (intro W hW; (try dsimp only at hW); go_simp; (try with_reducible rfl))); (focus (simp only [Act.put, List.setIfInBounds_toArray]; rfl)))
            (refine AnyGo.take 24 (some 57) ?_ (a' := ?_) rfl (by kernel_rfl) (fun _ _ d _ _ h => by cases d <;> exact h) (by kernel_rfl) (by rfl) (by kernel_rfl) ?_ ?_ ?_; rotate_left 2; (focus (intro W hW; (try dsimp only at hW); go_simp; (try with_reducible rfl))); (focus (simp only [Act.put, List.setIfInBounds_toArray]; rfl)))
            (refine AnyGo.skip 25 (some 58) (a' := ?_) rfl (by kernel_rfl) (fun _ _ d _ _ h => by cases d <;> exact h) (by kernel_rfl) (by rfl) (by kernel_rfl) ?_ ?_; rotate_left 1; (focus (simp only [Act.put, List.setIfInBounds_toArray]; rfl)))
            (refine AnyGo.skip 26 (some 59) (a' := ?_) rfl (by kernel_rfl) (fun _ _ d _ _ h => by cases d <;> exact h) (by kernel_rfl) (by rfl) (by kernel_rfl) ?_ ?_; rotate_left 1; (focus (simp only [Act.put, List.setIfInBounds_toArray]; rfl)))
            (refine AnyGo.skip 27 (some 60) (a' := ?_) rfl (by kernel_rfl) (fun _ _ d _ _ h => by cases d <;> exact h) (by kernel_rfl) (by rfl) (by kernel_rfl) ?_ ?_; rotate_left 1; (focus (simp only [Act.put, List.setIfInBounds_toArray]; rfl)))
            (refine AnyGo.skip 28 (some 61) (a' := ?_) rfl (by kernel_rfl) (fun _ _ d _ _ h => by cases d <;> exact h) (by kernel_rfl) (by rfl) (by kernel_rfl) ?_ ?_; rotate_left 1; (focus (simp only [Act.put, List.setIfInBounds_toArray]; rfl)))
            (refine AnyGo.skip 29 (some 62) (a' := ?_) rfl (by kernel_rfl) (fun _ _ d _ _ h => by cases d <;> exact h) (by kernel_rfl) (by rfl) (by kernel_rfl) ?_ ?_; rotate_left 1; (focus (simp only [Act.put, List.setIfInBounds_toArray]; rfl)))
            (refine AnyGo.skip 30 (some 63) (a' := ?_) rfl (by kernel_rfl) (fun _ _ d _ _ h => by cases d <;> exact h) (by kernel_rfl) (by rfl) (by kernel_rfl) ?_ ?_; rotate_left 1; (focus (simp only [Act.put, List.setIfInBounds_toArray]; rfl)))
            (refine AnyGo.skip 31 (some 64) (a' := ?_) rfl (by kernel_rfl) (fun _ _ d _ _ h => by cases d <;> exact h) (by kernel_rfl) (by rfl) (by kernel_rfl) ?_ ?_; rotate_left 1; (focus (simp only [Act.put, List.setIfInBounds_toArray]; rfl)))
            (refine AnyGo.skip 32 (some 65) (a' := ?_) rfl (by kernel_rfl) (fun _ _ d _ _ h => by cases d <;> exact h) (by kernel_rfl) (by rfl) (by kernel_rfl) ?_ ?_; rotate_left 1; (focus (simp only [Act.put, List.setIfInBounds_toArray]; rfl)))
            (refine AnyGo.take 33 (some 66) ?_ (a' := ?_) rfl (by kernel_rfl) (fun _ _ d _ _ h => by cases d <;> exact h) (by kernel_rfl) (by rfl) (by kernel_rfl) ?_ ?_ ?_; rotate_left 2; (focus (intro W hW; (try dsimp only at hW); go_simp; (try with_reducible rfl))); (focus (simp only [Act.put, List.setIfInBounds_toArray]; rfl)))
            refine AnyGo.fin (by kernel_rfl) ?_
            (try simp only [List.set_cons_succ, List.set_cons_zero])
            go_wp2_with fail
            refine bodyPost_ret (v := .agg #[.int .i64 (a : Int), .bool false]) ?_ rfl ⟨by rw [← HE.out], (HTBw1.out.below.setCell (p := ⟨w.heap.size + 1 + 1 + 1, 0, none⟩) (by simp only; omega) _).setCell (p := ⟨w.heap.size + 1 + 1 + 1, 1, none⟩) (by simp only; omega) _⟩
            simp [results, Try.results41, go_sem, rs0, rs1]
        · have e4 : (k != 3) = true := by simpa using hk
          have e5 : (k == 3) = false := by simpa using hk
          have HE := keep (HNO.out (by rw [HF.out]; simp [hk]))
          clear HF HNO HYES HROW HRN hk
          go_enter Try.func41, Try.ntmps41
          go_wp2_with fail
          go_quiet (fail)
          have HTBq := keep (HTB.out.to (below_draws _ _ nq))
          clear n0 n1 n2 n3 n4 o0 o1 i0 i1 r0 r1 rl rf rs0 rs1
          obtain ⟨n0, n1, n2, n3, n4, o0, o1, i0, i1, r0, r1, rl, rf, rs0, rs1⟩ := HTBq.out.facts
          simp only at n0 n1 n2 n3 n4
          generalize World.drewN _ nq = wq at *
          go_wp2_with fail
          refine bodyPost_ret (v := .agg #[.int .i64 (a : Int), .bool false]) ?_ rfl ⟨by rw [← HE.out], (HTBq.out.below.setCell (p := ⟨w.heap.size + 1 + 1 + 1, 0, none⟩) (by simp only; omega) _).setCell (p := ⟨w.heap.size + 1 + 1 + 1, 1, none⟩) (by simp only; omega) _⟩
          simp [results, Try.results41, go_sem, rs0, rs1]
      · clear hneg hbig
        by_cases hk : k = 2
        · subst hk
          cases hs1 : nmP s with
          | true =>
            have HE := keep (HYES.out (by rw [HF.out]; simp [hs1]))
            rw [show rowP ⟨34, s, 0, 2, at_⟩ = [82, 66] from rfl] at HE
            have HRW := keep (fun W hW => HROW.out [82, 66] (by decide) (by decide) W hW)
            rw [show str [82, 66] = ⟨#[82, 66]⟩ from rfl, HE.out] at HRW
            rw [hs1] at HRN
            clear HF HNO HYES HROW
            go_enter Try.func41, Try.ntmps41
            go_wp2_with fail
            refine AnyGo.region (fun W' => W'.cell? ⟨w.heap.size, 0, none⟩ = some (.int .i64 34) ∧ W'.cell? ⟨w.heap.size, 1, none⟩ = some (.string s) ∧ W'.cell? ⟨w.heap.size, 2, none⟩ = some (.int .i64 0) ∧ W'.cell? ⟨w.heap.size, 3, none⟩ = some (.int .i64 2)) (by kernel_rfl) (by rfl) ⟨HTB.out.facts.1, HTB.out.facts.2.1, HTB.out.facts.2.2.1, HTB.out.facts.2.2.2.1⟩ ?_
            intro wd ewd
            subst ewd
            (refine AnyGo.take 0 (some 33) ?_ (a' := ?_) rfl (by kernel_rfl) (fun _ _ d _ _ h => by cases d <;> exact h) (by kernel_rfl) (by rfl) (by kernel_rfl) ?_ ?_ ?_; rotate_left 2; (focus (intro W hW; (try dsimp only at hW); go_simp; (try with_reducible rfl))); (focus (simp only [Act.put, List.setIfInBounds_toArray]; rfl)))
            (refine AnyGo.take 1 (some 34) ?_ (a' := ?_) rfl (by kernel_rfl) (fun _ _ d _ _ h => by cases d <;> exact h) (by kernel_rfl) (by rfl) (by kernel_rfl) ?_ ?_ ?_; rotate_left 2; (focus (intro W hW; (try dsimp only at hW); go_simp; (try with_reducible rfl))); (focus (simp only [Act.put, List.setIfInBounds_toArray]; rfl)))
            (refine AnyGo.take 2 (some 35) ?_ (a' := ?_) rfl (by kernel_rfl) (fun _ _ d _ _ h => by cases d <;> exact h) (by kernel_rfl) (by rfl) (by kernel_rfl) ?_ ?_ ?_; rotate_left 2; (focus (intro W hW; (try dsimp only at hW); go_simp; (try with_reducible rfl))); (focus (simp only [Act.put, List.setIfInBounds_toArray]; rfl)))
            (refine AnyGo.take 3 (some 36) ?_ (a' := ?_) rfl (by kernel_rfl) (fun _ _ d _ _ h => by cases d <;> exact h) (by kernel_rfl) (by rfl) (by kernel_rfl) ?_ ?_ ?_; rotate_left 2; (focus (intro W hW; (try dsimp only at hW); go_simp; (try with_reducible rfl))); (focus (simp only [Act.put, List.setIfInBounds_toArray]; rfl)))
            (refine AnyGo.take 4 (some 37) ?_ (a' := ?_) rfl (by kernel_rfl) (fun _ _ d _ _ h => by cases d <;> exact h) (by kernel_rfl) (by rfl) (by kernel_rfl) ?_ ?_ ?_; rotate_left 2; (focus (intro W hW; (try dsimp only at hW); go_simp; (try with_reducible rfl))); (focus (simp only [Act.put, List.setIfInBounds_toArray]; rfl)))
            (refine AnyGo.take 5 (some 38) ?_ (a' := ?_) rfl (by kernel_rfl) (fun _ _ d _ _ h => by cases d <;> exact h) (by kernel_rfl) (by rfl) (by kernel_rfl) ?_ ?_ ?_; rotate_left 2; (focus (intro W hW; (try dsimp only at hW); go_simp; (try with_reducible rfl))); (focus (simp only [Act.put, List.setIfInBounds_toArray]; rfl)))
            (refine AnyGo.take 6 (some 39) ?_ (a' := ?_) rfl (by kernel_rfl) (fun _ _ d _ _ h => by cases d <;> exact h) (by kernel_rfl) (by rfl) (by kernel_rfl) ?_ ?_ ?_; rotate_left 2; (focus (intro W hW; (try dsimp only at hW); go_simp; (try with_reducible rfl))); (focus (simp only [Act.put, List.setIfInBounds_toArray]; rfl)))
            (refine AnyGo.take 7 (some 40) ?_ (a' := ?_) rfl (by kernel_rfl) (fun _ _ d _ _ h => by cases d <;> exact h) (by kernel_rfl) (by rfl) (by kernel_rfl) ?_ ?_ ?_; rotate_left 2; (focus (intro W hW; (try dsimp only at hW); go_simp; (try with_reducible rfl))); (focus (simp only [Act.put, List.setIfInBounds_toArray]; rfl)))
            (refine AnyGo.take 8 (some 41) ?_ (a' := ?_) rfl (by kernel_rfl) (fun _ _ d _ _ h => by cases d <;> exact h) (by kernel_rfl) (by rfl) (by kernel_rfl) ?_ ?_ ?_; rotate_left 2; (focus (intro W hW; (try dsimp only at hW); go_simp; (try with_reducible rfl))); (focus (simp only [Act.put, List.setIfInBounds_toArray]; rfl)))
            (refine AnyGo.take 9 (some 42) ?_ (a' := ?_) rfl (by kernel_rfl) (fun _ _ d _ _ h => by cases d <;> exact h) (by kernel_rfl) (by rfl) (by kernel_rfl) ?_ ?_ ?_; rotate_left 2; (focus (intro W hW; (try dsimp only at hW); go_simp; (try with_reducible rfl))); (focus (simp only [Act.put, List.setIfInBounds_toArray]; rfl)))
            (refine AnyGo.take 10 (some 43) ?_ (a' := ?_) rfl (by kernel_rfl) (fun _ _ d _ _ h => by cases d <;> exact h) (by kernel_rfl) (by rfl) (by kernel_rfl) ?_ ?_ ?_; rotate_left 2; (focus (intro W hW; (try dsimp only at hW); go_simp; (try with_reducible rfl))); (focus (simp only [Act.put, List.setIfInBounds_toArray]; rfl)))
            (refine AnyGo.take 11 (some 44) ?_ (a' := ?_) rfl (by kernel_rfl) (fun _ _ d _ _ h => by cases d <;> exact h) (by kernel_rfl) (by rfl) (by kernel_rfl) ?_ ?_ ?_; rotate_left 2; (focus (intro W hW; (try dsimp only at hW); go_simp; (try with_reducible rfl))); (focus (simp only [Act.put, List.setIfInBounds_toArray]; rfl)))
            (refine AnyGo.take 12 (some 45) ?_ (a' := ?_) rfl (by kernel_rfl) (fun _ _ d _ _ h => by cases d <;> exact h) (by kernel_rfl) (by rfl) (by kernel_rfl) ?_ ?_ ?_; rotate_left 2; (focus (intro W hW; (try dsimp only at hW); go_simp; (try with_reducible rfl))); (focus (simp only [Act.put, List.setIfInBounds_toArray]; rfl)))
            (refine AnyGo.take 13 (some 46) ?_ (a' := ?_) rfl (by kernel_rfl) (fun _ _ d _ _ h => by cases d <;> exact h) (by kernel_rfl) (by rfl) (by kernel_rfl) ?_ ?_ ?_; rotate_left 2; (focus (intro W hW; (try dsimp only at hW); go_simp; (try with_reducible rfl))); (focus (simp only [Act.put, List.setIfInBounds_toArray]; rfl)))
            (refine AnyGo.take 14 (some 47) ?_ (a' := ?_) rfl (by kernel_rfl) (fun _ _ d _ _ h => by cases d <;> exact h) (by kernel_rfl) (by rfl) (by kernel_rfl) ?_ ?_ ?_; rotate_left 2; (focus (intro W hW; (try dsimp only at hW); go_simp; (try with_reducible rfl))); (focus (simp only [Act.put, List.setIfInBounds_toArray]; rfl)))
            (refine AnyGo.take 15 (some 48) ?_ (a' := ?_) rfl (by kernel_rfl) (fun _ _ d _ _ h => by cases d <;> exact h) (by kernel_rfl) (by rfl) (by kernel_rfl) ?_ ?_ ?_; rotate_left 2; (focus (intro W hW; (try dsimp only at hW); go_simp; (try with_reducible rfl))); (focus (simp only [Act.put, List.setIfInBounds_toArray]; rfl)))
            (refine AnyGo.take 16 (some 49) ?_ (a' := ?_) rfl (by kernel_rfl) (fun _ _ d _ _ h => by cases d <;> exact h) (by kernel_rfl) (by rfl) (by kernel_rfl) ?_ ?_ ?_; rotate_left 2; (focus (intro W hW; (try dsimp only at hW); go_simp; (try with_reducible rfl))); (focus (simp only [Act.put, List.setIfInBounds_toArray]; rfl)))
            (refine AnyGo.take 17 (some 50) ?_ (a' := ?_) rfl (by kernel_rfl) (fun _ _ d _ _ h => by cases d <;> exact h) (by kernel_rfl) (by rfl) (by kernel_rfl) ?_ ?_ ?_; rotate_left 2; (focus (intro W hW; (try dsimp only at hW); go_simp; (try with_reducible rfl))); (focus (simp only [Act.put, List.setIfInBounds_toArray]; rfl)))
            (refine AnyGo.take 18 (some 51) ?_ (a' := ?_) rfl (by kernel_rfl) (fun _ _ d _ _ h => by cases d <;> exact h) (by kernel_rfl) (by rfl) (by kernel_rfl) ?_ ?_ ?_; rotate_left 2; (focus (intro W hW; (try dsimp only at hW); go_simp; (try with_reducible rfl))); (focus (simp only [Act.put, List.setIfInBounds_toArray]; rfl)))
            (refine AnyGo.take 19 (some 52) ?_ (a' := ?_) rfl (by kernel_rfl) (fun _ _ d _ _ h => by cases d <;> exact h) (by kernel_rfl) (by rfl) (by kernel_rfl) ?_ ?_ ?_; rotate_left 2; (focus (intro W hW; (try dsimp only at hW); go_simp; (try with_reducible rfl))); (focus (simp only [Act.put, List.setIfInBounds_toArray]; rfl)))
            (refine AnyGo.take 20 (some 53) ?_ (a' := ?_) rfl (by kernel_rfl) (fun _ _ d _ _ h => by cases d <;> exact h) (by kernel_rfl) (by rfl) (by kernel_rfl) ?_ ?_ ?_; rotate_left 2; (focus (intro W hW; (try dsimp only at hW); go_simp; (try with_reducible rfl))); (focus (simp only [Act.put, List.setIfInBounds_toArray]; rfl)))
            refine AnyGo.one (i := 21) (by kernel_rfl) rfl (by kernel_rfl) (fun K' hK' => ?_)
            go_simp
            refine (HRN.out _).mono ?_
            rintro e w1 ⟨rfl, hb⟩
            have HTBw1 := keep (TB.to (HTB.out.drew) hb)
            clear hb n0 n1 n2 n3 n4 o0 o1 i0 i1 r0 r1 rl rf rs0 rs1
            obtain ⟨n0, n1, n2, n3, n4, o0, o1, i0, i1, r0, r1, rl, rf, rs0, rs1⟩ := HTBw1.out.facts
            simp only at n0 n1 n2 n3 n4
            refine hK'.out _ _ ⟨n0, n1, n2, n3⟩ ?_
            clear hK' K'
            (try simp only [Act.put, List.setIfInBounds_toArray])
            (refine AnyGo.take 22 (some 55) ?_ (a' := ?_) rfl (by kernel_rfl) (fun _ _ d _ _ h => by cases d <;> exact h) (by kernel_rfl) (by rfl) (by kernel_rfl) ?_ ?_ ?_; rotate_left 2; (focus (intro W hW; (try dsimp only at hW); go_simp; (try with_reducible rfl))); (focus (simp only [Act.put, List.setIfInBounds_toArray]; rfl)))
            (refine AnyGo.take 23 (some 56) ?_ (a' := ?_) rfl (by kernel_rfl) (fun _ _ d _ _ h => by cases d <;> exact h) (by kernel_rfl) (by rfl) (by kernel_rfl) ?_ ?_ ?_; rotate_left 2; (focus (intro W hW; (try dsimp only at hW); go_simp; (try with_reducible rfl))); (focus (simp only [Act.put, List.setIfInBounds_toArray]; rfl)))
            (refine AnyGo.take 24 (some 57) ?_ (a' := ?_) rfl (by kernel_rfl) (fun _ _ d _ _ h => by cases d <;> exact h) (by kernel_rfl) (by rfl) (by kernel_rfl) ?_ ?_ ?_; rotate_left 2; (focus (intro W hW; (try dsimp only at hW); go_simp; (try with_reducible rfl))); (focus (simp only [Act.put, List.setIfInBounds_toArray]; rfl)))
            (refine AnyGo.take 25 (some 58) ?_ (a' := ?_) rfl (by kernel_rfl) (fun _ _ d _ _ h => by cases d <;> exact h) (by kernel_rfl) (by rfl) (by kernel_rfl) ?_ ?_ ?_; rotate_left 2; (focus (intro W hW; (try dsimp only at hW); go_simp; (try with_reducible rfl))); (focus (simp only [Act.put, List.setIfInBounds_toArray]; rfl)))
            (refine AnyGo.take 26 (some 59) ?_ (a' := ?_) rfl (by kernel_rfl) (fun _ _ d _ _ h => by cases d <;> exact h) (by kernel_rfl) (by rfl) (by kernel_rfl) ?_ ?_ ?_; rotate_left 2; (focus (intro W hW; (try dsimp only at hW); go_simp; (try with_reducible rfl))); (focus (simp only [Act.put, List.setIfInBounds_toArray]; rfl)))
            (refine AnyGo.take 27 (some 60) ?_ (a' := ?_) rfl (by kernel_rfl) (fun _ _ d _ _ h => by cases d <;> exact h) (by kernel_rfl) (by rfl) (by kernel_rfl) ?_ ?_ ?_; rotate_left 2; (focus (intro W hW; (try dsimp only at hW); go_simp; (try with_reducible rfl))); (focus (simp only [Act.put, List.setIfInBounds_toArray]; rfl)))
            (refine AnyGo.take 28 (some 61) ?_ (a' := ?_) rfl (by kernel_rfl) (fun _ _ d _ _ h => by cases d <;> exact h) (by kernel_rfl) (by rfl) (by kernel_rfl) ?_ ?_ ?_; rotate_left 2; (focus (intro W hW; (try dsimp only at hW); go_simp; (try with_reducible rfl))); (focus (simp only [Act.put, List.setIfInBounds_toArray]; rfl)))
            (refine AnyGo.skip 29 (some 62) (a' := ?_) rfl (by kernel_rfl) (fun _ _ d _ _ h => by cases d <;> exact h) (by kernel_rfl) (by rfl) (by kernel_rfl) ?_ ?_; rotate_left 1; (focus (simp only [Act.put, List.setIfInBounds_toArray]; rfl)))
            (refine AnyGo.skip 30 (some 63) (a' := ?_) rfl (by kernel_rfl) (fun _ _ d _ _ h => by cases d <;> exact h) (by kernel_rfl) (by rfl) (by kernel_rfl) ?_ ?_; rotate_left 1; (focus (simp only [Act.put, List.setIfInBounds_toArray]; rfl)))
            (refine AnyGo.skip 31 (some 64) (a' := ?_) rfl (by kernel_rfl) (fun _ _ d _ _ h => by cases d <;> exact h) (by kernel_rfl) (by rfl) (by kernel_rfl) ?_ ?_; rotate_left 1; (focus (simp only [Act.put, List.setIfInBounds_toArray]; rfl)))
            (refine AnyGo.take 32 (some 65) ?_ (a' := ?_) rfl (by kernel_rfl) (fun _ _ d _ _ h => by cases d <;> exact h) (by kernel_rfl) (by rfl) (by kernel_rfl) ?_ ?_ ?_; rotate_left 2; (focus (intro W hW; (try dsimp only at hW); go_simp; (try with_reducible rfl))); (focus (simp only [Act.put, List.setIfInBounds_toArray]; rfl)))
            (refine AnyGo.take 33 (some 66) ?_ (a' := ?_) rfl (by kernel_rfl) (fun _ _ d _ _ h => by cases d <;> exact h) (by kernel_rfl) (by rfl) (by kernel_rfl) ?_ ?_ ?_; rotate_left 2; (focus (intro W hW; (try dsimp only at hW); go_simp; (try with_reducible rfl))); (focus (simp only [Act.put, List.setIfInBounds_toArray]; rfl)))
            refine AnyGo.fin (by kernel_rfl) ?_
            (try simp only [List.set_cons_succ, List.set_cons_zero])
            go_wp2_with fail
            refine (HRW.out _ HTBw1.out.below).mono ?_
            rintro e w2 ⟨rfl, hb⟩
            have HTBw2 := keep (HTBw1.out.to hb)
            clear hb n0 n1 n2 n3 n4 o0 o1 i0 i1 r0 r1 rl rf rs0 rs1
            obtain ⟨n0, n1, n2, n3, n4, o0, o1, i0, i1, r0, r1, rl, rf, rs0, rs1⟩ := HTBw2.out.facts
            simp only at n0 n1 n2 n3 n4
            go_wp2_with fail
            refine bodyPost_ret (v := .agg #[.int .i64 (G.1 : Int), .bool G.2]) ?_ rfl ⟨rfl, (HTBw2.out.below.setCell (p := ⟨w.heap.size + 1 + 1 + 1, 0, none⟩) (by simp only; omega) _).setCell (p := ⟨w.heap.size + 1 + 1 + 1, 1, none⟩) (by simp only; omega) _⟩
            simp [results, Try.results41, go_sem, rs0, rs1]
          | false =>
            have HE := keep (HNO.out (by rw [HF.out, hs1]; simp))
            rw [hs1] at HRN
            clear HF HNO HYES HROW
            go_enter Try.func41, Try.ntmps41
            go_wp2_with fail
            refine AnyGo.region (fun W' => W'.cell? ⟨w.heap.size, 0, none⟩ = some (.int .i64 34) ∧ W'.cell? ⟨w.heap.size, 1, none⟩ = some (.string s) ∧ W'.cell? ⟨w.heap.size, 2, none⟩ = some (.int .i64 0) ∧ W'.cell? ⟨w.heap.size, 3, none⟩ = some (.int .i64 2)) (by kernel_rfl) (by rfl) ⟨HTB.out.facts.1, HTB.out.facts.2.1, HTB.out.facts.2.2.1, HTB.out.facts.2.2.2.1⟩ ?_
            intro wd ewd
            subst ewd
            (refine AnyGo.take 0 (some 33) ?_ (a' := ?_) rfl (by kernel_rfl) (fun _ _ d _ _ h => by cases d <;> exact h) (by kernel_rfl) (by rfl) (by kernel_rfl) ?_ ?_ ?_; rotate_left 2; (focus (intro W hW; (try dsimp only at hW); go_simp; (try with_reducible rfl))); (focus (simp only [Act.put, List.setIfInBounds_toArray]; rfl)))
            (refine AnyGo.take 1 (some 34) ?_ (a' := ?_) rfl (by kernel_rfl) (fun _ _ d _ _ h => by cases d <;> exact h) (by kernel_rfl) (by rfl) (by kernel_rfl) ?_ ?_ ?_; rotate_left 2; (focus (intro W hW; (try dsimp only at hW); go_simp; (try with_reducible rfl))); (focus (simp only [Act.put, List.setIfInBounds_toArray]; rfl)))
            (refine AnyGo.take 2 (some 35) ?_ (a' := ?_) rfl (by kernel_rfl) (fun _ _ d _ _ h => by cases d <;> exact h) (by kernel_rfl) (by rfl) (by kernel_rfl) ?_ ?_ ?_; rotate_left 2; (focus (intro W hW; (try dsimp only at hW); go_simp; (try with_reducible rfl))); (focus (simp only [Act.put, List.setIfInBounds_toArray]; rfl)))
            (refine AnyGo.take 3 (some 36) ?_ (a' := ?_) rfl (by kernel_rfl) (fun _ _ d _ _ h => by cases d <;> exact h) (by kernel_rfl) (by rfl) (by kernel_rfl) ?_ ?_ ?_; rotate_left 2; (focus (intro W hW; (try dsimp only at hW); go_simp; (try with_reducible rfl))); (focus (simp only [Act.put, List.setIfInBounds_toArray]; rfl)))
            (refine AnyGo.take 4 (some 37) ?_ (a' := ?_) rfl (by kernel_rfl) (fun _ _ d _ _ h => by cases d <;> exact h) (by kernel_rfl) (by rfl) (by kernel_rfl) ?_ ?_ ?_; rotate_left 2; (focus (intro W hW; (try dsimp only at hW); go_simp; (try with_reducible rfl))); (focus (simp only [Act.put, List.setIfInBounds_toArray]; rfl)))
            (refine AnyGo.take 5 (some 38) ?_ (a' := ?_) rfl (by kernel_rfl) (fun _ _ d _ _ h => by cases d <;> exact h) (by kernel_rfl) (by rfl) (by kernel_rfl) ?_ ?_ ?_; rotate_left 2; (focus (intro W hW; (try dsimp only at hW); go_simp; (try with_reducible rfl))); (focus (simp only [Act.put, List.setIfInBounds_toArray]; rfl)))
            (refine AnyGo.take 6 (some 39) ?_ (a' := ?_) rfl (by kernel_rfl) (fun _ _ d _ _ h => by cases d <;> exact h) (by kernel_rfl) (by rfl) (by kernel_rfl) ?_ ?_ ?_; rotate_left 2; (focus (intro W hW; (try dsimp only at hW); go_simp; (try with_reducible rfl))); (focus (simp only [Act.put, List.setIfInBounds_toArray]; rfl)))
            (refine AnyGo.take 7 (some 40) ?_ (a' := ?_) rfl (by kernel_rfl) (fun _ _ d _ _ h => by cases d <;> exact h) (by kernel_rfl) (by rfl) (by kernel_rfl) ?_ ?_ ?_; rotate_left 2; (focus (intro W hW; (try dsimp only at hW); go_simp; (try with_reducible rfl))); (focus (simp only [Act.put, List.setIfInBounds_toArray]; rfl)))
            (refine AnyGo.take 8 (some 41) ?_ (a' := ?_) rfl (by kernel_rfl) (fun _ _ d _ _ h => by cases d <;> exact h) (by kernel_rfl) (by rfl) (by kernel_rfl) ?_ ?_ ?_; rotate_left 2; (focus (intro W hW; (try dsimp only at hW); go_simp; (try with_reducible rfl))); (focus (simp only [Act.put, List.setIfInBounds_toArray]; rfl)))
            (refine AnyGo.take 9 (some 42) ?_ (a' := ?_) rfl (by kernel_rfl) (fun _ _ d _ _ h => by cases d <;> exact h) (by kernel_rfl) (by rfl) (by kernel_rfl) ?_ ?_ ?_; rotate_left 2; (focus (intro W hW; (try dsimp only at hW); go_simp; (try with_reducible rfl))); (focus (simp only [Act.put, List.setIfInBounds_toArray]; rfl)))
            (refine AnyGo.take 10 (some 43) ?_ (a' := ?_) rfl (by kernel_rfl) (fun _ _ d _ _ h => by cases d <;> exact h) (by kernel_rfl) (by rfl) (by kernel_rfl) ?_ ?_ ?_; rotate_left 2; (focus (intro W hW; (try dsimp only at hW); go_simp; (try with_reducible rfl))); (focus (simp only [Act.put, List.setIfInBounds_toArray]; rfl)))
            (refine AnyGo.take 11 (some 44) ?_ (a' := ?_) rfl (by kernel_rfl) (fun _ _ d _ _ h => by cases d <;> exact h) (by kernel_rfl) (by rfl) (by kernel_rfl) ?_ ?_ ?_; rotate_left 2; (focus (intro W hW; (try dsimp only at hW); go_simp; (try with_reducible rfl))); (focus (simp only [Act.put, List.setIfInBounds_toArray]; rfl)))
            (refine AnyGo.take 12 (some 45) ?_ (a' := ?_) rfl (by kernel_rfl) (fun _ _ d _ _ h => by cases d <;> exact h) (by kernel_rfl) (by rfl) (by kernel_rfl) ?_ ?_ ?_; rotate_left 2; (focus (intro W hW; (try dsimp only at hW); go_simp; (try with_reducible rfl))); (focus (simp only [Act.put, List.setIfInBounds_toArray]; rfl)))
            (refine AnyGo.take 13 (some 46) ?_ (a' := ?_) rfl (by kernel_rfl) (fun _ _ d _ _ h => by cases d <;> exact h) (by kernel_rfl) (by rfl) (by kernel_rfl) ?_ ?_ ?_; rotate_left 2; (focus (intro W hW; (try dsimp only at hW); go_simp; (try with_reducible rfl))); (focus (simp only [Act.put, List.setIfInBounds_toArray]; rfl)))
            (refine AnyGo.take 14 (some 47) ?_ (a' := ?_) rfl (by kernel_rfl) (fun _ _ d _ _ h => by cases d <;> exact h) (by kernel_rfl) (by rfl) (by kernel_rfl) ?_ ?_ ?_; rotate_left 2; (focus (intro W hW; (try dsimp only at hW); go_simp; (try with_reducible rfl))); (focus (simp only [Act.put, List.setIfInBounds_toArray]; rfl)))
            (refine AnyGo.take 15 (some 48) ?_ (a' := ?_) rfl (by kernel_rfl) (fun _ _ d _ _ h => by cases d <;> exact h) (by kernel_rfl) (by rfl) (by kernel_rfl) ?_ ?_ ?_; rotate_left 2; (focus (intro W hW; (try dsimp only at hW); go_simp; (try with_reducible rfl))); (focus (simp only [Act.put, List.setIfInBounds_toArray]; rfl)))
            (refine AnyGo.take 16 (some 49) ?_ (a' := ?_) rfl (by kernel_rfl) (fun _ _ d _ _ h => by cases d <;> exact h) (by kernel_rfl) (by rfl) (by kernel_rfl) ?_ ?_ ?_; rotate_left 2; (focus (intro W hW; (try dsimp only at hW); go_simp; (try with_reducible rfl))); (focus (simp only [Act.put, List.setIfInBounds_toArray]; rfl)))
            (refine AnyGo.take 17 (some 50) ?_ (a' := ?_) rfl (by kernel_rfl) (fun _ _ d _ _ h => by cases d <;> exact h) (by kernel_rfl) (by rfl) (by kernel_rfl) ?_ ?_ ?_; rotate_left 2; (focus (intro W hW; (try dsimp only at hW); go_simp; (try with_reducible rfl))); (focus (simp only [Act.put, List.setIfInBounds_toArray]; rfl)))
            (refine AnyGo.take 18 (some 51) ?_ (a' := ?_) rfl (by kernel_rfl) (fun _ _ d _ _ h => by cases d <;> exact h) (by kernel_rfl) (by rfl) (by kernel_rfl) ?_ ?_ ?_; rotate_left 2; (focus (intro W hW; (try dsimp only at hW); go_simp; (try with_reducible rfl))); (focus (simp only [Act.put, List.setIfInBounds_toArray]; rfl)))
            (refine AnyGo.take 19 (some 52) ?_ (a' := ?_) rfl (by kernel_rfl) (fun _ _ d _ _ h => by cases d <;> exact h) (by kernel_rfl) (by rfl) (by kernel_rfl) ?_ ?_ ?_; rotate_left 2; (focus (intro W hW; (try dsimp only at hW); go_simp; (try with_reducible rfl))); (focus (simp only [Act.put, List.setIfInBounds_toArray]; rfl)))
            (refine AnyGo.take 20 (some 53) ?_ (a' := ?_) rfl (by kernel_rfl) (fun _ _ d _ _ h => by cases d <;> exact h) (by kernel_rfl) (by rfl) (by kernel_rfl) ?_ ?_ ?_; rotate_left 2; (focus (intro W hW; (try dsimp only at hW); go_simp; (try with_reducible rfl))); (focus (simp only [Act.put, List.setIfInBounds_toArray]; rfl)))
            refine AnyGo.one (i := 21) (by kernel_rfl) rfl (by kernel_rfl) (fun K' hK' => ?_)
            go_simp
            refine (HRN.out _).mono ?_
            rintro e w1 ⟨rfl, hb⟩
            have HTBw1 := keep (TB.to (HTB.out.drew) hb)
            clear hb n0 n1 n2 n3 n4 o0 o1 i0 i1 r0 r1 rl rf rs0 rs1
            obtain ⟨n0, n1, n2, n3, n4, o0, o1, i0, i1, r0, r1, rl, rf, rs0, rs1⟩ := HTBw1.out.facts
            simp only at n0 n1 n2 n3 n4
            refine hK'.out _ _ ⟨n0, n1, n2, n3⟩ ?_
            clear hK' K'
            (try simp only [Act.put, List.setIfInBounds_toArray])
            (refine AnyGo.take 22 (some 55) ?_ (a' := ?_) rfl (by kernel_rfl) (fun _ _ d _ _ h => by cases d <;> exact h) (by kernel_rfl) (by rfl) (by kernel_rfl) ?_ ?_ ?_; rotate_left 2; (focus (intro W hW; (try dsimp only at hW); go_simp; (try with_reducible rfl))); (focus (simp only [Act.put, List.setIfInBounds_toArray]; rfl)))
            (refine AnyGo.take 23 (some 56) ?_ (a' := ?_) rfl (by kernel_rfl) (fun _ _ d _ _ h => by cases d <;> exact h) (by kernel_rfl) (by rfl) (by kernel_rfl) ?_ ?_ ?_; rotate_left 2; (focus (intro W hW; (try dsimp only at hW); go_simp; (try with_reducible rfl))); (focus (simp only [Act.put, List.setIfInBounds_toArray]; rfl)))
            (refine AnyGo.take 24 (some 57) ?_ (a' := ?_) rfl (by kernel_rfl) (fun _ _ d _ _ h => by cases d <;> exact h) (by kernel_rfl) (by rfl) (by kernel_rfl) ?_ ?_ ?_; rotate_left 2; (focus (intro W hW; (try dsimp only at hW); go_simp; (try with_reducible rfl))); (focus (simp only [Act.put, List.setIfInBounds_toArray]; rfl)))
            (refine AnyGo.skip 25 (some 58) (a' := ?_) rfl (by kernel_rfl) (fun _ _ d _ _ h => by cases d <;> exact h) (by kernel_rfl) (by rfl) (by kernel_rfl) ?_ ?_; rotate_left 1; (focus (simp only [Act.put, List.setIfInBounds_toArray]; rfl)))
            (refine AnyGo.skip 26 (some 59) (a' := ?_) rfl (by kernel_rfl) (fun _ _ d _ _ h => by cases d <;> exact h) (by kernel_rfl) (by rfl) (by kernel_rfl) ?_ ?_; rotate_left 1; (focus (simp only [Act.put, List.setIfInBounds_toArray]; rfl)))
            (refine AnyGo.skip 27 (some 60) (a' := ?_) rfl (by kernel_rfl) (fun _ _ d _ _ h => by cases d <;> exact h) (by kernel_rfl) (by rfl) (by kernel_rfl) ?_ ?_; rotate_left 1; (focus (simp only [Act.put, List.setIfInBounds_toArray]; rfl)))
            (refine AnyGo.skip 28 (some 61) (a' := ?_) rfl (by kernel_rfl) (fun _ _ d _ _ h => by cases d <;> exact h) (by kernel_rfl) (by rfl) (by kernel_rfl) ?_ ?_; rotate_left 1; (focus (simp only [Act.put, List.setIfInBounds_toArray]; rfl)))
            (refine AnyGo.skip 29 (some 62) (a' := ?_) rfl (by kernel_rfl) (fun _ _ d _ _ h => by cases d <;> exact h) (by kernel_rfl) (by rfl) (by kernel_rfl) ?_ ?_; rotate_left 1; (focus (simp only [Act.put, List.setIfInBounds_toArray]; rfl)))
            (refine AnyGo.skip 30 (some 63) (a' := ?_) rfl (by kernel_rfl) (fun _ _ d _ _ h => by cases d <;> exact h) (by kernel_rfl) (by rfl) (by kernel_rfl) ?_ ?_; rotate_left 1; (focus (simp only [Act.put, List.setIfInBounds_toArray]; rfl)))
            (refine AnyGo.skip 31 (some 64) (a' := ?_) rfl (by kernel_rfl) (fun _ _ d _ _ h => by cases d <;> exact h) (by kernel_rfl) (by rfl) (by kernel_rfl) ?_ ?_; rotate_left 1; (focus (simp only [Act.put, List.setIfInBounds_toArray]; rfl)))
            (refine AnyGo.skip 32 (some 65) (a' := ?_) rfl (by kernel_rfl) (fun _ _ d _ _ h => by cases d <;> exact h) (by kernel_rfl) (by rfl) (by kernel_rfl) ?_ ?_; rotate_left 1; (focus (simp only [Act.put, List.setIfInBounds_toArray]; rfl)))
            (refine AnyGo.take 33 (some 66) ?_ (a' := ?_) rfl (by kernel_rfl) (fun _ _ d _ _ h => by cases d <;> exact h) (by kernel_rfl) (by rfl) (by kernel_rfl) ?_ ?_ ?_; rotate_left 2; (focus (intro W hW; (try dsimp only at hW); go_simp; (try with_reducible rfl))); (focus (simp only [Act.put, List.setIfInBounds_toArray]; rfl)))
            refine AnyGo.fin (by kernel_rfl) ?_
            (try simp only [List.set_cons_succ, List.set_cons_zero])
            go_wp2_with fail
            refine bodyPost_ret (v := .agg #[.int .i64 (a : Int), .bool false]) ?_ rfl ⟨by rw [← HE.out], (HTBw1.out.below.setCell (p := ⟨w.heap.size + 1 + 1 + 1, 0, none⟩) (by simp only; omega) _).setCell (p := ⟨w.heap.size + 1 + 1 + 1, 1, none⟩) (by simp only; omega) _⟩
            simp [results, Try.results41, go_sem, rs0, rs1]
        · have e4 : (k != 2) = true := by simpa using hk
          have e5 : (k == 2) = false := by simpa using hk
          have HE := keep (HNO.out (by rw [HF.out]; simp [hk]))
          clear HF HNO HYES HROW HRN hk
          go_enter Try.func41, Try.ntmps41
          go_wp2_with fail
          go_quiet (fail)
          have HTBq := keep (HTB.out.to (below_draws _ _ nq))
          clear n0 n1 n2 n3 n4 o0 o1 i0 i1 r0 r1 rl rf rs0 rs1
          obtain ⟨n0, n1, n2, n3, n4, o0, o1, i0, i1, r0, r1, rl, rf, rs0, rs1⟩ := HTBq.out.facts
          simp only at n0 n1 n2 n3 n4
          generalize World.drewN _ nq = wq at *
          go_wp2_with fail
          refine bodyPost_ret (v := .agg #[.int .i64 (a : Int), .bool false]) ?_ rfl ⟨by rw [← HE.out], (HTBq.out.below.setCell (p := ⟨w.heap.size + 1 + 1 + 1, 0, none⟩) (by simp only; omega) _).setCell (p := ⟨w.heap.size + 1 + 1 + 1, 1, none⟩) (by simp only; omega) _⟩
          simp [results, Try.results41, go_sem, rs0, rs1]
end Go.Proofs.Ytgodjgbdjgiapaa
