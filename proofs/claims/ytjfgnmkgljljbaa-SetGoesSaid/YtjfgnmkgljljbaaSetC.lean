/-
  Sets: trees turned the other way.
-/
import Derived.Test.YtjfgnmkgljljbaaSetA
namespace Go.Proofs.Ytjfgnmkgljljbaa
open Go.RowKit

set_option maxHeartbeats 1000000 in
theorem turnRight_any {pr : Option Addr} {R LL LR : BT Int} {b : Nat} {p0 p1 : Option Addr} {v : Int} {w : World} (x : Int) (hr : IsT w pr R) (hb : NdAt w b p0 v p1 (LL.row.length + 1 + LR.row.length)) (h0 : IsT w p0 LL) (h1 : IsT w p1 LR)
    (hn : ((LL.row ++ v :: LR.row) ++ x :: R.row).length ≤ 1000000) :
    Calls Try.prog 50 #[.pointer (some ⟨b, 0, none⟩), EV x, .pointer pr] w fun e w' => TT w ((LL.row ++ v :: LR.row) ++ x :: R.row) e w' := by
  have hn1 : R.row.length + 1 + (LL.row.length + 1 + LR.row.length) ≤ 1000000 := by simp at hn; omega
  have HW0 := keep (fun W (h : IsT W p0 LL) => weight_any h (by omega))
  have HW1 := keep (fun W (h : IsT W p1 LR) => weight_any h (by omega))
  have HN := keep hn1
  have HT : Keep (∀ W, Below w.heap.size w W → IsT W pr R ∧ IsT W p0 LL ∧ IsT W p1 LR ∧ NdAt W b p0 v p1 (LL.row.length + 1 + LR.row.length)) := ⟨fun W h => ⟨hr.below h, h0.below h, h1.below h, hb.below h⟩⟩
  have HBD := keep ((Below.refl w.heap.size w).drew)
  have hLL : (LL.row.length : Int) ≤ 1000000 := by omega
  have hLR : (LR.row.length : Int) ≤ 1000000 := by omega
  have hLL0 : (0 : Int) ≤ (LL.row.length : Int) := by omega
  have hLR0 : (0 : Int) ≤ (LR.row.length : Int) := by omega
  have HTEST : Keep (¬ ((LR.row.length : Int) + 1 < 2 * ((LL.row.length : Int) + 1)) → ∃ ML m MR, LR = .node ML m MR) := ⟨fun h => by
    cases LR with
    | leaf => simp [BT.row] at h; omega
    | node ML m MR => exact ⟨_, _, _, rfl⟩⟩
  obtain ⟨c0, c1, c2, -⟩ := hb.cells
  obtain ⟨y, hy⟩ : ∃ y : Int, y = (LR.row.length : Int) := ⟨_, rfl⟩
  obtain ⟨z, hz⟩ : ∃ z : Int, z = (LL.row.length : Int) := ⟨_, rfl⟩
  rw [← hy] at HW1 hLR hLR0 HTEST
  rw [← hz] at HW0 hLL hLL0 HTEST
  have hz2 : IntKind.i64.wrap (2 * (z + 1)) = 2 * (z + 1) := by rw [IntKind.wrap_i64]; omega
  clear hr h0 h1 hb hn hn1 hy hz
  go_enter Try.func50, Try.ntmps50
  go_wp2_with fail
  refine AnyGo.region (fun W' => W'.cell? ⟨b, 0, none⟩ = some (.pointer p0)) (by kernel_rfl) (by rfl) c0 ?_
  intro wd ewd
  subst ewd
  (refine AnyGo.take 0 (some 12) ?_ (a' := ?_) rfl (by kernel_rfl) (fun _ _ d _ _ h => by cases d <;> exact h) (by kernel_rfl) (by rfl) (by kernel_rfl) ?_ ?_ ?_; rotate_left 2; (focus (intro W hW; (try dsimp only at hW); go_simp; (try with_reducible rfl))); (focus (simp only [Act.put, List.setIfInBounds_toArray]; rfl)))
  (refine AnyGo.take 2 (some 14) ?_ (a' := ?_) rfl (by kernel_rfl) (fun _ _ d _ _ h => by cases d <;> exact h) (by kernel_rfl) (by rfl) (by kernel_rfl) ?_ ?_ ?_; rotate_left 2; (focus (intro W hW; (try dsimp only at hW); go_simp; (try with_reducible rfl))); (focus (simp only [Act.put, List.setIfInBounds_toArray]; rfl)))
  (refine AnyGo.take 3 (some 15) ?_ (a' := ?_) rfl (by kernel_rfl) (fun _ _ d _ _ h => by cases d <;> exact h) (by kernel_rfl) (by rfl) (by kernel_rfl) ?_ ?_ ?_; rotate_left 2; (focus (intro W hW; (try dsimp only at hW); go_simp; (try with_reducible rfl))); (focus (simp only [Act.put, List.setIfInBounds_toArray]; rfl)))
  (refine AnyGo.take 4 (some 16) ?_ (a' := ?_) rfl (by kernel_rfl) (fun _ _ d _ _ h => by cases d <;> exact h) (by kernel_rfl) (by rfl) (by kernel_rfl) ?_ ?_ ?_; rotate_left 2; (focus (intro W hW; (try dsimp only at hW); go_simp; (try with_reducible rfl))); (focus (simp only [Act.put, List.setIfInBounds_toArray]; rfl)))
  (refine AnyGo.take 5 (some 17) ?_ (a' := ?_) rfl (by kernel_rfl) (fun _ _ d _ _ h => by cases d <;> exact h) (by kernel_rfl) (by rfl) (by kernel_rfl) ?_ ?_ ?_; rotate_left 2; (focus (intro W hW; (try dsimp only at hW); go_simp; (try with_reducible rfl))); (focus (simp only [Act.put, List.setIfInBounds_toArray]; rfl)))
  refine AnyGo.one (i := 1) (by kernel_rfl) rfl (by kernel_rfl) (fun K' hK' => ?_)
  go_simp
  refine (HW1.out w.drew (HT.out _ HBD.out).2.2.1).mono ?_
  rintro e w' ⟨rfl, rfl⟩
  refine hK'.out _ _ c0 ?_
  clear hK' K'
  (try simp only [Act.put, List.setIfInBounds_toArray])
  refine AnyGo.one (i := 6) (by kernel_rfl) rfl (by kernel_rfl) (fun K' hK' => ?_)
  go_simp
  refine (HW0.out w.drew (HT.out _ HBD.out).2.1).mono ?_
  rintro e w' ⟨rfl, rfl⟩
  refine hK'.out _ _ c0 ?_
  clear hK' K'
  (try simp only [Act.put, List.setIfInBounds_toArray])
  (refine AnyGo.take 7 (some 19) ?_ (a' := ?_) rfl (by kernel_rfl) (fun _ _ d _ _ h => by cases d <;> exact h) (by kernel_rfl) (by rfl) (by kernel_rfl) ?_ ?_ ?_; rotate_left 2; (focus (intro W hW; (try dsimp only at hW); go_simp; (try with_reducible rfl))); (focus (simp only [Act.put, List.setIfInBounds_toArray]; rfl)))
  (refine AnyGo.take 8 (some 20) ?_ (a' := ?_) rfl (by kernel_rfl) (fun _ _ d _ _ h => by cases d <;> exact h) (by kernel_rfl) (by rfl) (by kernel_rfl) ?_ ?_ ?_; rotate_left 2; (focus (intro W hW; (try dsimp only at hW); go_simp; (try with_reducible rfl))); (focus (simp only [Act.put, List.setIfInBounds_toArray]; rfl)))
  refine AnyGo.fin (by kernel_rfl) ?_
  by_cases hlt : y + 1 < 2 * (z + 1)
  · clear HTEST HW0 HW1
    go_wp2_with fail
    refine AnyGo.region (fun W' => W'.cell? ⟨b, 0, none⟩ = some (.pointer p0) ∧ W'.cell? ⟨b, 2, none⟩ = some (EV v)) (by kernel_rfl) (by rfl) ⟨c0, c2⟩ ?_
    intro wd ewd
    subst ewd
    (refine AnyGo.take 0 (some 21) ?_ (a' := ?_) rfl (by kernel_rfl) (fun _ _ d _ _ h => by cases d <;> exact h) (by kernel_rfl) (by rfl) (by kernel_rfl) ?_ ?_ ?_; rotate_left 2; (focus (intro W hW; (try dsimp only at hW); go_simp; (try with_reducible rfl))); (focus (simp only [Act.put, List.setIfInBounds_toArray]; rfl)))
    (refine AnyGo.take 1 (some 22) ?_ (a' := ?_) rfl (by kernel_rfl) (fun _ _ d _ _ h => by cases d <;> exact h) (by kernel_rfl) (by rfl) (by kernel_rfl) ?_ ?_ ?_; rotate_left 2; (focus (intro W hW; (try dsimp only at hW); go_simp; (try with_reducible rfl))); (focus (simp only [Act.put, List.setIfInBounds_toArray]; rfl)))
    (refine AnyGo.take 2 (some 23) ?_ (a' := ?_) rfl (by kernel_rfl) (fun _ _ d _ _ h => by cases d <;> exact h) (by kernel_rfl) (by rfl) (by kernel_rfl) ?_ ?_ ?_; rotate_left 2; (focus (intro W hW; (try dsimp only at hW); go_simp; (try with_reducible rfl))); (focus (simp only [Act.put, List.setIfInBounds_toArray]; rfl)))
    (refine AnyGo.take 3 (some 24) ?_ (a' := ?_) rfl (by kernel_rfl) (fun _ _ d _ _ h => by cases d <;> exact h) (by kernel_rfl) (by rfl) (by kernel_rfl) ?_ ?_ ?_; rotate_left 2; (focus (intro W hW; (try dsimp only at hW); go_simp; (try with_reducible rfl))); (focus (simp only [Act.put, List.setIfInBounds_toArray]; rfl)))
    (refine AnyGo.take 4 (some 25) ?_ (a' := ?_) rfl (by kernel_rfl) (fun _ _ d _ _ h => by cases d <;> exact h) (by kernel_rfl) (by rfl) (by kernel_rfl) ?_ ?_ ?_; rotate_left 2; (focus (intro W hW; (try dsimp only at hW); go_simp; (try with_reducible rfl))); (focus (simp only [Act.put, List.setIfInBounds_toArray]; rfl)))
    (refine AnyGo.take 5 (some 26) ?_ (a' := ?_) rfl (by kernel_rfl) (fun _ _ d _ _ h => by cases d <;> exact h) (by kernel_rfl) (by rfl) (by kernel_rfl) ?_ ?_ ?_; rotate_left 2; (focus (intro W hW; (try dsimp only at hW); go_simp; (try with_reducible rfl))); (focus (simp only [Act.put, List.setIfInBounds_toArray]; rfl)))
    (refine AnyGo.take 6 (some 27) ?_ (a' := ?_) rfl (by kernel_rfl) (fun _ _ d _ _ h => by cases d <;> exact h) (by kernel_rfl) (by rfl) (by kernel_rfl) ?_ ?_ ?_; rotate_left 2; (focus (intro W hW; (try dsimp only at hW); go_simp; (try with_reducible rfl))); (focus (simp only [Act.put, List.setIfInBounds_toArray]; rfl)))
    (refine AnyGo.take 7 (some 28) ?_ (a' := ?_) rfl (by kernel_rfl) (fun _ _ d _ _ h => by cases d <;> exact h) (by kernel_rfl) (by rfl) (by kernel_rfl) ?_ ?_ ?_; rotate_left 2; (focus (intro W hW; (try dsimp only at hW); go_simp; (try with_reducible rfl))); (focus (simp only [Act.put, List.setIfInBounds_toArray]; rfl)))
    (refine AnyGo.take 8 (some 29) ?_ (a' := ?_) rfl (by kernel_rfl) (fun _ _ d _ _ h => by cases d <;> exact h) (by kernel_rfl) (by rfl) (by kernel_rfl) ?_ ?_ ?_; rotate_left 2; (focus (intro W hW; (try dsimp only at hW); go_simp; (try with_reducible rfl))); (focus (simp only [Act.put, List.setIfInBounds_toArray]; rfl)))
    (refine AnyGo.take 9 (some 30) ?_ (a' := ?_) rfl (by kernel_rfl) (fun _ _ d _ _ h => by cases d <;> exact h) (by kernel_rfl) (by rfl) (by kernel_rfl) ?_ ?_ ?_; rotate_left 2; (focus (intro W hW; (try dsimp only at hW); go_simp; (try with_reducible rfl))); (focus (simp only [Act.put, List.setIfInBounds_toArray]; rfl)))
    (refine AnyGo.take 10 (some 31) ?_ (a' := ?_) rfl (by kernel_rfl) (fun _ _ d _ _ h => by cases d <;> exact h) (by kernel_rfl) (by rfl) (by kernel_rfl) ?_ ?_ ?_; rotate_left 2; (focus (intro W hW; (try dsimp only at hW); go_simp; (try with_reducible rfl))); (focus (simp only [Act.put, List.setIfInBounds_toArray]; rfl)))
    refine AnyGo.one (i := 11) (by kernel_rfl) rfl (by kernel_rfl) (fun K' hK' => ?_)
    go_simp
    refine (join_any x (HT.out _ HBD.out.drew).2.2.1 (HT.out _ HBD.out.drew).1 (by have := HN.out; simp; omega)).mono ?_
    rintro e w1 ⟨⟨p, rfl, hp⟩, hb⟩
    have HP := keep hp
    have HB1 := keep (HBD.out.drew.trans (hb.mono HBD.out.drew.size))
    clear hb hp
    obtain ⟨d0, -, d2, -⟩ := (HT.out _ HB1.out).2.2.2.cells
    refine hK'.out _ _ ⟨d0, d2⟩ ?_
    clear hK' K'
    (try simp only [Act.put, List.setIfInBounds_toArray])
    refine AnyGo.one (i := 12) (by kernel_rfl) rfl (by kernel_rfl) (fun K' hK' => ?_)
    go_simp
    refine (join_any v (HT.out _ HB1.out).2.1 HP.out (by have := HN.out; simp [BT.row]; omega)).mono ?_
    rintro e w2 ⟨⟨p, rfl, hp⟩, hb⟩
    have HP := keep hp
    have HB2 := keep (HB1.out.trans (hb.mono HB1.out.size))
    clear hb hp
    obtain ⟨d0, -, d2, -⟩ := (HT.out _ HB2.out).2.2.2.cells
    refine hK'.out _ _ ⟨d0, d2⟩ ?_
    clear hK' K'
    (try simp only [Act.put, List.setIfInBounds_toArray])
    (refine AnyGo.take 13 (some 6) ?_ (a' := ?_) rfl (by kernel_rfl) (fun _ _ d _ _ h => by cases d <;> exact h) (by kernel_rfl) (by rfl) (by kernel_rfl) ?_ ?_ ?_; rotate_left 2; (focus (intro W hW; (try dsimp only at hW); go_simp; (try with_reducible rfl))); (focus (simp only [Act.put, List.setIfInBounds_toArray]; rfl)))
    refine AnyGo.fin (by kernel_rfl) ?_
    go_wp2_with fail
    go_ret
    exact ⟨_, _, rfl, HP.out, by simp [BT.row], HB2.out⟩
  · have hge : 2 * (z + 1) ≤ y + 1 := by omega
    have hlt' : decide (y + 1 < 2 * (z + 1)) = false := by simpa using hge
    obtain ⟨ML, m, MR, rfl⟩ := HTEST.out hge
    obtain ⟨b', q0, q1, rfl, g1, g2, g3⟩ := (HT.out _ (Below.refl _ _)).2.2.1
    have HT2 : Keep (∀ W, Below w.heap.size w W → IsT W q0 ML ∧ IsT W q1 MR ∧ NdAt W b' q0 m q1 (ML.row.length + 1 + MR.row.length)) := ⟨fun W h => ⟨g2.below h, g3.below h, g1.below h⟩⟩
    obtain ⟨e0, e1, e2, -⟩ := g1.cells
    clear hlt HTEST HW0 HW1 g1 g2 g3
    go_wp2_with fail
    refine AnyGo.region (fun W' => (W'.cell? ⟨b, 0, none⟩ = some (.pointer p0) ∧ W'.cell? ⟨b, 2, none⟩ = some (EV v)) ∧ W'.cell? ⟨b', 0, none⟩ = some (.pointer q0) ∧ W'.cell? ⟨b', 1, none⟩ = some (.pointer q1) ∧ W'.cell? ⟨b', 2, none⟩ = some (EV m)) (by kernel_rfl) (by rfl) ⟨⟨c0, c2⟩, e0, e1, e2⟩ ?_
    intro wd ewd
    subst ewd
    (refine AnyGo.take 0 (some 34) ?_ (a' := ?_) rfl (by kernel_rfl) (fun _ _ d _ _ h => by cases d <;> exact h) (by kernel_rfl) (by rfl) (by kernel_rfl) ?_ ?_ ?_; rotate_left 2; (focus (intro W hW; (try dsimp only at hW); go_simp; (try with_reducible rfl))); (focus (simp only [Act.put, List.setIfInBounds_toArray]; rfl)))
    (refine AnyGo.take 1 (some 35) ?_ (a' := ?_) rfl (by kernel_rfl) (fun _ _ d _ _ h => by cases d <;> exact h) (by kernel_rfl) (by rfl) (by kernel_rfl) ?_ ?_ ?_; rotate_left 2; (focus (intro W hW; (try dsimp only at hW); go_simp; (try with_reducible rfl))); (focus (simp only [Act.put, List.setIfInBounds_toArray]; rfl)))
    (refine AnyGo.take 2 (some 36) ?_ (a' := ?_) rfl (by kernel_rfl) (fun _ _ d _ _ h => by cases d <;> exact h) (by kernel_rfl) (by rfl) (by kernel_rfl) ?_ ?_ ?_; rotate_left 2; (focus (intro W hW; (try dsimp only at hW); go_simp; (try with_reducible rfl))); (focus (simp only [Act.put, List.setIfInBounds_toArray]; rfl)))
    (refine AnyGo.take 3 (some 37) ?_ (a' := ?_) rfl (by kernel_rfl) (fun _ _ d _ _ h => by cases d <;> exact h) (by kernel_rfl) (by rfl) (by kernel_rfl) ?_ ?_ ?_; rotate_left 2; (focus (intro W hW; (try dsimp only at hW); go_simp; (try with_reducible rfl))); (focus (simp only [Act.put, List.setIfInBounds_toArray]; rfl)))
    (refine AnyGo.take 4 (some 38) ?_ (a' := ?_) rfl (by kernel_rfl) (fun _ _ d _ _ h => by cases d <;> exact h) (by kernel_rfl) (by rfl) (by kernel_rfl) ?_ ?_ ?_; rotate_left 2; (focus (intro W hW; (try dsimp only at hW); go_simp; (try with_reducible rfl))); (focus (simp only [Act.put, List.setIfInBounds_toArray]; rfl)))
    (refine AnyGo.take 5 (some 39) ?_ (a' := ?_) rfl (by kernel_rfl) (fun _ _ d _ _ h => by cases d <;> exact h) (by kernel_rfl) (by rfl) (by kernel_rfl) ?_ ?_ ?_; rotate_left 2; (focus (intro W hW; (try dsimp only at hW); go_simp; (try with_reducible rfl))); (focus (simp only [Act.put, List.setIfInBounds_toArray]; rfl)))
    (refine AnyGo.take 6 (some 40) ?_ (a' := ?_) rfl (by kernel_rfl) (fun _ _ d _ _ h => by cases d <;> exact h) (by kernel_rfl) (by rfl) (by kernel_rfl) ?_ ?_ ?_; rotate_left 2; (focus (intro W hW; (try dsimp only at hW); go_simp; (try with_reducible rfl))); (focus (simp only [Act.put, List.setIfInBounds_toArray]; rfl)))
    (refine AnyGo.take 7 (some 41) ?_ (a' := ?_) rfl (by kernel_rfl) (fun _ _ d _ _ h => by cases d <;> exact h) (by kernel_rfl) (by rfl) (by kernel_rfl) ?_ ?_ ?_; rotate_left 2; (focus (intro W hW; (try dsimp only at hW); go_simp; (try with_reducible rfl))); (focus (simp only [Act.put, List.setIfInBounds_toArray]; rfl)))
    (refine AnyGo.take 8 (some 42) ?_ (a' := ?_) rfl (by kernel_rfl) (fun _ _ d _ _ h => by cases d <;> exact h) (by kernel_rfl) (by rfl) (by kernel_rfl) ?_ ?_ ?_; rotate_left 2; (focus (intro W hW; (try dsimp only at hW); go_simp; (try with_reducible rfl))); (focus (simp only [Act.put, List.setIfInBounds_toArray]; rfl)))
    (refine AnyGo.take 9 (some 43) ?_ (a' := ?_) rfl (by kernel_rfl) (fun _ _ d _ _ h => by cases d <;> exact h) (by kernel_rfl) (by rfl) (by kernel_rfl) ?_ ?_ ?_; rotate_left 2; (focus (intro W hW; (try dsimp only at hW); go_simp; (try with_reducible rfl))); (focus (simp only [Act.put, List.setIfInBounds_toArray]; rfl)))
    (refine AnyGo.take 10 (some 44) ?_ (a' := ?_) rfl (by kernel_rfl) (fun _ _ d _ _ h => by cases d <;> exact h) (by kernel_rfl) (by rfl) (by kernel_rfl) ?_ ?_ ?_; rotate_left 2; (focus (intro W hW; (try dsimp only at hW); go_simp; (try with_reducible rfl))); (focus (simp only [Act.put, List.setIfInBounds_toArray]; rfl)))
    (refine AnyGo.take 11 (some 45) ?_ (a' := ?_) rfl (by kernel_rfl) (fun _ _ d _ _ h => by cases d <;> exact h) (by kernel_rfl) (by rfl) (by kernel_rfl) ?_ ?_ ?_; rotate_left 2; (focus (intro W hW; (try dsimp only at hW); go_simp; (try with_reducible rfl))); (focus (simp only [Act.put, List.setIfInBounds_toArray]; rfl)))
    (refine AnyGo.take 13 (some 47) ?_ (a' := ?_) rfl (by kernel_rfl) (fun _ _ d _ _ h => by cases d <;> exact h) (by kernel_rfl) (by rfl) (by kernel_rfl) ?_ ?_ ?_; rotate_left 2; (focus (intro W hW; (try dsimp only at hW); go_simp; (try with_reducible rfl))); (focus (simp only [Act.put, List.setIfInBounds_toArray]; rfl)))
    (refine AnyGo.take 14 (some 48) ?_ (a' := ?_) rfl (by kernel_rfl) (fun _ _ d _ _ h => by cases d <;> exact h) (by kernel_rfl) (by rfl) (by kernel_rfl) ?_ ?_ ?_; rotate_left 2; (focus (intro W hW; (try dsimp only at hW); go_simp; (try with_reducible rfl))); (focus (simp only [Act.put, List.setIfInBounds_toArray]; rfl)))
    (refine AnyGo.take 15 (some 49) ?_ (a' := ?_) rfl (by kernel_rfl) (fun _ _ d _ _ h => by cases d <;> exact h) (by kernel_rfl) (by rfl) (by kernel_rfl) ?_ ?_ ?_; rotate_left 2; (focus (intro W hW; (try dsimp only at hW); go_simp; (try with_reducible rfl))); (focus (simp only [Act.put, List.setIfInBounds_toArray]; rfl)))
    (refine AnyGo.take 16 (some 50) ?_ (a' := ?_) rfl (by kernel_rfl) (fun _ _ d _ _ h => by cases d <;> exact h) (by kernel_rfl) (by rfl) (by kernel_rfl) ?_ ?_ ?_; rotate_left 2; (focus (intro W hW; (try dsimp only at hW); go_simp; (try with_reducible rfl))); (focus (simp only [Act.put, List.setIfInBounds_toArray]; rfl)))
    (refine AnyGo.take 17 (some 51) ?_ (a' := ?_) rfl (by kernel_rfl) (fun _ _ d _ _ h => by cases d <;> exact h) (by kernel_rfl) (by rfl) (by kernel_rfl) ?_ ?_ ?_; rotate_left 2; (focus (intro W hW; (try dsimp only at hW); go_simp; (try with_reducible rfl))); (focus (simp only [Act.put, List.setIfInBounds_toArray]; rfl)))
    (refine AnyGo.take 18 (some 52) ?_ (a' := ?_) rfl (by kernel_rfl) (fun _ _ d _ _ h => by cases d <;> exact h) (by kernel_rfl) (by rfl) (by kernel_rfl) ?_ ?_ ?_; rotate_left 2; (focus (intro W hW; (try dsimp only at hW); go_simp; (try with_reducible rfl))); (focus (simp only [Act.put, List.setIfInBounds_toArray]; rfl)))
    (refine AnyGo.take 19 (some 53) ?_ (a' := ?_) rfl (by kernel_rfl) (fun _ _ d _ _ h => by cases d <;> exact h) (by kernel_rfl) (by rfl) (by kernel_rfl) ?_ ?_ ?_; rotate_left 2; (focus (intro W hW; (try dsimp only at hW); go_simp; (try with_reducible rfl))); (focus (simp only [Act.put, List.setIfInBounds_toArray]; rfl)))
    (refine AnyGo.take 20 (some 54) ?_ (a' := ?_) rfl (by kernel_rfl) (fun _ _ d _ _ h => by cases d <;> exact h) (by kernel_rfl) (by rfl) (by kernel_rfl) ?_ ?_ ?_; rotate_left 2; (focus (intro W hW; (try dsimp only at hW); go_simp; (try with_reducible rfl))); (focus (simp only [Act.put, List.setIfInBounds_toArray]; rfl)))
    (refine AnyGo.take 21 (some 55) ?_ (a' := ?_) rfl (by kernel_rfl) (fun _ _ d _ _ h => by cases d <;> exact h) (by kernel_rfl) (by rfl) (by kernel_rfl) ?_ ?_ ?_; rotate_left 2; (focus (intro W hW; (try dsimp only at hW); go_simp; (try with_reducible rfl))); (focus (simp only [Act.put, List.setIfInBounds_toArray]; rfl)))
    (refine AnyGo.take 22 (some 56) ?_ (a' := ?_) rfl (by kernel_rfl) (fun _ _ d _ _ h => by cases d <;> exact h) (by kernel_rfl) (by rfl) (by kernel_rfl) ?_ ?_ ?_; rotate_left 2; (focus (intro W hW; (try dsimp only at hW); go_simp; (try with_reducible rfl))); (focus (simp only [Act.put, List.setIfInBounds_toArray]; rfl)))
    refine AnyGo.one (i := 12) (by kernel_rfl) rfl (by kernel_rfl) (fun K' hK' => ?_)
    go_simp
    refine (join_any v (HT.out _ HBD.out.drew).2.1 (HT2.out _ HBD.out.drew).1 (by have := HN.out; simp [BT.row] at this ⊢; omega)).mono ?_
    rintro e w1 ⟨⟨p, rfl, hp⟩, hb⟩
    have HP := keep hp
    have HB1 := keep (HBD.out.drew.trans (hb.mono HBD.out.drew.size))
    clear hb hp
    obtain ⟨d0, -, d2, -⟩ := (HT.out _ HB1.out).2.2.2.cells
    obtain ⟨f0, f1, f2, -⟩ := (HT2.out _ HB1.out).2.2.cells
    refine hK'.out _ _ ⟨⟨d0, d2⟩, f0, f1, f2⟩ ?_
    clear hK' K'
    (try simp only [Act.put, List.setIfInBounds_toArray])
    refine AnyGo.one (i := 23) (by kernel_rfl) rfl (by kernel_rfl) (fun K' hK' => ?_)
    go_simp
    refine (join_any x (HT2.out _ HB1.out).2.1 (HT.out _ HB1.out).1 (by have := HN.out; simp [BT.row] at this ⊢; omega)).mono ?_
    rintro e w2 ⟨⟨p2, rfl, hp⟩, hb⟩
    have HP2 := keep hp
    have HP1 := keep (HP.out.below hb)
    have HB2 := keep (HB1.out.trans (hb.mono HB1.out.size))
    clear hb hp HP
    obtain ⟨d0, -, d2, -⟩ := (HT.out _ HB2.out).2.2.2.cells
    obtain ⟨f0, f1, f2, -⟩ := (HT2.out _ HB2.out).2.2.cells
    refine hK'.out _ _ ⟨⟨d0, d2⟩, f0, f1, f2⟩ ?_
    clear hK' K'
    (try simp only [Act.put, List.setIfInBounds_toArray])
    refine AnyGo.one (i := 24) (by kernel_rfl) rfl (by kernel_rfl) (fun K' hK' => ?_)
    go_simp
    refine (join_any m HP1.out HP2.out (by have := HN.out; simp [BT.row] at this ⊢; omega)).mono ?_
    rintro e w3 ⟨⟨p, rfl, hp⟩, hb⟩
    have HP := keep hp
    have HB3 := keep (HB2.out.trans (hb.mono HB2.out.size))
    clear hb hp
    obtain ⟨d0, -, d2, -⟩ := (HT.out _ HB3.out).2.2.2.cells
    obtain ⟨f0, f1, f2, -⟩ := (HT2.out _ HB3.out).2.2.cells
    refine hK'.out _ _ ⟨⟨d0, d2⟩, f0, f1, f2⟩ ?_
    clear hK' K'
    (try simp only [Act.put, List.setIfInBounds_toArray])
    (refine AnyGo.take 25 (some 6) ?_ (a' := ?_) rfl (by kernel_rfl) (fun _ _ d _ _ h => by cases d <;> exact h) (by kernel_rfl) (by rfl) (by kernel_rfl) ?_ ?_ ?_; rotate_left 2; (focus (intro W hW; (try dsimp only at hW); go_simp; (try with_reducible rfl))); (focus (simp only [Act.put, List.setIfInBounds_toArray]; rfl)))
    refine AnyGo.fin (by kernel_rfl) ?_
    go_wp2_with fail
    go_ret
    exact ⟨_, _, rfl, HP.out, by simp [BT.row], HB3.out⟩
end Go.Proofs.Ytjfgnmkgljljbaa
