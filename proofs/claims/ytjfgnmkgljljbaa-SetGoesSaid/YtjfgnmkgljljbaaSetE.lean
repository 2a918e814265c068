/-
  Sets: the tree with one more; the lowest thing; the tree without one.
-/
import Derived.Test.YtjfgnmkgljljbaaSetD
namespace Go.Proofs.Ytjfgnmkgljljbaa
open Go.RowKit

set_option maxHeartbeats 2000000 in
theorem with_any (T : BT Int) : ∀ (x : Int) (p : Option Addr) (w : World), IsT w p T → Up lt' T.row → x ∉ T.row → T.row.length + 1 ≤ 1000000 →
    Calls Try.prog 27 #[.pointer p, EV x] w fun e w' => TT w (ins lt' x T.row) e w' := by
  induction T with
  | leaf =>
    intro x p w h _ _ _
    obtain rfl : p = none := h
    have HJ := keep (fun W => join_any (pl := none) (pr := none) (L := .leaf) (R := .leaf) (w := W) x rfl rfl (by simp [BT.row]))
    go_enter Try.func27, Try.ntmps27
    go_wp2_with fail
    refine (HJ.out w).mono ?_
    rintro e w' ⟨⟨p, rfl, h⟩, hb⟩
    have H := keep h
    have HB := keep hb
    clear h hb
    go_wp2_with fail
    go_ret
    exact ⟨_, _, rfl, H.out, rfl, HB.out⟩
  | node L v R ihl ihr =>
    intro x p w h hu hx hn
    obtain ⟨b, p0, p1, rfl, hb, h0, h1⟩ := h
    obtain ⟨c0, c1, c2, -⟩ := hb.cells
    have HBD := keep ((Below.refl w.heap.size w).drew)
    have HT : Keep (∀ W, Below w.heap.size w W → IsT W p0 L ∧ IsT W p1 R ∧ NdAt W b p0 v p1 (L.row.length + 1 + R.row.length)) := ⟨fun W h => ⟨h0.below h, h1.below h, hb.below h⟩⟩
    have HN : Keep (L.row.length + 1 + R.row.length + 1 ≤ 1000000) := ⟨by simp [BT.row] at hn; omega⟩
    have HLESS := keep (less_any x v w)
    cases hxv : lt' x v
    · have hvx : lt' v x = true := by
        cases e : lt' v x with
        | true => rfl
        | false => exact absurd (hlt'.tri x v hxv e) (fun e => hx (by rw [e]; simp [BT.row]))
      have HI := keep (fun W hW => ihr x p1 W hW (hu.mid (a := L.row)).2.2.2 (fun c => hx (by simp [BT.row, c])) (by have := HN.out; omega))
      have HE := keep (ins_right hlt' (a := L.row) (b := R.row) hu hvx)
      have HLEN := keep (ins_length (lt := lt') (x := x) (l := R.row))
      rw [hxv] at HLESS
      clear ihl ihr hu hx hn hxv hvx hb h0 h1
      go_enter Try.func27, Try.ntmps27
      go_wp2_with fail
      refine HLESS.out.mono ?_
      rintro e w' ⟨rfl, rfl⟩
      clear HLESS
      go_wp2_with fail
      refine AnyGo.region (fun W' => W'.cell? ⟨b, 0, none⟩ = some (.pointer p0) ∧ W'.cell? ⟨b, 1, none⟩ = some (.pointer p1) ∧ W'.cell? ⟨b, 2, none⟩ = some (EV v)) (by kernel_rfl) (by rfl) ⟨c0, c1, c2⟩ ?_
      intro wd ewd
      subst ewd
      (refine AnyGo.take 0 (some 30) ?_ (a' := ?_) rfl (by kernel_rfl) (fun _ _ d _ _ h => by cases d <;> exact h) (by kernel_rfl) (by rfl) (by kernel_rfl) ?_ ?_ ?_; rotate_left 2; (focus (intro W hW; (try dsimp only at hW); go_simp; (try with_reducible rfl))); (focus (simp only [Act.put, List.setIfInBounds_toArray]; rfl)))
      (refine AnyGo.take 1 (some 31) ?_ (a' := ?_) rfl (by kernel_rfl) (fun _ _ d _ _ h => by cases d <;> exact h) (by kernel_rfl) (by rfl) (by kernel_rfl) ?_ ?_ ?_; rotate_left 2; (focus (intro W hW; (try dsimp only at hW); go_simp; (try with_reducible rfl))); (focus (simp only [Act.put, List.setIfInBounds_toArray]; rfl)))
      (refine AnyGo.take 2 (some 32) ?_ (a' := ?_) rfl (by kernel_rfl) (fun _ _ d _ _ h => by cases d <;> exact h) (by kernel_rfl) (by rfl) (by kernel_rfl) ?_ ?_ ?_; rotate_left 2; (focus (intro W hW; (try dsimp only at hW); go_simp; (try with_reducible rfl))); (focus (simp only [Act.put, List.setIfInBounds_toArray]; rfl)))
      (refine AnyGo.take 3 (some 33) ?_ (a' := ?_) rfl (by kernel_rfl) (fun _ _ d _ _ h => by cases d <;> exact h) (by kernel_rfl) (by rfl) (by kernel_rfl) ?_ ?_ ?_; rotate_left 2; (focus (intro W hW; (try dsimp only at hW); go_simp; (try with_reducible rfl))); (focus (simp only [Act.put, List.setIfInBounds_toArray]; rfl)))
      (refine AnyGo.take 4 (some 34) ?_ (a' := ?_) rfl (by kernel_rfl) (fun _ _ d _ _ h => by cases d <;> exact h) (by kernel_rfl) (by rfl) (by kernel_rfl) ?_ ?_ ?_; rotate_left 2; (focus (intro W hW; (try dsimp only at hW); go_simp; (try with_reducible rfl))); (focus (simp only [Act.put, List.setIfInBounds_toArray]; rfl)))
      (refine AnyGo.take 5 (some 35) ?_ (a' := ?_) rfl (by kernel_rfl) (fun _ _ d _ _ h => by cases d <;> exact h) (by kernel_rfl) (by rfl) (by kernel_rfl) ?_ ?_ ?_; rotate_left 2; (focus (intro W hW; (try dsimp only at hW); go_simp; (try with_reducible rfl))); (focus (simp only [Act.put, List.setIfInBounds_toArray]; rfl)))
      (refine AnyGo.take 6 (some 36) ?_ (a' := ?_) rfl (by kernel_rfl) (fun _ _ d _ _ h => by cases d <;> exact h) (by kernel_rfl) (by rfl) (by kernel_rfl) ?_ ?_ ?_; rotate_left 2; (focus (intro W hW; (try dsimp only at hW); go_simp; (try with_reducible rfl))); (focus (simp only [Act.put, List.setIfInBounds_toArray]; rfl)))
      (refine AnyGo.take 7 (some 37) ?_ (a' := ?_) rfl (by kernel_rfl) (fun _ _ d _ _ h => by cases d <;> exact h) (by kernel_rfl) (by rfl) (by kernel_rfl) ?_ ?_ ?_; rotate_left 2; (focus (intro W hW; (try dsimp only at hW); go_simp; (try with_reducible rfl))); (focus (simp only [Act.put, List.setIfInBounds_toArray]; rfl)))
      (refine AnyGo.take 8 (some 38) ?_ (a' := ?_) rfl (by kernel_rfl) (fun _ _ d _ _ h => by cases d <;> exact h) (by kernel_rfl) (by rfl) (by kernel_rfl) ?_ ?_ ?_; rotate_left 2; (focus (intro W hW; (try dsimp only at hW); go_simp; (try with_reducible rfl))); (focus (simp only [Act.put, List.setIfInBounds_toArray]; rfl)))
      (refine AnyGo.take 9 (some 39) ?_ (a' := ?_) rfl (by kernel_rfl) (fun _ _ d _ _ h => by cases d <;> exact h) (by kernel_rfl) (by rfl) (by kernel_rfl) ?_ ?_ ?_; rotate_left 2; (focus (intro W hW; (try dsimp only at hW); go_simp; (try with_reducible rfl))); (focus (simp only [Act.put, List.setIfInBounds_toArray]; rfl)))
      (refine AnyGo.take 10 (some 40) ?_ (a' := ?_) rfl (by kernel_rfl) (fun _ _ d _ _ h => by cases d <;> exact h) (by kernel_rfl) (by rfl) (by kernel_rfl) ?_ ?_ ?_; rotate_left 2; (focus (intro W hW; (try dsimp only at hW); go_simp; (try with_reducible rfl))); (focus (simp only [Act.put, List.setIfInBounds_toArray]; rfl)))
      (refine AnyGo.take 11 (some 41) ?_ (a' := ?_) rfl (by kernel_rfl) (fun _ _ d _ _ h => by cases d <;> exact h) (by kernel_rfl) (by rfl) (by kernel_rfl) ?_ ?_ ?_; rotate_left 2; (focus (intro W hW; (try dsimp only at hW); go_simp; (try with_reducible rfl))); (focus (simp only [Act.put, List.setIfInBounds_toArray]; rfl)))
      (refine AnyGo.take 12 (some 42) ?_ (a' := ?_) rfl (by kernel_rfl) (fun _ _ d _ _ h => by cases d <;> exact h) (by kernel_rfl) (by rfl) (by kernel_rfl) ?_ ?_ ?_; rotate_left 2; (focus (intro W hW; (try dsimp only at hW); go_simp; (try with_reducible rfl))); (focus (simp only [Act.put, List.setIfInBounds_toArray]; rfl)))
      refine AnyGo.one (i := 13) (by kernel_rfl) rfl (by kernel_rfl) (fun K' hK' => ?_)
      go_simp
      refine (HI.out w.drew (HT.out _ HBD.out).2.1).mono ?_
      rintro e w1 ⟨p, T1, rfl, hp, hr, hb⟩
      have HP := keep hp
      have HR := keep hr
      have HB1 := keep (HBD.out.trans (hb.mono HBD.out.size))
      clear hb hp hr
      obtain ⟨d0, d1, d2, -⟩ := (HT.out _ HB1.out).2.2.cells
      refine hK'.out _ _ ⟨d0, d1, d2⟩ ?_
      clear hK' K'
      (try simp only [Act.put, List.setIfInBounds_toArray])
      refine AnyGo.one (i := 14) (by kernel_rfl) rfl (by kernel_rfl) (fun K' hK' => ?_)
      go_simp
      refine (balance_any v (HT.out _ HB1.out).1 HP.out (by have := HN.out; have := HLEN.out; rw [HR.out]; simp; omega)).mono ?_
      rintro e w2 ⟨p, T2, rfl, hp, hr, hb⟩
      have HP2 := keep hp
      have HR2 := keep hr
      have HB2 := keep (HB1.out.trans (hb.mono HB1.out.size))
      clear hb hp hr
      obtain ⟨d0, d1, d2, -⟩ := (HT.out _ HB2.out).2.2.cells
      refine hK'.out _ _ ⟨d0, d1, d2⟩ ?_
      clear hK' K'
      (try simp only [Act.put, List.setIfInBounds_toArray])
      (refine AnyGo.take 15 (some 4) ?_ (a' := ?_) rfl (by kernel_rfl) (fun _ _ d _ _ h => by cases d <;> exact h) (by kernel_rfl) (by rfl) (by kernel_rfl) ?_ ?_ ?_; rotate_left 2; (focus (intro W hW; (try dsimp only at hW); go_simp; (try with_reducible rfl))); (focus (simp only [Act.put, List.setIfInBounds_toArray]; rfl)))
      refine AnyGo.fin (by kernel_rfl) ?_
      go_wp2_with fail
      go_ret
      exact ⟨_, _, rfl, HP2.out, by rw [HR2.out, HR.out]; exact HE.out.symm, HB2.out⟩
    · have HI := keep (fun W hW => ihl x p0 W hW (hu.mid (a := L.row)).2.2.1 (fun c => hx (by simp [BT.row, c])) (by have := HN.out; omega))
      have HE := keep (ins_left (lt := lt') (a := L.row) (b := R.row) hxv)
      have HLEN := keep (ins_length (lt := lt') (x := x) (l := L.row))
      rw [hxv] at HLESS
      clear ihl ihr hu hx hn hxv hb h0 h1
      go_enter Try.func27, Try.ntmps27
      go_wp2_with fail
      refine HLESS.out.mono ?_
      rintro e w' ⟨rfl, rfl⟩
      clear HLESS
      go_wp2_with fail
      refine AnyGo.region (fun W' => W'.cell? ⟨b, 0, none⟩ = some (.pointer p0) ∧ W'.cell? ⟨b, 1, none⟩ = some (.pointer p1) ∧ W'.cell? ⟨b, 2, none⟩ = some (EV v)) (by kernel_rfl) (by rfl) ⟨c0, c1, c2⟩ ?_
      intro wd ewd
      subst ewd
      (refine AnyGo.take 0 (some 15) ?_ (a' := ?_) rfl (by kernel_rfl) (fun _ _ d _ _ h => by cases d <;> exact h) (by kernel_rfl) (by rfl) (by kernel_rfl) ?_ ?_ ?_; rotate_left 2; (focus (intro W hW; (try dsimp only at hW); go_simp; (try with_reducible rfl))); (focus (simp only [Act.put, List.setIfInBounds_toArray]; rfl)))
      (refine AnyGo.take 1 (some 16) ?_ (a' := ?_) rfl (by kernel_rfl) (fun _ _ d _ _ h => by cases d <;> exact h) (by kernel_rfl) (by rfl) (by kernel_rfl) ?_ ?_ ?_; rotate_left 2; (focus (intro W hW; (try dsimp only at hW); go_simp; (try with_reducible rfl))); (focus (simp only [Act.put, List.setIfInBounds_toArray]; rfl)))
      (refine AnyGo.take 2 (some 17) ?_ (a' := ?_) rfl (by kernel_rfl) (fun _ _ d _ _ h => by cases d <;> exact h) (by kernel_rfl) (by rfl) (by kernel_rfl) ?_ ?_ ?_; rotate_left 2; (focus (intro W hW; (try dsimp only at hW); go_simp; (try with_reducible rfl))); (focus (simp only [Act.put, List.setIfInBounds_toArray]; rfl)))
      (refine AnyGo.take 3 (some 18) ?_ (a' := ?_) rfl (by kernel_rfl) (fun _ _ d _ _ h => by cases d <;> exact h) (by kernel_rfl) (by rfl) (by kernel_rfl) ?_ ?_ ?_; rotate_left 2; (focus (intro W hW; (try dsimp only at hW); go_simp; (try with_reducible rfl))); (focus (simp only [Act.put, List.setIfInBounds_toArray]; rfl)))
      (refine AnyGo.take 4 (some 19) ?_ (a' := ?_) rfl (by kernel_rfl) (fun _ _ d _ _ h => by cases d <;> exact h) (by kernel_rfl) (by rfl) (by kernel_rfl) ?_ ?_ ?_; rotate_left 2; (focus (intro W hW; (try dsimp only at hW); go_simp; (try with_reducible rfl))); (focus (simp only [Act.put, List.setIfInBounds_toArray]; rfl)))
      (refine AnyGo.take 6 (some 21) ?_ (a' := ?_) rfl (by kernel_rfl) (fun _ _ d _ _ h => by cases d <;> exact h) (by kernel_rfl) (by rfl) (by kernel_rfl) ?_ ?_ ?_; rotate_left 2; (focus (intro W hW; (try dsimp only at hW); go_simp; (try with_reducible rfl))); (focus (simp only [Act.put, List.setIfInBounds_toArray]; rfl)))
      (refine AnyGo.take 7 (some 22) ?_ (a' := ?_) rfl (by kernel_rfl) (fun _ _ d _ _ h => by cases d <;> exact h) (by kernel_rfl) (by rfl) (by kernel_rfl) ?_ ?_ ?_; rotate_left 2; (focus (intro W hW; (try dsimp only at hW); go_simp; (try with_reducible rfl))); (focus (simp only [Act.put, List.setIfInBounds_toArray]; rfl)))
      (refine AnyGo.take 8 (some 23) ?_ (a' := ?_) rfl (by kernel_rfl) (fun _ _ d _ _ h => by cases d <;> exact h) (by kernel_rfl) (by rfl) (by kernel_rfl) ?_ ?_ ?_; rotate_left 2; (focus (intro W hW; (try dsimp only at hW); go_simp; (try with_reducible rfl))); (focus (simp only [Act.put, List.setIfInBounds_toArray]; rfl)))
      (refine AnyGo.take 9 (some 24) ?_ (a' := ?_) rfl (by kernel_rfl) (fun _ _ d _ _ h => by cases d <;> exact h) (by kernel_rfl) (by rfl) (by kernel_rfl) ?_ ?_ ?_; rotate_left 2; (focus (intro W hW; (try dsimp only at hW); go_simp; (try with_reducible rfl))); (focus (simp only [Act.put, List.setIfInBounds_toArray]; rfl)))
      (refine AnyGo.take 10 (some 25) ?_ (a' := ?_) rfl (by kernel_rfl) (fun _ _ d _ _ h => by cases d <;> exact h) (by kernel_rfl) (by rfl) (by kernel_rfl) ?_ ?_ ?_; rotate_left 2; (focus (intro W hW; (try dsimp only at hW); go_simp; (try with_reducible rfl))); (focus (simp only [Act.put, List.setIfInBounds_toArray]; rfl)))
      (refine AnyGo.take 11 (some 26) ?_ (a' := ?_) rfl (by kernel_rfl) (fun _ _ d _ _ h => by cases d <;> exact h) (by kernel_rfl) (by rfl) (by kernel_rfl) ?_ ?_ ?_; rotate_left 2; (focus (intro W hW; (try dsimp only at hW); go_simp; (try with_reducible rfl))); (focus (simp only [Act.put, List.setIfInBounds_toArray]; rfl)))
      (refine AnyGo.take 12 (some 27) ?_ (a' := ?_) rfl (by kernel_rfl) (fun _ _ d _ _ h => by cases d <;> exact h) (by kernel_rfl) (by rfl) (by kernel_rfl) ?_ ?_ ?_; rotate_left 2; (focus (intro W hW; (try dsimp only at hW); go_simp; (try with_reducible rfl))); (focus (simp only [Act.put, List.setIfInBounds_toArray]; rfl)))
      (refine AnyGo.take 13 (some 28) ?_ (a' := ?_) rfl (by kernel_rfl) (fun _ _ d _ _ h => by cases d <;> exact h) (by kernel_rfl) (by rfl) (by kernel_rfl) ?_ ?_ ?_; rotate_left 2; (focus (intro W hW; (try dsimp only at hW); go_simp; (try with_reducible rfl))); (focus (simp only [Act.put, List.setIfInBounds_toArray]; rfl)))
      refine AnyGo.one (i := 5) (by kernel_rfl) rfl (by kernel_rfl) (fun K' hK' => ?_)
      go_simp
      refine (HI.out w.drew (HT.out _ HBD.out).1).mono ?_
      rintro e w1 ⟨p, T1, rfl, hp, hr, hb⟩
      have HP := keep hp
      have HR := keep hr
      have HB1 := keep (HBD.out.trans (hb.mono HBD.out.size))
      clear hb hp hr
      obtain ⟨d0, d1, d2, -⟩ := (HT.out _ HB1.out).2.2.cells
      refine hK'.out _ _ ⟨d0, d1, d2⟩ ?_
      clear hK' K'
      (try simp only [Act.put, List.setIfInBounds_toArray])
      refine AnyGo.one (i := 14) (by kernel_rfl) rfl (by kernel_rfl) (fun K' hK' => ?_)
      go_simp
      refine (balance_any v HP.out (HT.out _ HB1.out).2.1 (by have := HN.out; have := HLEN.out; rw [HR.out]; simp; omega)).mono ?_
      rintro e w2 ⟨p, T2, rfl, hp, hr, hb⟩
      have HP2 := keep hp
      have HR2 := keep hr
      have HB2 := keep (HB1.out.trans (hb.mono HB1.out.size))
      clear hb hp hr
      obtain ⟨d0, d1, d2, -⟩ := (HT.out _ HB2.out).2.2.cells
      refine hK'.out _ _ ⟨d0, d1, d2⟩ ?_
      clear hK' K'
      (try simp only [Act.put, List.setIfInBounds_toArray])
      (refine AnyGo.take 15 (some 4) ?_ (a' := ?_) rfl (by kernel_rfl) (fun _ _ d _ _ h => by cases d <;> exact h) (by kernel_rfl) (by rfl) (by kernel_rfl) ?_ ?_ ?_; rotate_left 2; (focus (intro W hW; (try dsimp only at hW); go_simp; (try with_reducible rfl))); (focus (simp only [Act.put, List.setIfInBounds_toArray]; rfl)))
      refine AnyGo.fin (by kernel_rfl) ?_
      go_wp2_with fail
      go_ret
      exact ⟨_, _, rfl, HP2.out, by rw [HR2.out, HR.out]; exact HE.out.symm, HB2.out⟩

end Go.Proofs.Ytjfgnmkgljljbaa
