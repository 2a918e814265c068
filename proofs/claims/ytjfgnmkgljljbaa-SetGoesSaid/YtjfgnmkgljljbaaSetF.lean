/-
  Sets: the lowest thing; the tree without one.
-/
import Derived.Test.YtjfgnmkgljljbaaSetE
import Derived.Test.YtjfgnmkgljljbaaSetG
namespace Go.Proofs.Ytjfgnmkgljljbaa
open Go.RowKit

set_option maxHeartbeats 1000000 in
theorem first_any (p : Option Addr) (T : BT Int) (y : Int) (l : List Int) (w : World) (h : IsT w p T) (ht : T.row = y :: l) :
    Calls Try.prog 42 #[.pointer p] w fun e w' => e = .returned (EV y) ∧ w = w' := by
  have H0 : Keep (IsT w p T ∧ ∃ m, T.row = y :: m) := ⟨h, l, ht⟩
  clear h ht
  go_enter Try.func42, Try.ntmps42
  go_wp2_with fail
  go_loop [0] (fun v => ∃ (q : Option Addr) (T' : BT Int), v = .pointer q ∧ Keep (IsT w q T' ∧ ∃ m, T'.row = y :: m)) (fun v => cnt w v)
  case atStart => exact ⟨p, T, rfl, H0⟩
  case round =>
    obtain ⟨q, T', rfl, HK⟩ := hrel
    have HC := keep (cnt_eq HK.out.1)
    cases T' with
    | leaf => obtain ⟨m, hm⟩ := HK.out.2; cases hm
    | node L v R =>
      obtain ⟨b, p0, p1, rfl, hb, h0, h1⟩ := HK.out.1
      obtain ⟨c0, c1, c2, -⟩ := hb.cells
      cases L with
      | leaf =>
        obtain rfl : p0 = none := h0
        have HV : Keep (EV v = EV y) := ⟨by obtain ⟨m, hm⟩ := HK.out.2; simp [BT.row] at hm; rw [hm.1]⟩
        clear hb h1
        go_wp2_with fail
        go_ret
        exact ⟨by rw [HV.out]; rfl, rfl⟩
      | node LL u LR =>
        have HL := keep h0
        have HC2 := keep (cnt_eq h0)
        have HM : Keep (∃ m, (BT.node LL u LR).row = y :: m) := ⟨by
          obtain ⟨m, hm⟩ := HK.out.2
          rw [BT.row] at hm
          cases e : (BT.node LL u LR).row with
          | nil => simp [BT.row] at e
          | cons z k => rw [e] at hm; simp at hm; exact ⟨k, by rw [hm.1]⟩⟩
        obtain ⟨b', q0, q1, rfl, -⟩ := h0
        clear hb h1
        go_wp2_with fail
        go_round
        case rel => exact ⟨_, _, rfl, ⟨HL.out, HM.out⟩⟩
        case measure => rw [HC.out, HC2.out]; simp [BT.row]

set_option maxHeartbeats 2000000 in
theorem without_any (T : BT Int) : ∀ (x : Int) (p : Option Addr) (w : World), IsT w p T → Up lt' T.row → x ∈ T.row → T.row.length + 1 ≤ 1000000 →
    Calls Try.prog 28 #[.pointer p, EV x] w fun e w' => TT w (del lt' x T.row) e w' := by
  induction T with
  | leaf => intro x p w _ _ hx; cases hx
  | node L v R ihl ihr =>
    intro x p w h hu hx hn
    obtain ⟨b, p0, p1, rfl, hb, h0, h1⟩ := h
    obtain ⟨c0, c1, c2, -⟩ := hb.cells
    have HBD := keep ((Below.refl w.heap.size w).drew)
    have HT : Keep (∀ W, Below w.heap.size w W → IsT W p0 L ∧ IsT W p1 R ∧ NdAt W b p0 v p1 (L.row.length + 1 + R.row.length)) := ⟨fun W h => ⟨h0.below h, h1.below h, hb.below h⟩⟩
    have HN : Keep (L.row.length + 1 + R.row.length + 1 ≤ 1000000) := ⟨by simp [BT.row] at hn; omega⟩
    have HCOMP := keep (comp_any x v w)
    cases hxv : lt' x v
    · cases hvx : lt' v x
      · have e := hlt'.tri x v hxv hvx
        subst e
        have HE := keep (del_mid hlt' (a := L.row) (b := R.row) hu)
        have HUR := keep (hu.mid (a := L.row)).2.2.2
        cases R with
        | leaf =>
          obtain rfl : p1 = none := h1
          clear ihl ihr hu hx hn hxv hvx hb h0
          go_enter Try.func28, Try.ntmps28
          go_wp2_with fail
          refine HCOMP.out.mono ?_
          rintro e w' ⟨⟨n, rfl, hn⟩, rfl⟩
          obtain rfl : n = 0 := by
            rcases hn with ⟨_, h⟩ | ⟨_, h⟩ | ⟨h, _⟩
            · rw [hlt'.irr] at h; cases h
            · rw [hlt'.irr] at h; cases h
            · exact h
          clear hn HCOMP
          go_wp2_with fail
          go_ret
          exact ⟨_, _, rfl, (HT.out _ (Below.refl _ _)).1, by have := HE.out; simp [BT.row] at this; exact this.symm, Below.refl _ _⟩
        | node RL u RR =>
          obtain ⟨nx, rest, hrow⟩ : ∃ nx rest, (BT.node RL u RR).row = nx :: rest := by
            cases e : (BT.node RL u RR).row with
            | nil => simp [BT.row] at e
            | cons z k => exact ⟨z, k, rfl⟩
          have HROW := keep hrow
          have HF := keep (fun W hW => first_any p1 (.node RL u RR) nx rest W hW hrow)
          have HI := keep (fun W hW => ihr nx p1 W hW HUR.out (by rw [hrow]; simp) (by have := HN.out; omega))
          have HD : Keep (del lt' nx (BT.node RL u RR).row = rest) := ⟨by have := HUR.out; rw [hrow] at this ⊢; exact del_mid hlt' (a := []) this⟩
          have HP1 := keep h1
          generalize BT.node RL u RR = R at *
          have hne : ∃ bb, p1 = some ⟨bb, 0, none⟩ := by
            cases R with
            | leaf => cases hrow
            | node A c D => obtain ⟨bb, _, _, h, _⟩ := h1; exact ⟨bb, h⟩
          obtain ⟨bb, rfl⟩ := hne
          clear ihl ihr hu hx hn hxv hvx hb h0 h1 hrow
          go_enter Try.func28, Try.ntmps28
          go_wp2_with fail
          refine HCOMP.out.mono ?_
          rintro e w' ⟨⟨n, rfl, hn⟩, rfl⟩
          obtain rfl : n = 0 := by
            rcases hn with ⟨_, h⟩ | ⟨_, h⟩ | ⟨h, _⟩
            · rw [hlt'.irr] at h; cases h
            · rw [hlt'.irr] at h; cases h
            · exact h
          clear hn HCOMP
          go_wp2_with fail
          refine (HF.out w HP1.out).mono ?_
          rintro e w' ⟨rfl, rfl⟩
          go_wp2_with fail
          refine AnyGo.region (fun W' => W'.cell? ⟨b, 0, none⟩ = some (.pointer p0) ∧ W'.cell? ⟨b, 1, none⟩ = some (.pointer (some ⟨bb, 0, none⟩))) (by kernel_rfl) (by rfl) ⟨c0, c1⟩ ?_
          intro wd ewd
          subst ewd
          (refine AnyGo.take 0 (some 61) ?_ (a' := ?_) rfl (by kernel_rfl) (fun _ _ d _ _ h => by cases d <;> exact h) (by kernel_rfl) (by rfl) (by kernel_rfl) ?_ ?_ ?_; rotate_left 2; (focus (intro W hW; (try dsimp only at hW); go_simp; (try with_reducible rfl))); (focus (simp only [Act.put, List.setIfInBounds_toArray]; rfl)))
          (refine AnyGo.take 1 (some 62) ?_ (a' := ?_) rfl (by kernel_rfl) (fun _ _ d _ _ h => by cases d <;> exact h) (by kernel_rfl) (by rfl) (by kernel_rfl) ?_ ?_ ?_; rotate_left 2; (focus (intro W hW; (try dsimp only at hW); go_simp; (try with_reducible rfl))); (focus (simp only [Act.put, List.setIfInBounds_toArray]; rfl)))
          (refine AnyGo.take 2 (some 63) ?_ (a' := ?_) rfl (by kernel_rfl) (fun _ _ d _ _ h => by cases d <;> exact h) (by kernel_rfl) (by rfl) (by kernel_rfl) ?_ ?_ ?_; rotate_left 2; (focus (intro W hW; (try dsimp only at hW); go_simp; (try with_reducible rfl))); (focus (simp only [Act.put, List.setIfInBounds_toArray]; rfl)))
          (refine AnyGo.take 3 (some 64) ?_ (a' := ?_) rfl (by kernel_rfl) (fun _ _ d _ _ h => by cases d <;> exact h) (by kernel_rfl) (by rfl) (by kernel_rfl) ?_ ?_ ?_; rotate_left 2; (focus (intro W hW; (try dsimp only at hW); go_simp; (try with_reducible rfl))); (focus (simp only [Act.put, List.setIfInBounds_toArray]; rfl)))
          (refine AnyGo.take 4 (some 65) ?_ (a' := ?_) rfl (by kernel_rfl) (fun _ _ d _ _ h => by cases d <;> exact h) (by kernel_rfl) (by rfl) (by kernel_rfl) ?_ ?_ ?_; rotate_left 2; (focus (intro W hW; (try dsimp only at hW); go_simp; (try with_reducible rfl))); (focus (simp only [Act.put, List.setIfInBounds_toArray]; rfl)))
          (refine AnyGo.take 5 (some 66) ?_ (a' := ?_) rfl (by kernel_rfl) (fun _ _ d _ _ h => by cases d <;> exact h) (by kernel_rfl) (by rfl) (by kernel_rfl) ?_ ?_ ?_; rotate_left 2; (focus (intro W hW; (try dsimp only at hW); go_simp; (try with_reducible rfl))); (focus (simp only [Act.put, List.setIfInBounds_toArray]; rfl)))
          (refine AnyGo.take 6 (some 67) ?_ (a' := ?_) rfl (by kernel_rfl) (fun _ _ d _ _ h => by cases d <;> exact h) (by kernel_rfl) (by rfl) (by kernel_rfl) ?_ ?_ ?_; rotate_left 2; (focus (intro W hW; (try dsimp only at hW); go_simp; (try with_reducible rfl))); (focus (simp only [Act.put, List.setIfInBounds_toArray]; rfl)))
          (refine AnyGo.take 7 (some 68) ?_ (a' := ?_) rfl (by kernel_rfl) (fun _ _ d _ _ h => by cases d <;> exact h) (by kernel_rfl) (by rfl) (by kernel_rfl) ?_ ?_ ?_; rotate_left 2; (focus (intro W hW; (try dsimp only at hW); go_simp; (try with_reducible rfl))); (focus (simp only [Act.put, List.setIfInBounds_toArray]; rfl)))
          (refine AnyGo.take 8 (some 69) ?_ (a' := ?_) rfl (by kernel_rfl) (fun _ _ d _ _ h => by cases d <;> exact h) (by kernel_rfl) (by rfl) (by kernel_rfl) ?_ ?_ ?_; rotate_left 2; (focus (intro W hW; (try dsimp only at hW); go_simp; (try with_reducible rfl))); (focus (simp only [Act.put, List.setIfInBounds_toArray]; rfl)))
          (refine AnyGo.take 9 (some 70) ?_ (a' := ?_) rfl (by kernel_rfl) (fun _ _ d _ _ h => by cases d <;> exact h) (by kernel_rfl) (by rfl) (by kernel_rfl) ?_ ?_ ?_; rotate_left 2; (focus (intro W hW; (try dsimp only at hW); go_simp; (try with_reducible rfl))); (focus (simp only [Act.put, List.setIfInBounds_toArray]; rfl)))
          refine AnyGo.one (i := 10) (by kernel_rfl) rfl (by kernel_rfl) (fun K' hK' => ?_)
          go_simp
          refine (HI.out w.drew (HT.out _ HBD.out).2.1).mono ?_
          rintro e w1 ⟨p, T1, rfl, hp, hr, hb⟩
          rw [HD.out] at hr
          have HP := keep hp
          have HR := keep hr
          have HB1 := keep (HBD.out.trans (hb.mono HBD.out.size))
          clear hb hp hr
          obtain ⟨d0, d1, d2, -⟩ := (HT.out _ HB1.out).2.2.cells
          refine hK'.out _ _ ⟨d0, d1⟩ ?_
          clear hK' K'
          (try simp only [Act.put, List.setIfInBounds_toArray])
          refine AnyGo.one (i := 11) (by kernel_rfl) rfl (by kernel_rfl) (fun K' hK' => ?_)
          go_simp
          refine (balance_any nx (HT.out _ HB1.out).1 HP.out (by have := HN.out; rw [HROW.out] at this; rw [HR.out]; simp at this ⊢; omega)).mono ?_
          rintro e w2 ⟨p, T2, rfl, hp, hr, hb⟩
          have HP2 := keep hp
          have HR2 := keep hr
          have HB2 := keep (HB1.out.trans (hb.mono HB1.out.size))
          clear hb hp hr
          obtain ⟨d0, d1, d2, -⟩ := (HT.out _ HB2.out).2.2.cells
          refine hK'.out _ _ ⟨d0, d1⟩ ?_
          clear hK' K'
          (try simp only [Act.put, List.setIfInBounds_toArray])
          (refine AnyGo.take 12 (some 4) ?_ (a' := ?_) rfl (by kernel_rfl) (fun _ _ d _ _ h => by cases d <;> exact h) (by kernel_rfl) (by rfl) (by kernel_rfl) ?_ ?_ ?_; rotate_left 2; (focus (intro W hW; (try dsimp only at hW); go_simp; (try with_reducible rfl))); (focus (simp only [Act.put, List.setIfInBounds_toArray]; rfl)))
          refine AnyGo.fin (by kernel_rfl) ?_
          go_wp2_with fail
          go_ret
          exact ⟨_, _, rfl, HP2.out, by rw [HR2.out, HR.out, ← HROW.out]; exact HE.out.symm, HB2.out⟩
      · have HI := keep (fun W hW => ihr x p1 W hW (hu.mid (a := L.row)).2.2.2 (mem_right hlt' hu hvx hx) (by have := HN.out; omega))
        have HE := keep (del_right hlt' (a := L.row) (b := R.row) hu hvx)
        have HLEN := keep (del_length (lt := lt') (x := x) (l := R.row))
        clear ihl ihr hu hx hn hb h0 h1
        go_enter Try.func28, Try.ntmps28
        go_wp2_with fail
        refine HCOMP.out.mono ?_
        rintro e w' ⟨⟨n, rfl, hn⟩, rfl⟩
        have hpos : 0 < n := by
          rcases hn with ⟨_, h⟩ | ⟨h, _⟩ | ⟨_, h⟩
          · rw [hxv] at h; cases h
          · exact h
          · subst h; rw [hlt'.irr] at hvx; cases hvx
        clear hn HCOMP hxv hvx
        go_wp2_with fail
        refine AnyGo.region (fun W' => W'.cell? ⟨b, 0, none⟩ = some (.pointer p0) ∧ W'.cell? ⟨b, 1, none⟩ = some (.pointer p1) ∧ W'.cell? ⟨b, 2, none⟩ = some (EV v)) (by kernel_rfl) (by rfl) ⟨c0, c1, c2⟩ ?_
        intro wd ewd
        subst ewd
        (refine AnyGo.take 0 (some 32) ?_ (a' := ?_) rfl (by kernel_rfl) (fun _ _ d _ _ h => by cases d <;> exact h) (by kernel_rfl) (by rfl) (by kernel_rfl) ?_ ?_ ?_; rotate_left 2; (focus (intro W hW; (try dsimp only at hW); go_simp; (try with_reducible rfl))); (focus (simp only [Act.put, List.setIfInBounds_toArray]; rfl)))
        (refine AnyGo.take 1 (some 33) ?_ (a' := ?_) rfl (by kernel_rfl) (fun _ _ d _ _ h => by cases d <;> exact h) (by kernel_rfl) (by rfl) (by kernel_rfl) ?_ ?_ ?_; rotate_left 2; (focus (intro W hW; (try dsimp only at hW); go_simp; (try with_reducible rfl))); (focus (simp only [Act.put, List.setIfInBounds_toArray]; rfl)))
        (refine AnyGo.take 2 (some 34) ?_ (a' := ?_) rfl (by kernel_rfl) (fun _ _ d _ _ h => by cases d <;> exact h) (by kernel_rfl) (by rfl) (by kernel_rfl) ?_ ?_ ?_; rotate_left 2; (focus (intro W hW; (try dsimp only at hW); go_simp; (try with_reducible rfl))); (focus (simp only [Act.put, List.setIfInBounds_toArray]; rfl)))
        (refine AnyGo.take 3 (some 35) ?_ (a' := ?_) rfl (by kernel_rfl) (fun _ _ d _ _ h => by cases d <;> exact h) (by kernel_rfl) (by rfl) (by kernel_rfl) ?_ ?_ ?_; rotate_left 2; (focus (intro W hW; (try dsimp only at hW); go_simp; (try with_reducible rfl))); (focus (simp only [Act.put, List.setIfInBounds_toArray]; rfl)))
        (refine AnyGo.take 4 (some 36) ?_ (a' := ?_) rfl (by kernel_rfl) (fun _ _ d _ _ h => by cases d <;> exact h) (by kernel_rfl) (by rfl) (by kernel_rfl) ?_ ?_ ?_; rotate_left 2; (focus (intro W hW; (try dsimp only at hW); go_simp; (try with_reducible rfl))); (focus (simp only [Act.put, List.setIfInBounds_toArray]; rfl)))
        (refine AnyGo.take 5 (some 37) ?_ (a' := ?_) rfl (by kernel_rfl) (fun _ _ d _ _ h => by cases d <;> exact h) (by kernel_rfl) (by rfl) (by kernel_rfl) ?_ ?_ ?_; rotate_left 2; (focus (intro W hW; (try dsimp only at hW); go_simp; (try with_reducible rfl))); (focus (simp only [Act.put, List.setIfInBounds_toArray]; rfl)))
        (refine AnyGo.take 6 (some 38) ?_ (a' := ?_) rfl (by kernel_rfl) (fun _ _ d _ _ h => by cases d <;> exact h) (by kernel_rfl) (by rfl) (by kernel_rfl) ?_ ?_ ?_; rotate_left 2; (focus (intro W hW; (try dsimp only at hW); go_simp; (try with_reducible rfl))); (focus (simp only [Act.put, List.setIfInBounds_toArray]; rfl)))
        (refine AnyGo.take 7 (some 39) ?_ (a' := ?_) rfl (by kernel_rfl) (fun _ _ d _ _ h => by cases d <;> exact h) (by kernel_rfl) (by rfl) (by kernel_rfl) ?_ ?_ ?_; rotate_left 2; (focus (intro W hW; (try dsimp only at hW); go_simp; (try with_reducible rfl))); (focus (simp only [Act.put, List.setIfInBounds_toArray]; rfl)))
        (refine AnyGo.take 8 (some 40) ?_ (a' := ?_) rfl (by kernel_rfl) (fun _ _ d _ _ h => by cases d <;> exact h) (by kernel_rfl) (by rfl) (by kernel_rfl) ?_ ?_ ?_; rotate_left 2; (focus (intro W hW; (try dsimp only at hW); go_simp; (try with_reducible rfl))); (focus (simp only [Act.put, List.setIfInBounds_toArray]; rfl)))
        (refine AnyGo.take 9 (some 41) ?_ (a' := ?_) rfl (by kernel_rfl) (fun _ _ d _ _ h => by cases d <;> exact h) (by kernel_rfl) (by rfl) (by kernel_rfl) ?_ ?_ ?_; rotate_left 2; (focus (intro W hW; (try dsimp only at hW); go_simp; (try with_reducible rfl))); (focus (simp only [Act.put, List.setIfInBounds_toArray]; rfl)))
        (refine AnyGo.take 10 (some 42) ?_ (a' := ?_) rfl (by kernel_rfl) (fun _ _ d _ _ h => by cases d <;> exact h) (by kernel_rfl) (by rfl) (by kernel_rfl) ?_ ?_ ?_; rotate_left 2; (focus (intro W hW; (try dsimp only at hW); go_simp; (try with_reducible rfl))); (focus (simp only [Act.put, List.setIfInBounds_toArray]; rfl)))
        (refine AnyGo.take 11 (some 43) ?_ (a' := ?_) rfl (by kernel_rfl) (fun _ _ d _ _ h => by cases d <;> exact h) (by kernel_rfl) (by rfl) (by kernel_rfl) ?_ ?_ ?_; rotate_left 2; (focus (intro W hW; (try dsimp only at hW); go_simp; (try with_reducible rfl))); (focus (simp only [Act.put, List.setIfInBounds_toArray]; rfl)))
        (refine AnyGo.take 12 (some 44) ?_ (a' := ?_) rfl (by kernel_rfl) (fun _ _ d _ _ h => by cases d <;> exact h) (by kernel_rfl) (by rfl) (by kernel_rfl) ?_ ?_ ?_; rotate_left 2; (focus (intro W hW; (try dsimp only at hW); go_simp; (try with_reducible rfl))); (focus (simp only [Act.put, List.setIfInBounds_toArray]; rfl)))
        refine AnyGo.one (i := 13) (by kernel_rfl) rfl (by kernel_rfl) (fun K' hK' => ?_)
        go_simp
        refine (HI.out w.drew (HT.out _ HBD.out).2.1).mono ?_
        rintro e w1 ⟨p, T1, rfl, hp, hr, hb⟩
        have HP := keep hp
        have HR := keep hr
        have HB1 := keep (HBD.out.trans (hb.mono HBD.out.size))
        clear hb hp hr
        obtain ⟨d0, d1, d2, -⟩ := (HT.out _ HB1.out).2.2.cells
        refine hK'.out _ _ ⟨d0, d1, d2⟩ ?_
        clear hK' K'
        (try simp only [Act.put, List.setIfInBounds_toArray])
        refine AnyGo.one (i := 14) (by kernel_rfl) rfl (by kernel_rfl) (fun K' hK' => ?_)
        go_simp
        refine (balance_any v (HT.out _ HB1.out).1 HP.out (by have := HN.out; have := HLEN.out; rw [HR.out]; simp; omega)).mono ?_
        rintro e w2 ⟨p, T2, rfl, hp, hr, hb⟩
        have HP2 := keep hp
        have HR2 := keep hr
        have HB2 := keep (HB1.out.trans (hb.mono HB1.out.size))
        clear hb hp hr
        obtain ⟨d0, d1, d2, -⟩ := (HT.out _ HB2.out).2.2.cells
        refine hK'.out _ _ ⟨d0, d1, d2⟩ ?_
        clear hK' K'
        (try simp only [Act.put, List.setIfInBounds_toArray])
        (refine AnyGo.take 15 (some 4) ?_ (a' := ?_) rfl (by kernel_rfl) (fun _ _ d _ _ h => by cases d <;> exact h) (by kernel_rfl) (by rfl) (by kernel_rfl) ?_ ?_ ?_; rotate_left 2; (focus (intro W hW; (try dsimp only at hW); go_simp; (try with_reducible rfl))); (focus (simp only [Act.put, List.setIfInBounds_toArray]; rfl)))
        refine AnyGo.fin (by kernel_rfl) ?_
        go_wp2_with fail
        go_ret
        exact ⟨_, _, rfl, HP2.out, by rw [HR2.out, HR.out]; exact HE.out.symm, HB2.out⟩
    · have HI := keep (fun W hW => ihl x p0 W hW (hu.mid (a := L.row)).2.2.1 (mem_left hlt' hu hxv hx) (by have := HN.out; omega))
      have HE := keep (del_left hlt' (a := L.row) (b := R.row) hu hxv)
      have HLEN := keep (del_length (lt := lt') (x := x) (l := L.row))
      clear ihl ihr hu hx hn hb h0 h1
      go_enter Try.func28, Try.ntmps28
      go_wp2_with fail
      refine HCOMP.out.mono ?_
      rintro e w' ⟨⟨n, rfl, hn⟩, rfl⟩
      have hneg : n < 0 := by
        rcases hn with ⟨h, _⟩ | ⟨_, h⟩ | ⟨_, h⟩
        · exact h
        · rw [hlt'.asymm hxv] at h; cases h
        · subst h; rw [hlt'.irr] at hxv; cases hxv
      clear hn HCOMP hxv
      go_wp2_with fail
      refine AnyGo.region (fun W' => W'.cell? ⟨b, 0, none⟩ = some (.pointer p0) ∧ W'.cell? ⟨b, 1, none⟩ = some (.pointer p1) ∧ W'.cell? ⟨b, 2, none⟩ = some (EV v)) (by kernel_rfl) (by rfl) ⟨c0, c1, c2⟩ ?_
      intro wd ewd
      subst ewd
      (refine AnyGo.take 0 (some 15) ?_ (a' := ?_) rfl (by kernel_rfl) (fun _ _ d _ _ h => by cases d <;> exact h) (by kernel_rfl) (by rfl) (by kernel_rfl) ?_ ?_ ?_; rotate_left 2; (focus (intro W hW; (try dsimp only at hW); go_simp; (try with_reducible rfl))); (focus (simp only [Act.put, List.setIfInBounds_toArray]; rfl)))
      (refine AnyGo.take 1 (some 16) ?_ (a' := ?_) rfl (by kernel_rfl) (fun _ _ d _ _ h => by cases d <;> exact h) (by kernel_rfl) (by rfl) (by kernel_rfl) ?_ ?_ ?_; rotate_left 2; (focus (intro W hW; (try dsimp only at hW); go_simp; (try with_reducible rfl))); (focus (simp only [Act.put, List.setIfInBounds_toArray]; rfl)))
      (refine AnyGo.take 2 (some 17) ?_ (a' := ?_) rfl (by kernel_rfl) (fun _ _ d _ _ h => by cases d <;> exact h) (by kernel_rfl) (by rfl) (by kernel_rfl) ?_ ?_ ?_; rotate_left 2; (focus (intro W hW; (try dsimp only at hW); go_simp; (try with_reducible rfl))); (focus (simp only [Act.put, List.setIfInBounds_toArray]; rfl)))
      (refine AnyGo.take 3 (some 18) ?_ (a' := ?_) rfl (by kernel_rfl) (fun _ _ d _ _ h => by cases d <;> exact h) (by kernel_rfl) (by rfl) (by kernel_rfl) ?_ ?_ ?_; rotate_left 2; (focus (intro W hW; (try dsimp only at hW); go_simp; (try with_reducible rfl))); (focus (simp only [Act.put, List.setIfInBounds_toArray]; rfl)))
      (refine AnyGo.take 4 (some 19) ?_ (a' := ?_) rfl (by kernel_rfl) (fun _ _ d _ _ h => by cases d <;> exact h) (by kernel_rfl) (by rfl) (by kernel_rfl) ?_ ?_ ?_; rotate_left 2; (focus (intro W hW; (try dsimp only at hW); go_simp; (try with_reducible rfl))); (focus (simp only [Act.put, List.setIfInBounds_toArray]; rfl)))
      (refine AnyGo.take 6 (some 21) ?_ (a' := ?_) rfl (by kernel_rfl) (fun _ _ d _ _ h => by cases d <;> exact h) (by kernel_rfl) (by rfl) (by kernel_rfl) ?_ ?_ ?_; rotate_left 2; (focus (intro W hW; (try dsimp only at hW); go_simp; (try with_reducible rfl))); (focus (simp only [Act.put, List.setIfInBounds_toArray]; rfl)))
      (refine AnyGo.take 7 (some 22) ?_ (a' := ?_) rfl (by kernel_rfl) (fun _ _ d _ _ h => by cases d <;> exact h) (by kernel_rfl) (by rfl) (by kernel_rfl) ?_ ?_ ?_; rotate_left 2; (focus (intro W hW; (try dsimp only at hW); go_simp; (try with_reducible rfl))); (focus (simp only [Act.put, List.setIfInBounds_toArray]; rfl)))
      (refine AnyGo.take 8 (some 23) ?_ (a' := ?_) rfl (by kernel_rfl) (fun _ _ d _ _ h => by cases d <;> exact h) (by kernel_rfl) (by rfl) (by kernel_rfl) ?_ ?_ ?_; rotate_left 2; (focus (intro W hW; (try dsimp only at hW); go_simp; (try with_reducible rfl))); (focus (simp only [Act.put, List.setIfInBounds_toArray]; rfl)))
      (refine AnyGo.take 9 (some 24) ?_ (a' := ?_) rfl (by kernel_rfl) (fun _ _ d _ _ h => by cases d <;> exact h) (by kernel_rfl) (by rfl) (by kernel_rfl) ?_ ?_ ?_; rotate_left 2; (focus (intro W hW; (try dsimp only at hW); go_simp; (try with_reducible rfl))); (focus (simp only [Act.put, List.setIfInBounds_toArray]; rfl)))
      (refine AnyGo.take 10 (some 25) ?_ (a' := ?_) rfl (by kernel_rfl) (fun _ _ d _ _ h => by cases d <;> exact h) (by kernel_rfl) (by rfl) (by kernel_rfl) ?_ ?_ ?_; rotate_left 2; (focus (intro W hW; (try dsimp only at hW); go_simp; (try with_reducible rfl))); (focus (simp only [Act.put, List.setIfInBounds_toArray]; rfl)))
      (refine AnyGo.take 11 (some 26) ?_ (a' := ?_) rfl (by kernel_rfl) (fun _ _ d _ _ h => by cases d <;> exact h) (by kernel_rfl) (by rfl) (by kernel_rfl) ?_ ?_ ?_; rotate_left 2; (focus (intro W hW; (try dsimp only at hW); go_simp; (try with_reducible rfl))); (focus (simp only [Act.put, List.setIfInBounds_toArray]; rfl)))
      (refine AnyGo.take 12 (some 27) ?_ (a' := ?_) rfl (by kernel_rfl) (fun _ _ d _ _ h => by cases d <;> exact h) (by kernel_rfl) (by rfl) (by kernel_rfl) ?_ ?_ ?_; rotate_left 2; (focus (intro W hW; (try dsimp only at hW); go_simp; (try with_reducible rfl))); (focus (simp only [Act.put, List.setIfInBounds_toArray]; rfl)))
      (refine AnyGo.take 13 (some 28) ?_ (a' := ?_) rfl (by kernel_rfl) (fun _ _ d _ _ h => by cases d <;> exact h) (by kernel_rfl) (by rfl) (by kernel_rfl) ?_ ?_ ?_; rotate_left 2; (focus (intro W hW; (try dsimp only at hW); go_simp; (try with_reducible rfl))); (focus (simp only [Act.put, List.setIfInBounds_toArray]; rfl)))
      refine AnyGo.one (i := 5) (by kernel_rfl) rfl (by kernel_rfl) (fun K' hK' => ?_)
      go_simp
      refine (HI.out w.drew (HT.out _ HBD.out).1).mono ?_
      rintro e w1 ⟨p, T1, rfl, hp, hr, hb⟩
      have HP := keep hp
      have HR := keep hr
      have HB1 := keep (HBD.out.trans (hb.mono HBD.out.size))
      clear hb hp hr
      obtain ⟨d0, d1, d2, -⟩ := (HT.out _ HB1.out).2.2.cells
      refine hK'.out _ _ ⟨d0, d1, d2⟩ ?_
      clear hK' K'
      (try simp only [Act.put, List.setIfInBounds_toArray])
      refine AnyGo.one (i := 14) (by kernel_rfl) rfl (by kernel_rfl) (fun K' hK' => ?_)
      go_simp
      refine (balance_any v HP.out (HT.out _ HB1.out).2.1 (by have := HN.out; have := HLEN.out; rw [HR.out]; simp; omega)).mono ?_
      rintro e w2 ⟨p, T2, rfl, hp, hr, hb⟩
      have HP2 := keep hp
      have HR2 := keep hr
      have HB2 := keep (HB1.out.trans (hb.mono HB1.out.size))
      clear hb hp hr
      obtain ⟨d0, d1, d2, -⟩ := (HT.out _ HB2.out).2.2.cells
      refine hK'.out _ _ ⟨d0, d1, d2⟩ ?_
      clear hK' K'
      (try simp only [Act.put, List.setIfInBounds_toArray])
      (refine AnyGo.take 15 (some 4) ?_ (a' := ?_) rfl (by kernel_rfl) (fun _ _ d _ _ h => by cases d <;> exact h) (by kernel_rfl) (by rfl) (by kernel_rfl) ?_ ?_ ?_; rotate_left 2; (focus (intro W hW; (try dsimp only at hW); go_simp; (try with_reducible rfl))); (focus (simp only [Act.put, List.setIfInBounds_toArray]; rfl)))
      refine AnyGo.fin (by kernel_rfl) ?_
      go_wp2_with fail
      go_ret
      exact ⟨_, _, rfl, HP2.out, by rw [HR2.out, HR.out]; exact HE.out.symm, HB2.out⟩
end Go.Proofs.Ytjfgnmkgljljbaa
