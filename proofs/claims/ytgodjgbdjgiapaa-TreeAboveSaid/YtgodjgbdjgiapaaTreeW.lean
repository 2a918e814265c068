/-
  The document's row of classes, given that pieces further on are told right.
-/
import Derived.Test.YtgodjgbdjgiapaaTreeQ
namespace Go.Proofs.Ytgodjgbdjgiapaa
open Go.RowKit Go.Joins

theorem one_of (cs : List UInt8) (k : Nat) (h : k < cs.length) : (str cs).extract k (k + 1) = str [cs[k]] := by
  rw [extract_is, str_data, List.drop_eq_getElem_cons h, show k + 1 - k = 1 by omega]; rfl
/-- Between two rounds of row. -/
structure RowIn (l : List Nd) (w : World) (cs : List UInt8) (k : Nat) (R : Nat × Bool) (g : Nat × Bool) (W : World) : Prop where
  box : BoxL W w.heap.size [.int .i64 (g.1 : Int), .bool g.2]
  res : BoxL W (w.heap.size + 1) [.int .i64 0, .bool false]
  below : Below w.heap.size w W
  left : goR l (cs.drop k) g = R
  hi : g.1 ≤ l.length

set_option maxRecDepth 100000 in
set_option maxHeartbeats 4000000 in
theorem row_in (v : Value) (l : List Nd) (B lo : Nat) (HT : Tells v l B lo) (cs : List UInt8) (hcs : cs.length ≤ 1000) (hoc : cs.all okC = true) (g : Nat × Bool) (hlo : lo ≤ g.1) (hhi : g.1 ≤ l.length) (w : World) (hrow : NdRow B w v l) (hB : B ≤ w.heap.size) :
    Calls Try.prog 46 #[v, cur g, .string (str cs)] w fun e w' => CurIs (goR l cs g) w e w' := by
  have HTT := keep HT
  have HLO := keep hlo
  have HOC : Keep (∀ k (h : k < cs.length), okC cs[k] = true) := ⟨fun k h => List.all_eq_true.1 hoc _ (List.getElem_mem h)⟩
  have HBB := keep hB
  have HROW := keep (fun W (hW : Below w.heap.size w W) => hrow.below (hW.mono hB))
  have HONE := keep (one_of cs)
  have hz : (str cs).size = cs.length := str_size cs
  have HZ := keep hz
  obtain ⟨a, b⟩ := g
  unfold cur CurIs cur
  simp only at hlo hhi HLO ⊢
  obtain ⟨R, hR⟩ : ∃ R, R = goR l cs (a, b) := ⟨_, rfl⟩
  rw [← hR]
  have hb0 : Below w.heap.size w ((w.alloc (.cells #[.int .i64 (a : Int), .bool b] 53)).alloc (.cells #[.int .i64 0, .bool false] 53)) := ((Below.refl _ w).alloc (Nat.le_refl _) _).alloc (by simp) _
  have hres := BoxL.new (w.alloc (.cells #[.int .i64 (a : Int), .bool b] 53)) [.int .i64 0, .bool false] 53
  rw [World.size_alloc] at hres
  have H0 : Keep (RowIn l w cs 0 R (a, b) ((w.alloc (.cells #[.int .i64 (a : Int), .bool b] 53)).alloc (.cells #[.int .i64 0, .bool false] 53))) :=
    ⟨⟨(BoxL.new w [.int .i64 (a : Int), .bool b] 53).alloc _, hres, hb0, by rw [hR]; simp, hhi⟩⟩
  obtain ⟨o, cap, rfl, -⟩ := hrow.form
  generalize str cs = s at *
  have hsI : (s.size : Int) ≤ 1000 := by omega
  clear HT hlo hhi hrow hB hR hb0 hres hz hcs hoc
  go_enter Try.func46, Try.ntmps46
  go_wp2_with fail
  go_loopw [7] (fun kv wr => ∃ (k : Nat) (g : Nat × Bool), kv = .int .i64 (k : Int) ∧ k ≤ s.size ∧ Keep (lo ≤ g.1 ∧ RowIn l w cs k R g wr)) (fun kv _ => s.size - (intOf kv).toNat)
  case atStart => exact ⟨0, (a, b), rfl, Nat.zero_le _, ⟨HLO.out, H0.out⟩⟩
  case round =>
    obtain ⟨k, ⟨a, b⟩, rfl, hks, HA⟩ := hrel
    clear H0
    have hx0 := HA.out.2.box.row 0 _ rfl
    have hx1 := HA.out.2.box.row 1 _ rfl
    have hxl := HA.out.2.box.lt
    have hyl := HA.out.2.res.lt
    simp only at hx0 hx1
    by_cases hkN : k < s.size
    · have hkl : k < cs.length := by have := HZ.out; omega
      have hkI : (k : Int) < (s.size : Int) := by omega
      cases b with
      | true =>
        have HP := keep (fun W (hW : Below wr.heap.size wr W) => HTT.out a cs[k] W (HOC.out k hkl) HA.out.1 HA.out.2.hi (HROW.out W (HA.out.2.below.trans (hW.mono HA.out.2.below.size))) (Nat.le_trans HBB.out (Nat.le_trans HA.out.2.below.size hW.size)))
        have HLEFT : Keep (goR l (cs.drop (k + 1)) (goP l [cs[k]] a) = R) := ⟨by
          have := HA.out.2.left
          rw [List.drop_eq_getElem_cons hkl, goR_cons, goR_good] at this
          exact this⟩
        have HBD := keep (goP_bd (l := l) (s := [cs[k]]) (a := a) HA.out.2.hi)
        have hext : s.extract k (k + 1) = str [cs[k]] := HONE.out k hkl
        unfold CurIs cur at HP
        generalize goP l [cs[k]] a = g' at *
        generalize str [cs[k]] = T at *
        obtain ⟨a', b'⟩ := g'
        simp only at HP HBD
        have hk1 : (k : Int) + 1 ≤ (s.size : Int) := by omega
        have hk2 : (k : Int) ≤ (k : Int) + 1 := by omega
        have hk0 : (0 : Int) ≤ (k : Int) := by omega
        have hk3 : (0 : Int) ≤ (k : Int) + 1 := by omega
        have hk4 : ((k : Int) + 1).toNat = k + 1 := by omega
        have hkw : IntKind.i64.wrap ((k : Int) + 1) = (k : Int) + 1 := IntWalk.i64_in _ ⟨by omega, by omega⟩
        go_wp2_with fail
        refine AnyGo.region (fun _ => True) (by kernel_rfl) (by rfl) trivial ?_
        intro wd ewd
        subst ewd
        (refine AnyGo.take 0 (some 18) ?_ (a' := ?_) rfl (by kernel_rfl) (fun _ _ d _ _ h => by cases d <;> exact h) (by kernel_rfl) (by rfl) (by kernel_rfl) ?_ ?_ ?_; rotate_left 2; (focus (intro W hW; (try dsimp only at hW); go_simp; (try with_reducible rfl))); (focus (simp only [Act.put, List.setIfInBounds_toArray]; rfl)))
        (refine AnyGo.take 1 (some 19) ?_ (a' := ?_) rfl (by kernel_rfl) (fun _ _ d _ _ h => by cases d <;> exact h) (by kernel_rfl) (by rfl) (by kernel_rfl) ?_ ?_ ?_; rotate_left 2; (focus (intro W hW; (try dsimp only at hW); go_simp; (try with_reducible rfl))); (focus (simp only [Act.put, List.setIfInBounds_toArray]; rfl)))
        (refine AnyGo.take 3 (some 21) ?_ (a' := ?_) rfl (by kernel_rfl) (fun _ _ d _ _ h => by cases d <;> exact h) (by kernel_rfl) (by rfl) (by kernel_rfl) ?_ ?_ ?_; rotate_left 2; (focus (intro W hW; (try dsimp only at hW); go_simp; (try with_reducible rfl))); (focus (simp only [Act.put, List.setIfInBounds_toArray]; rfl)))
        (refine AnyGo.take 4 (some 22) ?_ (a' := ?_) rfl (by kernel_rfl) (fun _ _ d _ _ h => by cases d <;> exact h) (by kernel_rfl) (by rfl) (by kernel_rfl) ?_ ?_ ?_; rotate_left 2; (focus (intro W hW; (try dsimp only at hW); go_simp; (try with_reducible rfl))); (focus (simp only [Act.put, List.setIfInBounds_toArray]; rfl)))
        (refine AnyGo.take 5 (some 23) ?_ (a' := ?_) rfl (by kernel_rfl) (fun _ _ d _ _ h => by cases d <;> exact h) (by kernel_rfl) (by rfl) (by kernel_rfl) ?_ ?_ ?_; rotate_left 2; (focus (intro W hW; (try dsimp only at hW); go_simp; (try with_reducible rfl))); (focus (simp only [Act.put, List.setIfInBounds_toArray]; rfl)))
        (refine AnyGo.take 6 (some 24) ?_ (a' := ?_) rfl (by kernel_rfl) (fun _ _ d _ _ h => by cases d <;> exact h) (by kernel_rfl) (by rfl) (by kernel_rfl) ?_ ?_ ?_; rotate_left 2; (focus (intro W hW; (try dsimp only at hW); go_simp; (try with_reducible rfl))); (focus (simp only [Act.put, List.setIfInBounds_toArray]; rfl)))
        (refine AnyGo.take 7 (some 25) ?_ (a' := ?_) rfl (by kernel_rfl) (fun _ _ d _ _ h => by cases d <;> exact h) (by kernel_rfl) (by rfl) (by kernel_rfl) ?_ ?_ ?_; rotate_left 2; (focus (intro W hW; (try dsimp only at hW); go_simp; (try with_reducible rfl))); (focus (simp only [Act.put, List.setIfInBounds_toArray]; rfl)))
        refine AnyGo.one (i := 2) (by kernel_rfl) rfl (by kernel_rfl) (fun K' hK' => ?_)
        go_simp
        refine hK'.out _ _ trivial ?_
        clear hK' K'
        (try simp only [Act.put, List.setIfInBounds_toArray])
        refine AnyGo.one (i := 8) (by kernel_rfl) rfl (by kernel_rfl) (fun K' hK' => ?_)
        go_simp
        refine (HP.out _ (Below.refl _ _).drew).mono ?_
        rintro e w1 ⟨rfl, hb⟩
        have HX1 := keep (HA.out.2.box.drew.to hb)
        have HY1 := keep (HA.out.2.res.drew.to hb)
        have HB1 := keep (HA.out.2.below.drew.trans (hb.mono HA.out.2.below.size))
        have HX2 := keep ((HX1.out.set 0 (.int .i64 (a' : Int)) (by simp)).set 1 (.bool b') (by simp))
        have HY2 := keep ((HY1.out.other (p := ⟨w.heap.size, 0, none⟩) (.int .i64 (a' : Int)) (by simp)).other (p := ⟨w.heap.size, 1, none⟩) (.bool b') (by simp))
        have HB2 := keep ((HB1.out.setCell (p := ⟨w.heap.size, 0, none⟩) (Nat.le_refl _) (.int .i64 (a' : Int))).setCell (p := ⟨w.heap.size, 1, none⟩) (Nat.le_refl _) (.bool b'))
        have hz0 := HX1.out.row 0 _ rfl
        have hz1 := HX1.out.row 1 _ rfl
        have hzl := HX1.out.lt
        have hzf := HX1.out.free
        clear hb hx0 hx1 hxl hyl
        refine hK'.out _ _ trivial ?_
        clear hK' K'
        (try simp only [Act.put, List.setIfInBounds_toArray])
        refine AnyGo.one (i := 9) (by kernel_rfl) rfl (by kernel_rfl) (fun K' hK' => ?_)
        go_simp
        refine hK'.out _ _ trivial ?_
        clear hK' K'
        (try simp only [Act.put, List.setIfInBounds_toArray])
        refine AnyGo.fin (by kernel_rfl) ?_
        (try simp only [List.set_cons_succ, List.set_cons_zero])
        go_wp2_with fail
        go_roundw
        case rel => exact ⟨k + 1, (a', b'), by go_num, by omega, ⟨Nat.le_trans HA.out.1 HBD.out.1, ⟨HX2.out, HY2.out, HB2.out, HLEFT.out, HBD.out.2⟩⟩⟩
        case measure => simp [intOf]; omega
      | false =>
        have HE : Keep ((a, false) = R) := ⟨by rw [← HA.out.2.left]; rfl⟩
        obtain ⟨hs0, hs1⟩ := HA.out.2.res.put2
        have hyf := HA.out.2.res.free
        have hy0 := HA.out.2.res.row 0 _ rfl
        have hy1 := HA.out.2.res.row 1 _ rfl
        go_wp2_with fail
        refine bodyPost_ret (v := .agg #[.int .i64 (a : Int), .bool false]) ?_ rfl ⟨by rw [← HE.out], (HA.out.2.below.setCell (p := ⟨w.heap.size + 1, 0, none⟩) (by simp) _).setCell (p := ⟨w.heap.size + 1, 1, none⟩) (by simp) _⟩
        simp [results, Try.results46, go_sem, hs0, hs1]
    · have hkk : s.size = k := by omega
      have hd1 : ¬ ((k : Int) < (s.size : Int)) := by omega
      have HE : Keep ((a, b) = R) := ⟨by rw [← HA.out.2.left, List.drop_eq_nil_of_le (by have := HZ.out; omega)]; exact (goR_nil _ _).symm⟩
      obtain ⟨hs0, hs1⟩ := HA.out.2.res.put2
      have hyf := HA.out.2.res.free
      have hy0 := HA.out.2.res.row 0 _ rfl
      have hy1 := HA.out.2.res.row 1 _ rfl
      clear hkk hkN
      go_wp2_with fail
      refine bodyPost_ret (v := .agg #[.int .i64 (a : Int), .bool b]) ?_ rfl ⟨by rw [← HE.out], (HA.out.2.below.setCell (p := ⟨w.heap.size + 1, 0, none⟩) (by simp) _).setCell (p := ⟨w.heap.size + 1, 1, none⟩) (by simp) _⟩
      simp [results, Try.results46, go_sem, hs0, hs1]
end Go.Proofs.Ytgodjgbdjgiapaa
