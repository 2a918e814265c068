/-
  The frame at a place: the document's Next.
-/
import Derived.Test.YtghgahcgbnpidaaFrameB
import Derived.Test.YtghgahcgbnpidaaBox
namespace Go.Proofs.Ytghgahcgbnpidaa
open Go.RowKit

def gotT (x : Fr × Nat × Nat) : Ending := .returned (.agg #[.int .i64 x.1.K, .string x.1.S, .int .i64 x.2.1, .int .i64 x.2.2])
theorem gotT_bad (c : Nat) : Ending.returned (.agg #[.int .i64 0, .string ⟨#[]⟩, .int .i64 0, .int .i64 (c : Int)]) = gotT (zf, 0, c) := rfl

/-- What a store of four cells leaves. -/
structure Set4 (W : World) (B : Nat) : Prop where
  s0 : ∀ x, (W.setCell ⟨B, 0, none⟩ x).cell? ⟨B, 0, none⟩ = some x
  s1 : ∀ x y, ((W.setCell ⟨B, 0, none⟩ x).setCell ⟨B, 1, none⟩ y).cell? ⟨B, 1, none⟩ = some y
  s2 : ∀ x y z, (((W.setCell ⟨B, 0, none⟩ x).setCell ⟨B, 1, none⟩ y).setCell ⟨B, 2, none⟩ z).cell? ⟨B, 2, none⟩ = some z
  s3 : ∀ x y z u, ((((W.setCell ⟨B, 0, none⟩ x).setCell ⟨B, 1, none⟩ y).setCell ⟨B, 2, none⟩ z).setCell ⟨B, 3, none⟩ u).cell? ⟨B, 3, none⟩ = some u
theorem BoxL.set4 {W : World} {B : Nat} {v0 v1 v2 v3 : Value} (h : BoxL W B [v0, v1, v2, v3]) : Set4 W B :=
  ⟨fun x => (h.set 0 x (by simp)).row 0 _ rfl, fun x y => ((h.set 0 x (by simp)).set 1 y (by simp)).row 1 _ rfl,
   fun x y z => (((h.set 0 x (by simp)).set 1 y (by simp)).set 2 z (by simp)).row 2 _ rfl,
   fun x y z u => ((((h.set 0 x (by simp)).set 1 y (by simp)).set 2 z (by simp)).set 3 u (by simp)).row 3 _ rfl⟩
theorem below_set4 {n : Nat} {w W : World} {B : Nat} (h : Below n w W) (hB : n ≤ B) (x y z u : Value) : Below n w ((((W.setCell ⟨B, 0, none⟩ x).setCell ⟨B, 1, none⟩ y).setCell ⟨B, 2, none⟩ z).setCell ⟨B, 3, none⟩ u) :=
  (((h.setCell hB _).setCell hB _).setCell hB _).setCell hB _

theorem sz4 (W : World) (B : Nat) : ∀ x y z u : Value, ((((W.setCell ⟨B, 0, none⟩ x).setCell ⟨B, 1, none⟩ y).setCell ⟨B, 2, none⟩ z).setCell ⟨B, 3, none⟩ u).heap.size = W.heap.size := fun x y z u => by simp only [World.size_setCell]

/-- The result's box, and Get's. -/
def Boxes (w : World) (U M E : Int) (B0 B1 : Nat) (W : World) : Prop := BoxL W B0 [.int .i64 0, .string ⟨#[]⟩, .int .i64 0, .int .i64 0] ∧ BoxL W B1 [.int .u64 U, .int .i64 M, .int .i64 E] ∧ Below w.heap.size w W

set_option maxHeartbeats 2000000 in
theorem refNext_in (s : ByteArray) (a : Nat) (w : World) (hs : s.size ≤ 100000) (ha : a < s.size) :
    Calls Try.prog 13 #[.string s, .int .i64 a] w fun e w' => e = gotT (nx s a) ∧ Below w.heap.size w w' := by
  have hnx : nx s a = rest s a (getV s (a + 1)) := by unfold nx; rw [if_neg (by omega)]
  rw [hnx]
  have HG := keep (fun w => refGet_in s (a + 1) w (by omega) (by omega))
  rw [show ((a + 1 : Nat) : Int) = (a : Int) + 1 by omega] at HG
  have hg := getV_cases s (a + 1) (by omega)
  generalize getV s (a + 1) = g at *
  obtain ⟨u, m, er⟩ := g
  simp only at hg
  unfold agg3 at HG
  simp only at HG
  obtain ⟨U, hU⟩ : ∃ U : Int, U = (u : Int) := ⟨_, rfl⟩
  obtain ⟨M, hM⟩ : ∃ M : Int, M = (m : Int) := ⟨_, rfl⟩
  obtain ⟨E, hE⟩ : ∃ E : Int, E = (er : Int) := ⟨_, rfl⟩
  rw [← hU, ← hM, ← hE] at HG
  have ha0 : (0 : Int) ≤ (a : Int) := by omega
  have hlt : (a : Int) < (s.size : Int) := by omega
  have hne : ((a : Int) == (s.size : Int)) = false := by simp; omega
  have hz : (s.size : Int) ≤ 100000 := by omega
  have HB0 := keep (BoxL.new w [.int .i64 0, .string ⟨#[]⟩, .int .i64 0, .int .i64 0] 35)
  clear hnx
  by_cases he : er = 0
  · subst he
    obtain rfl : E = 0 := by omega
    rcases hg with ⟨-, -, hm1, hm2, -, hu⟩ | ⟨-, h0⟩
    · by_cases hu2 : 1048576 < u
      · have HR : Keep (rest s a (u, m, 0) = (zf, 0, 5)) := keep (by unfold rest; simp only [ne_eq, not_true_eq_false, if_false]; rw [if_pos hu2])
        have huI : (1048576 : Int) < U := by omega
        clear hu hu2 hU hM hE hm1 hm2 ha hs
        go_enter Try.func13, Try.ntmps13
        go_wp2_with fail
        refine (HG.out _).mono ?_
        rintro e w1 ⟨rfl, hb⟩
        have HB := keep (((Below.refl _ w).alloc (Nat.le_refl _) _).trans (hb.mono (by simp)))
        have HX0 := keep (HB0.out.to hb)
        clear hb
        have hc0 := HX0.out.row 0 _ rfl
        have hc1 := HX0.out.row 1 _ rfl
        have hc2 := HX0.out.row 2 _ rfl
        have hc3 := HX0.out.row 3 _ rfl
        have hf0 := HX0.out.free
        have hl0 := HX0.out.lt
        obtain ⟨hs0, hs1, hs2, hs3⟩ := HX0.out.set4
        go_wp2_with fail
        have hsz := sz4 w1 w.heap.size
        refine bodyPost_ret (v := .agg #[.int .i64 0, .string ⟨#[]⟩, .int .i64 0, .int .i64 5]) ?_ rfl ⟨by rw [HR.out]; exact gotT_bad 5, (below_set4 HB.out (Nat.le_refl _) _ _ _ _).alloc (by rw [hsz]; exact HB.out.size) _⟩
        simp [results, Try.results13, go_sem, hs0, hs1, hs2, hs3, hl0]
      · have huw : IntKind.i64.wrap U = U := IntWalk.i64_in _ ⟨by omega, by omega⟩
        have hu0 : (0 : Int) ≤ U := by omega
        have huI : U ≤ 1048576 := by omega
        have hm0 : (0 : Int) ≤ M := by omega
        have hm3 : M ≤ 100000 := by omega
        have hm4 : M ≤ (s.size : Int) := by omega
        have ham : (a : Int) < M := by omega
        have hn0 : M.toNat = m := by omega
        have hrz : ((s.extract m s.size).size : Int) = (s.size : Int) - M := by rw [ByteArray.size_extract]; omega
        by_cases hz2 : s.size < m + u + 4
        · have HR : Keep (rest s a (u, m, 0) = (zf, 0, 2)) := keep (by unfold rest; simp only [ne_eq, not_true_eq_false, if_false]; rw [if_neg hu2, if_pos hz2])
          have hzI : (s.size : Int) - M < U + 4 := by omega
          clear hu hu2 hz2 hU hM hE hm1 hm2 ha hs
          go_enter Try.func13, Try.ntmps13
          go_wp2_with fail
          refine (HG.out _).mono ?_
          rintro e w1 ⟨rfl, hb⟩
          have HB := keep (((Below.refl _ w).alloc (Nat.le_refl _) _).trans (hb.mono (by simp)))
          have HX0 := keep (HB0.out.to hb)
          clear hb
          have hc0 := HX0.out.row 0 _ rfl
          have hc1 := HX0.out.row 1 _ rfl
          have hc2 := HX0.out.row 2 _ rfl
          have hc3 := HX0.out.row 3 _ rfl
          have hf0 := HX0.out.free
          have hl0 := HX0.out.lt
          obtain ⟨hs0, hs1, hs2, hs3⟩ := HX0.out.set4
          go_wp2_with fail
          have hsz := sz4 w1 w.heap.size
          refine bodyPost_ret (v := .agg #[.int .i64 0, .string ⟨#[]⟩, .int .i64 0, .int .i64 2]) ?_ rfl ⟨by rw [HR.out]; exact gotT_bad 2, (below_set4 HB.out (Nat.le_refl _) _ _ _ _).alloc (by rw [hsz]; exact HB.out.size) _⟩
          simp [results, Try.results13, go_sem, hs0, hs1, hs2, hs3, hl0]
        · have hzI : U + 4 ≤ (s.size : Int) - M := by omega
          have HR0 : rest s a (u, m, 0) = if s.extract (m + u) (m + u + 4) = seal4 (sumI (s.extract a (m + u))) then (⟨bt s a, s.extract m (m + u)⟩, m + u + 4, 0) else (zf, 0, 4) := by
            unfold rest; simp only [ne_eq, not_true_eq_false, if_false]; rw [if_neg hu2, if_neg hz2]
          have hq := sumI_bd (s.extract a (m + u))
          have HSU0 : ∀ W, Calls Try.prog 26 #[.string (s.extract a (m + u))] W fun e w' => e = .returned (.int .u32 (sumI (s.extract a (m + u)))) ∧ W = w' := fun W => refSum_any _ W (by rw [ByteArray.size_extract]; omega)
          generalize sumI (s.extract a (m + u)) = q at *
          have HBY0 := fun W => refBytes_any q W hq.1 hq.2
          generalize seal4 q = sl at *
          have HSU := keep HSU0
          have HBY := keep HBY0
          have HS3 : (s.extract m s.size).extract u (u + 4) = s.extract (m + u) (m + u + 4) := by rw [sub_extract s (by omega)]; rfl
          have hS4 : (s.extract m s.size).extract 0 u = s.extract m (m + u) := by rw [sub_extract s (by omega)]; rfl
          have hrz2 : (s.extract m s.size).size = s.size - m := by rw [ByteArray.size_extract]; omega
          have hn1 : (M + U).toNat = m + u := by omega
          have hn2 : U.toNat = u := by omega
          have hn3 : (U + 4).toNat = u + 4 := by omega
          have ham2 : (a : Int) ≤ M + U := by omega
          have ham3 : M ≤ M + U := by omega
          have ham4 : M + U ≤ (s.size : Int) := by omega
          have HEQ : Keep (M + U + 4 = ((m + u + 4 : Nat) : Int)) := keep (by omega)
          have hwa : IntKind.i64.wrap (M + U) = M + U := IntWalk.i64_in _ ⟨by omega, by omega⟩
          have hwb : IntKind.i64.wrap (U + 4) = U + 4 := IntWalk.i64_in _ ⟨by omega, by omega⟩
          have hr1 : U + 4 ≤ ((s.size - m : Nat) : Int) := by omega
          have hr2 : U ≤ U + 4 := by omega
          clear hrz2
          clear hu hu2 hz2 hU hM hE hm1 hm2 ha hs hq HSU0 HBY0
          generalize hsx : s.extract (m + u) (m + u + 4) = sx at *
          by_cases hseal : sx = sl
          · have hbe := beq_yes hseal.symm
            have HR := keep (HR0.trans (if_pos hseal))
            clear HR0 hseal hsx
            go_enter Try.func13, Try.ntmps13
            go_wp2_with fail
            refine (HG.out _).mono ?_
            rintro e w1 ⟨rfl, hb⟩
            have HB := keep (((Below.refl _ w).alloc (Nat.le_refl _) _).trans (hb.mono (by simp)))
            have HX0 := keep (HB0.out.to hb)
            clear hb
            have hc0 := HX0.out.row 0 _ rfl
            have hc1 := HX0.out.row 1 _ rfl
            have hc2 := HX0.out.row 2 _ rfl
            have hc3 := HX0.out.row 3 _ rfl
            have hf0 := HX0.out.free
            have hl0 := HX0.out.lt
            obtain ⟨hs0, hs1, hs2, hs3⟩ := HX0.out.set4
            go_wp2_with fail
            have HS1 := keep ((BoxL.new w1 [.int .u64 U, .int .i64 M, .int .i64 0] 67).row 1 _ rfl)
            refine AnyGo.region (fun w' => w'.cell? ⟨w1.heap.size, 1, none⟩ = some (.int .i64 M)) (by kernel_rfl) (by rfl) ?_ ?_
            · exact HS1.out
            intro wd ewd
            subst ewd
            (refine AnyGo.take 0 (some 49) ?_ (a' := ?_) rfl (by kernel_rfl) (fun _ _ d _ _ h => by cases d <;> exact h) (by kernel_rfl) (by rfl) (by kernel_rfl) ?_ ?_ ?_; rotate_left 2; (focus (intro W hW; (try dsimp only at hW); go_simp; (try with_reducible rfl))); (focus (simp only [Act.put, List.setIfInBounds_toArray]; rfl)))
            (refine AnyGo.take 1 (some 50) ?_ (a' := ?_) rfl (by kernel_rfl) (fun _ _ d _ _ h => by cases d <;> exact h) (by kernel_rfl) (by rfl) (by kernel_rfl) ?_ ?_ ?_; rotate_left 2; (focus (intro W hW; (try dsimp only at hW); go_simp; (try with_reducible rfl))); (focus (simp only [Act.put, List.setIfInBounds_toArray]; rfl)))
            (refine AnyGo.take 2 (some 51) ?_ (a' := ?_) rfl (by kernel_rfl) (fun _ _ d _ _ h => by cases d <;> exact h) (by kernel_rfl) (by rfl) (by kernel_rfl) ?_ ?_ ?_; rotate_left 2; (focus (intro W hW; (try dsimp only at hW); go_simp; (try with_reducible rfl))); (focus (simp only [Act.put, List.setIfInBounds_toArray]; rfl)))
            (refine AnyGo.take 3 (some 52) ?_ (a' := ?_) rfl (by kernel_rfl) (fun _ _ d _ _ h => by cases d <;> exact h) (by kernel_rfl) (by rfl) (by kernel_rfl) ?_ ?_ ?_; rotate_left 2; (focus (intro W hW; (try dsimp only at hW); go_simp; (try with_reducible rfl))); (focus (simp only [Act.put, List.setIfInBounds_toArray]; rfl)))
            (refine AnyGo.take 4 (some 53) ?_ (a' := ?_) rfl (by kernel_rfl) (fun _ _ d _ _ h => by cases d <;> exact h) (by kernel_rfl) (by rfl) (by kernel_rfl) ?_ ?_ ?_; rotate_left 2; (focus (intro W hW; (try dsimp only at hW); go_simp; (try with_reducible rfl))); (focus (simp only [Act.put, List.setIfInBounds_toArray]; rfl)))
            (refine AnyGo.take 5 (some 54) ?_ (a' := ?_) rfl (by kernel_rfl) (fun _ _ d _ _ h => by cases d <;> exact h) (by kernel_rfl) (by rfl) (by kernel_rfl) ?_ ?_ ?_; rotate_left 2; (focus (intro W hW; (try dsimp only at hW); go_simp; (try with_reducible rfl))); (focus (simp only [Act.put, List.setIfInBounds_toArray]; rfl)))
            (refine AnyGo.take 6 (some 55) ?_ (a' := ?_) rfl (by kernel_rfl) (fun _ _ d _ _ h => by cases d <;> exact h) (by kernel_rfl) (by rfl) (by kernel_rfl) ?_ ?_ ?_; rotate_left 2; (focus (intro W hW; (try dsimp only at hW); go_simp; (try with_reducible rfl))); (focus (simp only [Act.put, List.setIfInBounds_toArray]; rfl)))
            (refine AnyGo.take 9 (some 58) ?_ (a' := ?_) rfl (by kernel_rfl) (fun _ _ d _ _ h => by cases d <;> exact h) (by kernel_rfl) (by rfl) (by kernel_rfl) ?_ ?_ ?_; rotate_left 2; (focus (intro W hW; (try dsimp only at hW); go_simp; (try with_reducible rfl))); (focus (simp only [Act.put, List.setIfInBounds_toArray]; rfl)))
            (refine AnyGo.take 10 (some 59) ?_ (a' := ?_) rfl (by kernel_rfl) (fun _ _ d _ _ h => by cases d <;> exact h) (by kernel_rfl) (by rfl) (by kernel_rfl) ?_ ?_ ?_; rotate_left 2; (focus (intro W hW; (try dsimp only at hW); go_simp; (try with_reducible rfl))); (focus (simp only [Act.put, List.setIfInBounds_toArray]; rfl)))
            (refine AnyGo.take 11 (some 60) ?_ (a' := ?_) rfl (by kernel_rfl) (fun _ _ d _ _ h => by cases d <;> exact h) (by kernel_rfl) (by rfl) (by kernel_rfl) ?_ ?_ ?_; rotate_left 2; (focus (intro W hW; (try dsimp only at hW); go_simp; (try with_reducible rfl))); (focus (simp only [Act.put, List.setIfInBounds_toArray]; rfl)))
            (refine AnyGo.take 12 (some 61) ?_ (a' := ?_) rfl (by kernel_rfl) (fun _ _ d _ _ h => by cases d <;> exact h) (by kernel_rfl) (by rfl) (by kernel_rfl) ?_ ?_ ?_; rotate_left 2; (focus (intro W hW; (try dsimp only at hW); go_simp; (try with_reducible rfl))); (focus (simp only [Act.put, List.setIfInBounds_toArray]; rfl)))
            (refine AnyGo.take 13 (some 62) ?_ (a' := ?_) rfl (by kernel_rfl) (fun _ _ d _ _ h => by cases d <;> exact h) (by kernel_rfl) (by rfl) (by kernel_rfl) ?_ ?_ ?_; rotate_left 2; (focus (intro W hW; (try dsimp only at hW); go_simp; (try with_reducible rfl))); (focus (simp only [Act.put, List.setIfInBounds_toArray]; rfl)))
            refine AnyGo.one (i := 7) (by kernel_rfl) rfl (by kernel_rfl) (fun K' hK' => ?_)
            go_simp
            refine (HSU.out _).mono ?_
            rintro e w' ⟨rfl, rfl⟩
            refine hK'.out _ _ HS1.out ?_
            clear hK' K'
            (try simp only [Act.put, List.setIfInBounds_toArray])
            refine AnyGo.one (i := 8) (by kernel_rfl) rfl (by kernel_rfl) (fun K' hK' => ?_)
            go_simp
            refine (HBY.out _).mono ?_
            rintro e w2 ⟨rfl, hb⟩
            have HBX := keep ((HB.out.alloc HB.out.size (.cells #[.int .u64 U, .int .i64 M, .int .i64 0] 67)).drew.trans (hb.mono (by simp; exact Nat.le_succ_of_le HB.out.size)))
            have HX2 := keep ((HX0.out.alloc _).drew.to hb)
            have HG2 := keep ((BoxL.new w1 [.int .u64 U, .int .i64 M, .int .i64 0] 67).drew.to hb)
            refine hK'.out _ _ (HG2.out.row 1 _ rfl) ?_
            clear hK' K' hb hc0 hc1 hc2 hc3 hf0 hl0 hs0 hs1 hs2 hs3
            (try simp only [Act.put, List.setIfInBounds_toArray])
            (refine AnyGo.take 14 (some 63) ?_ (a' := ?_) rfl (by kernel_rfl) (fun _ _ d _ _ h => by cases d <;> exact h) (by kernel_rfl) (by rfl) (by kernel_rfl) ?_ ?_ ?_; rotate_left 2; (focus (intro W hW; (try dsimp only at hW); go_simp; (try with_reducible rfl))); (focus (simp only [Act.put, List.setIfInBounds_toArray]; rfl)))
            refine AnyGo.fin (by kernel_rfl) ?_
            have hc0 := HX2.out.row 0 _ rfl
            have hc1 := HX2.out.row 1 _ rfl
            have hc2 := HX2.out.row 2 _ rfl
            have hc3 := HX2.out.row 3 _ rfl
            have hd0 := HG2.out.row 0 _ rfl
            have hd1 := HG2.out.row 1 _ rfl
            have hf0 := HX2.out.free
            have hl0 := HX2.out.lt
            obtain ⟨hs0, hs1, hs2, hs3⟩ := HX2.out.set4
            go_wp2_with fail
            have hr3 : U ≤ ((s.size - m : Nat) : Int) := by omega
            have hbg := get_bt s
            have hbb := bt_bd s a
            have hln : a < s.size := by omega
            have hwc : IntKind.i64.wrap (bt s a) = bt s a := IntWalk.i64_in _ ⟨by omega, by omega⟩
            have hwd : IntKind.i64.wrap (M + U + 4) = M + U + 4 := IntWalk.i64_in _ ⟨by omega, by omega⟩
            go_region
            all_goals
              go_wp2_with fail
              refine bodyPost_ret (v := .agg #[.int .i64 (bt s a), .string (s.extract m (m + u)), .int .i64 (M + U + 4), .int .i64 0]) ?_ rfl ⟨by rw [HR.out, HEQ.out]; rfl, (below_set4 HBX.out (Nat.le_refl _) _ _ _ _).drew⟩
              simp [results, Try.results13, go_sem, hs0, hs1, hs2, hs3]
          · have hbe := beq_no (fun c => hseal c.symm)
            have HR := keep (HR0.trans (if_neg hseal))
            clear HR0 hseal hsx
            go_enter Try.func13, Try.ntmps13
            go_wp2_with fail
            refine (HG.out _).mono ?_
            rintro e w1 ⟨rfl, hb⟩
            have HB := keep (((Below.refl _ w).alloc (Nat.le_refl _) _).trans (hb.mono (by simp)))
            have HX0 := keep (HB0.out.to hb)
            clear hb
            have hc0 := HX0.out.row 0 _ rfl
            have hc1 := HX0.out.row 1 _ rfl
            have hc2 := HX0.out.row 2 _ rfl
            have hc3 := HX0.out.row 3 _ rfl
            have hf0 := HX0.out.free
            have hl0 := HX0.out.lt
            obtain ⟨hs0, hs1, hs2, hs3⟩ := HX0.out.set4
            go_wp2_with fail
            have HS1 := keep ((BoxL.new w1 [.int .u64 U, .int .i64 M, .int .i64 0] 67).row 1 _ rfl)
            refine AnyGo.region (fun w' => w'.cell? ⟨w1.heap.size, 1, none⟩ = some (.int .i64 M)) (by kernel_rfl) (by rfl) ?_ ?_
            · exact HS1.out
            intro wd ewd
            subst ewd
            (refine AnyGo.take 0 (some 49) ?_ (a' := ?_) rfl (by kernel_rfl) (fun _ _ d _ _ h => by cases d <;> exact h) (by kernel_rfl) (by rfl) (by kernel_rfl) ?_ ?_ ?_; rotate_left 2; (focus (intro W hW; (try dsimp only at hW); go_simp; (try with_reducible rfl))); (focus (simp only [Act.put, List.setIfInBounds_toArray]; rfl)))
            (refine AnyGo.take 1 (some 50) ?_ (a' := ?_) rfl (by kernel_rfl) (fun _ _ d _ _ h => by cases d <;> exact h) (by kernel_rfl) (by rfl) (by kernel_rfl) ?_ ?_ ?_; rotate_left 2; (focus (intro W hW; (try dsimp only at hW); go_simp; (try with_reducible rfl))); (focus (simp only [Act.put, List.setIfInBounds_toArray]; rfl)))
            (refine AnyGo.take 2 (some 51) ?_ (a' := ?_) rfl (by kernel_rfl) (fun _ _ d _ _ h => by cases d <;> exact h) (by kernel_rfl) (by rfl) (by kernel_rfl) ?_ ?_ ?_; rotate_left 2; (focus (intro W hW; (try dsimp only at hW); go_simp; (try with_reducible rfl))); (focus (simp only [Act.put, List.setIfInBounds_toArray]; rfl)))
            (refine AnyGo.take 3 (some 52) ?_ (a' := ?_) rfl (by kernel_rfl) (fun _ _ d _ _ h => by cases d <;> exact h) (by kernel_rfl) (by rfl) (by kernel_rfl) ?_ ?_ ?_; rotate_left 2; (focus (intro W hW; (try dsimp only at hW); go_simp; (try with_reducible rfl))); (focus (simp only [Act.put, List.setIfInBounds_toArray]; rfl)))
            (refine AnyGo.take 4 (some 53) ?_ (a' := ?_) rfl (by kernel_rfl) (fun _ _ d _ _ h => by cases d <;> exact h) (by kernel_rfl) (by rfl) (by kernel_rfl) ?_ ?_ ?_; rotate_left 2; (focus (intro W hW; (try dsimp only at hW); go_simp; (try with_reducible rfl))); (focus (simp only [Act.put, List.setIfInBounds_toArray]; rfl)))
            (refine AnyGo.take 5 (some 54) ?_ (a' := ?_) rfl (by kernel_rfl) (fun _ _ d _ _ h => by cases d <;> exact h) (by kernel_rfl) (by rfl) (by kernel_rfl) ?_ ?_ ?_; rotate_left 2; (focus (intro W hW; (try dsimp only at hW); go_simp; (try with_reducible rfl))); (focus (simp only [Act.put, List.setIfInBounds_toArray]; rfl)))
            (refine AnyGo.take 6 (some 55) ?_ (a' := ?_) rfl (by kernel_rfl) (fun _ _ d _ _ h => by cases d <;> exact h) (by kernel_rfl) (by rfl) (by kernel_rfl) ?_ ?_ ?_; rotate_left 2; (focus (intro W hW; (try dsimp only at hW); go_simp; (try with_reducible rfl))); (focus (simp only [Act.put, List.setIfInBounds_toArray]; rfl)))
            (refine AnyGo.take 9 (some 58) ?_ (a' := ?_) rfl (by kernel_rfl) (fun _ _ d _ _ h => by cases d <;> exact h) (by kernel_rfl) (by rfl) (by kernel_rfl) ?_ ?_ ?_; rotate_left 2; (focus (intro W hW; (try dsimp only at hW); go_simp; (try with_reducible rfl))); (focus (simp only [Act.put, List.setIfInBounds_toArray]; rfl)))
            (refine AnyGo.take 10 (some 59) ?_ (a' := ?_) rfl (by kernel_rfl) (fun _ _ d _ _ h => by cases d <;> exact h) (by kernel_rfl) (by rfl) (by kernel_rfl) ?_ ?_ ?_; rotate_left 2; (focus (intro W hW; (try dsimp only at hW); go_simp; (try with_reducible rfl))); (focus (simp only [Act.put, List.setIfInBounds_toArray]; rfl)))
            (refine AnyGo.take 11 (some 60) ?_ (a' := ?_) rfl (by kernel_rfl) (fun _ _ d _ _ h => by cases d <;> exact h) (by kernel_rfl) (by rfl) (by kernel_rfl) ?_ ?_ ?_; rotate_left 2; (focus (intro W hW; (try dsimp only at hW); go_simp; (try with_reducible rfl))); (focus (simp only [Act.put, List.setIfInBounds_toArray]; rfl)))
            (refine AnyGo.take 12 (some 61) ?_ (a' := ?_) rfl (by kernel_rfl) (fun _ _ d _ _ h => by cases d <;> exact h) (by kernel_rfl) (by rfl) (by kernel_rfl) ?_ ?_ ?_; rotate_left 2; (focus (intro W hW; (try dsimp only at hW); go_simp; (try with_reducible rfl))); (focus (simp only [Act.put, List.setIfInBounds_toArray]; rfl)))
            (refine AnyGo.take 13 (some 62) ?_ (a' := ?_) rfl (by kernel_rfl) (fun _ _ d _ _ h => by cases d <;> exact h) (by kernel_rfl) (by rfl) (by kernel_rfl) ?_ ?_ ?_; rotate_left 2; (focus (intro W hW; (try dsimp only at hW); go_simp; (try with_reducible rfl))); (focus (simp only [Act.put, List.setIfInBounds_toArray]; rfl)))
            refine AnyGo.one (i := 7) (by kernel_rfl) rfl (by kernel_rfl) (fun K' hK' => ?_)
            go_simp
            refine (HSU.out _).mono ?_
            rintro e w' ⟨rfl, rfl⟩
            refine hK'.out _ _ HS1.out ?_
            clear hK' K'
            (try simp only [Act.put, List.setIfInBounds_toArray])
            refine AnyGo.one (i := 8) (by kernel_rfl) rfl (by kernel_rfl) (fun K' hK' => ?_)
            go_simp
            refine (HBY.out _).mono ?_
            rintro e w2 ⟨rfl, hb⟩
            have HBX := keep ((HB.out.alloc HB.out.size (.cells #[.int .u64 U, .int .i64 M, .int .i64 0] 67)).drew.trans (hb.mono (by simp; exact Nat.le_succ_of_le HB.out.size)))
            have HX2 := keep ((HX0.out.alloc _).drew.to hb)
            have HG2 := keep ((BoxL.new w1 [.int .u64 U, .int .i64 M, .int .i64 0] 67).drew.to hb)
            refine hK'.out _ _ (HG2.out.row 1 _ rfl) ?_
            clear hK' K' hb hc0 hc1 hc2 hc3 hf0 hl0 hs0 hs1 hs2 hs3
            (try simp only [Act.put, List.setIfInBounds_toArray])
            (refine AnyGo.take 14 (some 63) ?_ (a' := ?_) rfl (by kernel_rfl) (fun _ _ d _ _ h => by cases d <;> exact h) (by kernel_rfl) (by rfl) (by kernel_rfl) ?_ ?_ ?_; rotate_left 2; (focus (intro W hW; (try dsimp only at hW); go_simp; (try with_reducible rfl))); (focus (simp only [Act.put, List.setIfInBounds_toArray]; rfl)))
            refine AnyGo.fin (by kernel_rfl) ?_
            have hc0 := HX2.out.row 0 _ rfl
            have hc1 := HX2.out.row 1 _ rfl
            have hc2 := HX2.out.row 2 _ rfl
            have hc3 := HX2.out.row 3 _ rfl
            have hd0 := HG2.out.row 0 _ rfl
            have hd1 := HG2.out.row 1 _ rfl
            have hf0 := HX2.out.free
            have hl0 := HX2.out.lt
            obtain ⟨hs0, hs1, hs2, hs3⟩ := HX2.out.set4
            go_wp2_with fail
            refine bodyPost_ret (v := .agg #[.int .i64 0, .string ⟨#[]⟩, .int .i64 0, .int .i64 4]) ?_ rfl ⟨by rw [HR.out]; exact gotT_bad 4, below_set4 HBX.out (Nat.le_refl _) _ _ _ _⟩
            simp [results, Try.results13, go_sem, hs0, hs1, hs2, hs3]
    · exact absurd rfl h0
  · have HR : Keep (rest s a (u, m, er) = (zf, 0, er)) := keep (by unfold rest; rw [if_pos he])
    have heI : (E == 0) = false := by simp; omega
    have HE := keep hE
    clear hg he hU hM hE ha hs
    go_enter Try.func13, Try.ntmps13
    go_wp2_with fail
    refine (HG.out _).mono ?_
    rintro e w1 ⟨rfl, hb⟩
    have HB := keep (((Below.refl _ w).alloc (Nat.le_refl _) _).trans (hb.mono (by simp)))
    have HX0 := keep (HB0.out.to hb)
    clear hb
    have hc0 := HX0.out.row 0 _ rfl
    have hc1 := HX0.out.row 1 _ rfl
    have hc2 := HX0.out.row 2 _ rfl
    have hc3 := HX0.out.row 3 _ rfl
    have hf0 := HX0.out.free
    have hl0 := HX0.out.lt
    obtain ⟨hs0, hs1, hs2, hs3⟩ := HX0.out.set4
    go_wp2_with fail
    have hsz := sz4 w1 w.heap.size
    refine bodyPost_ret (v := .agg #[.int .i64 0, .string ⟨#[]⟩, .int .i64 0, .int .i64 E]) ?_ rfl ⟨by rw [HR.out, HE.out]; exact gotT_bad er, (below_set4 HB.out (Nat.le_refl _) _ _ _ _).alloc (by rw [hsz]; exact HB.out.size) _⟩
    simp [results, Try.results13, go_sem, hs0, hs1, hs2, hs3, hl0]

set_option maxHeartbeats 1000000 in
theorem refNext_any (s : ByteArray) (at_ : Int) (w : World) (hs : s.size ≤ 100000) :
    Calls Try.prog 13 #[.string s, .int .i64 at_] w fun e w' => e = gotT (nxI s at_) ∧ Below w.heap.size w w' := by
  by_cases h0 : at_ < 0
  · rw [nxI_out (.inl h0)]
    go_enter Try.func13, Try.ntmps13
    go_wp2
    go_returns
    exact ⟨gotT_bad 1, (Below.refl _ _).alloc (Nat.le_refl _) _⟩
  · by_cases h1 : (s.size : Int) < at_
    · rw [nxI_out (.inr h1)]
      go_enter Try.func13, Try.ntmps13
      go_wp2
      go_returns
      exact ⟨gotT_bad 1, (Below.refl _ _).alloc (Nat.le_refl _) _⟩
    · obtain ⟨a, rfl⟩ := Int.eq_ofNat_of_zero_le (show 0 ≤ at_ by omega)
      rw [nxI_in (by omega)]
      by_cases hlt : a < s.size
      · exact refNext_in s a w hs hlt
      · have hA : a = s.size := by omega
        have HN : Keep (nx s a = (zf, 0, 2)) := keep (by unfold nx; rw [if_pos hA])
        generalize nx s a = N at *
        subst hA
        clear h0 h1 hlt hs
        go_enter Try.func13, Try.ntmps13
        go_wp2
        go_returns
        exact ⟨by rw [HN.out]; exact gotT_bad 2, (Below.refl _ _).alloc (Nat.le_refl _) _⟩
end Go.Proofs.Ytghgahcgbnpidaa
