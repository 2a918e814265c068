/-
  A frame's bytes: the program's Put, and the document's.
-/
import Derived.Test.YtghgahcgbnpidaaFrameM
import Derived.Test.YtghgahcgbnpidaaAny
namespace Go.Proofs.Ytghgahcgbnpidaa
open Go.RowKit

theorem head_is {K : Int} {S b1 : ByteArray} (hb : b1 = strOfNums [K]) : (str (b1.data.toList ++ num S.size)) ++ S = str (hd ⟨K, S⟩) := by
  rw [str_cat, hb, strOfNums_data]
  unfold hd
  simp
theorem sealed_is (f : Fr) : str (hd f) ++ seal4 (sumI (str (hd f))) = str (frB f) := by
  rw [str_cat]
  unfold frB seal4 sumI
  rw [Int.toNat_natCast]
  rfl

/-- What a call that only makes memory leaves as it was, as rules for the walk. -/
theorem bcell {W w1 : World} (hb : Below W.heap.size W w1) : (∀ b o, b < W.heap.size → w1.cell? ⟨b, o, none⟩ = W.cell? ⟨b, o, none⟩) ∧ (∀ b o, b < W.heap.size → w1.frozen? ⟨b, o, none⟩ = W.frozen? ⟨b, o, none⟩) :=
  ⟨fun b o h => hb.cell (p := ⟨b, o, none⟩) h, fun b o h => hb.frozen (p := ⟨b, o, none⟩) h⟩

/-- A box of two cells. -/
structure Box2 (W : World) (B : Nat) (v0 v1 : Value) : Prop where
  c0 : W.cell? ⟨B, 0, none⟩ = some v0
  c1 : W.cell? ⟨B, 1, none⟩ = some v1
  lt : B < W.heap.size
  f0 : W.frozen? ⟨B, 0, none⟩ = false
  f1 : W.frozen? ⟨B, 1, none⟩ = false
theorem Box2.new (w : World) (v0 v1 : Value) (t : TypeId) : Box2 (w.alloc (.cells #[v0, v1] t)) w.heap.size v0 v1 :=
  ⟨by rw [World.cell?_alloc_new]; rfl, by rw [World.cell?_alloc_new]; rfl, by simp, by rw [frozen?_alloc_cells]; simp [World.frozen?], by rw [frozen?_alloc_cells]; simp [World.frozen?]⟩
theorem Box2.below {n : Nat} {W W' : World} {B : Nat} {v0 v1 : Value} (h : Box2 W B v0 v1) (hb : Below n W W') (hB : B < n) : Box2 W' B v0 v1 :=
  ⟨(hb.cell (p := ⟨B, 0, none⟩) hB).trans h.c0, (hb.cell (p := ⟨B, 1, none⟩) hB).trans h.c1, Nat.lt_of_lt_of_le h.lt hb.size, (hb.frozen (p := ⟨B, 0, none⟩) hB).trans h.f0, (hb.frozen (p := ⟨B, 1, none⟩) hB).trans h.f1⟩
theorem Box2.to {W W' : World} {B : Nat} {v0 v1 : Value} (h : Box2 W B v0 v1) (hb : Below W.heap.size W W') : Box2 W' B v0 v1 := h.below hb h.lt
theorem Box2.drew {W : World} {B : Nat} {v0 v1 : Value} (h : Box2 W B v0 v1) : Box2 W.drew B v0 v1 := ⟨h.c0, h.c1, h.lt, h.f0, h.f1⟩
theorem Box2.alloc {W : World} {B : Nat} {v0 v1 : Value} (h : Box2 W B v0 v1) (o : Obj) : Box2 (W.alloc o) B v0 v1 := h.to ((Below.refl _ _).alloc (Nat.le_refl _) _)

theorem Box2.s0 {W : World} {B : Nat} {v0 v1 : Value} (h : Box2 W B v0 v1) (x : Value) : (W.setCell ⟨B, 0, none⟩ x).cell? ⟨B, 0, none⟩ = some x := World.cell?_setCell_same _ _ _ h.c0
theorem Box2.s1 {W : World} {B : Nat} {v0 v1 : Value} (h : Box2 W B v0 v1) (x y : Value) : ((W.setCell ⟨B, 0, none⟩ x).setCell ⟨B, 1, none⟩ y).cell? ⟨B, 1, none⟩ = some y :=
  World.cell?_setCell_same (u := v1) _ _ _ (by rw [World.cell?_setCell_other _ _ _ _ (by intro c; cases c)]; exact h.c1)

/-- What Put answers. -/
def putT (f : Fr) : Value := if f.K < 0 ∨ 255 < f.K then .tuple #[.string ⟨#[]⟩, .int .i64 1] else if 1048576 < f.S.size then .tuple #[.string ⟨#[]⟩, .int .i64 5] else .tuple #[.string (str (frB f)), .int .i64 0]
theorem putT_ok {f : Fr} (h : f.ok) : putT f = .tuple #[.string (str (frB f)), .int .i64 0] := by
  obtain ⟨h0, h1, h2⟩ := h
  unfold putT; rw [if_neg (by omega), if_neg (by omega)]
theorem putT_arg {f : Fr} (h : f.K < 0 ∨ 255 < f.K) : putT f = .tuple #[.string ⟨#[]⟩, .int .i64 1] := by unfold putT; rw [if_pos h]
theorem putT_long {f : Fr} (h : ¬ (f.K < 0 ∨ 255 < f.K)) (h2 : 1048576 < f.S.size) : putT f = .tuple #[.string ⟨#[]⟩, .int .i64 5] := by unfold putT; rw [if_neg h, if_pos h2]

set_option maxHeartbeats 1000000 in
theorem fput_ok (f : Fr) (w : World) (hf : f.ok) (hs : f.S.size ≤ 100000) :
    Calls Try.prog 10 #[f.agg] w fun e w' => e = .returned (.tuple #[.string (str (frB f)), .int .i64 0]) ∧ Below w.heap.size w w' := by
  have HSE := keep (sealed_is f)
  have hl : (hd f).length ≤ 100020 := by rw [hd_len]; have := num_len f.S.size; omega
  have HSC0 : ∀ W, Calls Try.prog 23 #[.string (str (hd f))] W fun e w' => e = .returned (.string (str (frB f))) ∧ Below W.heap.size W w' := fun W => by
    have := seal_any (str (hd f)) W (by rw [str_size]; omega)
    rw [HSE.out] at this; exact this
  obtain ⟨K, S⟩ := f
  obtain ⟨k0, k1, k2⟩ := hf
  simp only at k0 k1 k2 hs
  obtain ⟨b1, eb1⟩ : ∃ b1, b1 = strOfNums [K] := ⟨_, rfl⟩
  have hbz : b1.size ≤ 1 := by rw [eb1, strOfNums_size]; simp
  have hcv := fun W B => byte_of_cell W B K
  rw [← eb1] at hcv
  have HP0 : ∀ W, Calls Try.prog 22 #[.string b1, .int .u64 (S.size : Int)] W fun e w' => e = .returned (.string (str (b1.data.toList ++ num S.size))) ∧ Below W.heap.size W w' := fun W => by
    have := put_any b1 (S.size : Int) W (by omega) (by omega) (by omega)
    rw [Int.toNat_natCast] at this; exact this
  have HH := head_is (S := S) eb1
  have hzz : (str (b1.data.toList ++ num S.size)).size ≤ 20 := by rw [str_size, List.length_append, ← size_list]; have := num_len S.size; omega
  generalize str (b1.data.toList ++ num S.size) = h1 at *
  rw [← HH] at HSC0
  generalize str (frB ⟨K, S⟩) = t at *
  have HSC := keep HSC0
  have HP := keep HP0
  have EB := keep eb1
  have hw1 : IntKind.u8.wrap K = K := IntWalk.u8_in _ ⟨by omega, by omega⟩
  have hsI : (S.size : Int) ≤ 100000 := by omega
  have hzI : (h1.size : Int) ≤ 20 := by omega
  unfold Fr.agg
  simp only
  clear HSE hl HH eb1 hs k2 hzz hbz HSC0 HP0
  go_enter Try.func10, Try.ntmps10
  go_wp2_with fail
  refine (HP.out _).mono ?_
  rintro e w1 ⟨rfl, hb⟩
  have HB1 := keep ((((Below.refl _ w).alloc (Nat.le_refl _) _).alloc (by simp) _).trans (hb.mono (by simp; omega)))
  obtain ⟨_, hc1, _⟩ := ((Box2.new w (.int .i64 K) (.string S) 23).alloc _).to hb
  clear hb
  go_wp2_with fail
  refine (HSC.out _).mono ?_
  rintro e w2 ⟨rfl, hb⟩
  have HB2 := keep (HB1.out.trans (hb.mono HB1.out.size))
  clear hb
  go_wp2_with fail
  go_ret2
  exact ⟨rfl, HB2.out⟩

set_option maxHeartbeats 1000000 in
theorem fput_any (f : Fr) (w : World) (hs : f.ok → f.S.size ≤ 100000) (hm : f.S.size ≤ 9223372036854775807) :
    Calls Try.prog 10 #[f.agg] w fun e w' => e = .returned (putT f) ∧ Below w.heap.size w w' := by
  by_cases hk : f.K < 0 ∨ 255 < f.K
  · have HT := keep (putT_arg hk)
    generalize putT f = T at *
    obtain ⟨K, S⟩ := f
    unfold Fr.agg
    simp only at hk hm ⊢
    clear hs
    rcases hk with hk | hk
    · go_enter Try.func10, Try.ntmps10
      go_wp2_with fail
      go_ret2
      exact ⟨by rw [HT.out]; rfl, (Below.refl _ _).alloc (Nat.le_refl _) _⟩
    · go_enter Try.func10, Try.ntmps10
      go_wp2_with fail
      go_ret2
      exact ⟨by rw [HT.out]; rfl, (Below.refl _ _).alloc (Nat.le_refl _) _⟩
  · by_cases hz : 1048576 < f.S.size
    · have HT := keep (putT_long hk hz)
      generalize putT f = T at *
      obtain ⟨K, S⟩ := f
      unfold Fr.agg
      simp only at hk hz hm ⊢
      have k0 : 0 ≤ K := by omega
      have k1 : K ≤ 255 := by omega
      have hzI : (1048576 : Int) < (S.size : Int) := by omega
      have hmI : (S.size : Int) ≤ 9223372036854775807 := by omega
      clear hs hk hz hm
      go_enter Try.func10, Try.ntmps10
      go_wp2_with fail
      go_ret2
      exact ⟨by rw [HT.out]; rfl, (Below.refl _ _).alloc (Nat.le_refl _) _⟩
    · have hf : f.ok := ⟨by omega, by omega, by omega⟩
      rw [putT_ok hf]
      exact fput_ok f w hf (hs hf)

/-! ### The document's -/
set_option maxHeartbeats 2000000 in
theorem refFr_ok (f : Fr) (w : World) (hf : f.ok) (hs : f.S.size ≤ 100000) :
    Calls Try.prog 11 #[f.agg] w fun e w' => e = .returned (.tuple #[.string (str (frB f)), .int .i64 0]) ∧ Below w.heap.size w w' := by
  have HSE0 := sealed_is f
  have hl : (hd f).length ≤ 100020 := by rw [hd_len]; have := num_len f.S.size; omega
  have hq := sumI_bd (str (hd f))
  have HSU0 : ∀ W, Calls Try.prog 26 #[.string (str (hd f))] W fun e w' => e = .returned (.int .u32 (sumI (str (hd f)))) ∧ W = w' := fun W => refSum_any (str (hd f)) W (by rw [str_size]; omega)
  have hdz : (str (hd f)).size ≤ 100020 := by rw [str_size]; omega
  have HSZ : (seal4 (sumI (str (hd f)))).size = 4 := rfl
  generalize sumI (str (hd f)) = q at *
  have HBY0 := fun W => refBytes_any q W hq.1 hq.2
  generalize seal4 q = sl at *
  obtain ⟨K, S⟩ := f
  obtain ⟨k0, k1, k2⟩ := hf
  simp only at k0 k1 k2 hs
  obtain ⟨b1, eb1⟩ : ∃ b1, b1 = strOfNums [K] := ⟨_, rfl⟩
  have hbz : b1.size ≤ 1 := by rw [eb1, strOfNums_size]; simp
  have hcv := fun W B => byte_of_cell W B K
  rw [← eb1] at hcv
  have HP0 : ∀ W, Calls Try.prog 24 #[.int .u64 (S.size : Int)] W fun e w' => e = .returned (.string (str (num S.size))) ∧ Below W.heap.size W w' := fun W => by
    have := refNum_any 10 (S.size : Int) W (by omega) (by omega) (by omega)
    rw [Int.toNat_natCast] at this
    exact this.mono fun e w' ⟨s1, he, hs1, hb⟩ => ⟨by rw [he, str_of hs1], hb⟩
  have HH : b1 ++ str (num S.size) ++ S = str (hd ⟨K, S⟩) := by rw [← head_is (S := S) eb1, cat_str b1]; rfl
  have hzz : (str (num S.size)).size ≤ 11 := by rw [str_size]; exact (num_len S.size).2
  generalize str (num S.size) = n1 at *
  rw [← HH] at HSU0 hdz HSE0
  generalize str (frB ⟨K, S⟩) = t at *
  have HSU := keep HSU0
  have HBY := keep HBY0
  have HP := keep HP0
  have HSE := keep HSE0
  have EB := keep eb1
  have hw1 : IntKind.u8.wrap K = K := IntWalk.u8_in _ ⟨by omega, by omega⟩
  have hw2 : IntKind.u64.wrap (S.size : Int) = S.size := IntWalk.u64_in _ ⟨by omega, by omega⟩
  have hsI : (S.size : Int) ≤ 100000 := by omega
  unfold Fr.agg
  simp only
  clear hl HH eb1 k2 hq hs HSU0 HBY0 HP0 HSE0
  go_enter Try.func11, Try.ntmps11
  go_wp2_with fail
  have HBX := keep (Box2.new w (.int .i64 K) (.string S) 23)
  have hs1 : (9223372036854775807 < b1.size + n1.size) = False := by simp; omega
  have hs2 : (9223372036854775807 < b1.size + n1.size + S.size) = False := by simp; omega
  refine AnyGo.region (fun w' => w'.cell? ⟨w.heap.size, 0, none⟩ = some (.int .i64 K) ∧ w'.cell? ⟨w.heap.size, 1, none⟩ = some (.string S)) (by kernel_rfl) (by rfl) ⟨(Box2.new w (.int .i64 K) (.string S) 23).c0, (Box2.new w (.int .i64 K) (.string S) 23).c1⟩ ?_
  intro wd ewd
  subst ewd
  (refine AnyGo.take 0 (some 17) ?_ (a' := ?_) rfl (by kernel_rfl) (fun _ _ d _ _ h => by cases d <;> exact h) (by kernel_rfl) (by rfl) (by kernel_rfl) ?_ ?_ ?_; rotate_left 2; (focus (intro W hW; (try dsimp only at hW); go_simp; (try with_reducible rfl))); (focus (simp only [Act.put, List.setIfInBounds_toArray]; rfl)))
  (refine AnyGo.take 1 (some 18) ?_ (a' := ?_) rfl (by kernel_rfl) (fun _ _ d _ _ h => by cases d <;> exact h) (by kernel_rfl) (by rfl) (by kernel_rfl) ?_ ?_ ?_; rotate_left 2; (focus (intro W hW; (try dsimp only at hW); go_simp; (try with_reducible rfl))); (focus (simp only [Act.put, List.setIfInBounds_toArray]; rfl)))
  (refine AnyGo.take 2 (some 19) ?_ (a' := ?_) rfl (by kernel_rfl) (fun _ _ d _ _ h => by cases d <;> exact h) (by kernel_rfl) (by rfl) (by kernel_rfl) ?_ ?_ ?_; rotate_left 2; (focus (intro W hW; (try dsimp only at hW); go_simp; (try with_reducible rfl))); (focus (simp only [Act.put, List.setIfInBounds_toArray]; rfl)))
  (refine AnyGo.take 5 (some 22) ?_ (a' := ?_) rfl (by kernel_rfl) (fun _ _ d _ _ h => by cases d <;> exact h) (by kernel_rfl) (by rfl) (by kernel_rfl) ?_ ?_ ?_; rotate_left 2; (focus (intro W hW; (try dsimp only at hW); go_simp; (try with_reducible rfl))); (focus (simp only [Act.put, List.setIfInBounds_toArray]; rfl)))
  (refine AnyGo.take 6 (some 23) ?_ (a' := ?_) rfl (by kernel_rfl) (fun _ _ d _ _ h => by cases d <;> exact h) (by kernel_rfl) (by rfl) (by kernel_rfl) ?_ ?_ ?_; rotate_left 2; (focus (intro W hW; (try dsimp only at hW); go_simp; (try with_reducible rfl))); (focus (simp only [Act.put, List.setIfInBounds_toArray]; rfl)))
  (refine AnyGo.take 7 (some 24) ?_ (a' := ?_) rfl (by kernel_rfl) (fun _ _ d _ _ h => by cases d <;> exact h) (by kernel_rfl) (by rfl) (by kernel_rfl) ?_ ?_ ?_; rotate_left 2; (focus (intro W hW; (try dsimp only at hW); go_simp; (try with_reducible rfl))); (focus (simp only [Act.put, List.setIfInBounds_toArray]; rfl)))
  (refine AnyGo.take 8 (some 25) ?_ (a' := ?_) rfl (by kernel_rfl) (fun _ _ d _ _ h => by cases d <;> exact h) (by kernel_rfl) (by rfl) (by kernel_rfl) ?_ ?_ ?_; rotate_left 2; (focus (intro W hW; (try dsimp only at hW); go_simp; (try with_reducible rfl))); (focus (simp only [Act.put, List.setIfInBounds_toArray]; rfl)))
  (refine AnyGo.take 11 (some 28) ?_ (a' := ?_) rfl (by kernel_rfl) (fun _ _ d _ _ h => by cases d <;> exact h) (by kernel_rfl) (by rfl) (by kernel_rfl) ?_ ?_ ?_; rotate_left 2; (focus (intro W hW; (try dsimp only at hW); go_simp; (try with_reducible rfl))); (focus (simp only [Act.put, List.setIfInBounds_toArray]; rfl)))
  (refine AnyGo.take 12 (some 29) ?_ (a' := ?_) rfl (by kernel_rfl) (fun _ _ d _ _ h => by cases d <;> exact h) (by kernel_rfl) (by rfl) (by kernel_rfl) ?_ ?_ ?_; rotate_left 2; (focus (intro W hW; (try dsimp only at hW); go_simp; (try with_reducible rfl))); (focus (simp only [Act.put, List.setIfInBounds_toArray]; rfl)))
  refine AnyGo.two (i := 3) (j := 9) (by kernel_rfl) rfl rfl (by kernel_rfl) (by kernel_rfl) (fun K' hK' => ?_) (fun K' hK' => ?_)
  · go_simp
    refine hK'.out _ _ ⟨(HBX.out.alloc _).c0, (HBX.out.alloc _).c1⟩ ?_
    clear hK' K'
    (try simp only [Act.put, List.setIfInBounds_toArray])
    refine AnyGo.two (i := 4) (j := 9) (by kernel_rfl) rfl rfl (by kernel_rfl) (by kernel_rfl) (fun K' hK' => ?_) (fun K' hK' => ?_)
    · go_simp
      refine hK'.out _ _ ⟨(HBX.out.alloc _).c0, (HBX.out.alloc _).c1⟩ ?_
      clear hK' K'
      (try simp only [Act.put, List.setIfInBounds_toArray])
      refine AnyGo.one (i := 9) (by kernel_rfl) rfl (by kernel_rfl) (fun K' hK' => ?_)
      go_simp
      refine (HP.out _).mono ?_
      rintro e w1 ⟨rfl, hb⟩
      have HB1 := keep (((((Below.refl _ w).alloc (Nat.le_refl _) _).alloc (by simp) _).drew).trans (hb.mono (by simp; omega)))
      have HX1 := keep ((HBX.out.alloc _).drew.to hb)
      refine hK'.out _ _ ⟨HX1.out.c0, HX1.out.c1⟩ ?_
      clear hK' K' hb
      (try simp only [Act.put, List.setIfInBounds_toArray])
      (refine AnyGo.take 10 (some 27) ?_ (a' := ?_) rfl (by kernel_rfl) (fun _ _ d _ _ h => by cases d <;> exact h) (by kernel_rfl) (by rfl) (by kernel_rfl) ?_ ?_ ?_; rotate_left 2; (focus (intro W hW; (try dsimp only at hW); go_simp; (try with_reducible rfl))); (focus (simp only [Act.put, List.setIfInBounds_toArray]; rfl)))
      (refine AnyGo.take 13 (some 30) ?_ (a' := ?_) rfl (by kernel_rfl) (fun _ _ d _ _ h => by cases d <;> exact h) (by kernel_rfl) (by rfl) (by kernel_rfl) ?_ ?_ ?_; rotate_left 2; (focus (intro W hW; (try dsimp only at hW); go_simp; (try with_reducible rfl))); (focus (simp only [Act.put, List.setIfInBounds_toArray]; rfl)))
      (refine AnyGo.take 14 (some 4) ?_ (a' := ?_) rfl (by kernel_rfl) (fun _ _ d _ _ h => by cases d <;> exact h) (by kernel_rfl) (by rfl) (by kernel_rfl) ?_ ?_ ?_; rotate_left 2; (focus (intro W hW; (try dsimp only at hW); go_simp; (try with_reducible rfl))); (focus (simp only [Act.put, List.setIfInBounds_toArray]; rfl)))
      refine AnyGo.fin (by kernel_rfl) ?_
      clear hs1 hs2
      go_wp2_with fail
      refine (HSU.out _).mono ?_
      rintro e w' ⟨rfl, rfl⟩
      go_wp2_with fail
      refine (HBY.out _).mono ?_
      rintro e w9 ⟨rfl, hb⟩
      have HB9 := keep (HB1.out.trans (hb.mono HB1.out.size))
      clear hb
      have hzI : ((b1 ++ n1 ++ S).size : Int) ≤ 100020 := by omega
      go_wp2_with fail
      go_ret2
      exact ⟨by rw [HSE.out]; rfl, HB9.out⟩
    · go_simp
      refine (HP.out _).mono ?_
      rintro e w1 ⟨rfl, hb⟩
      have HB1 := keep (((((Below.refl _ w).alloc (Nat.le_refl _) _).alloc (by simp) _).drew).trans (hb.mono (by simp; omega)))
      have HX1 := keep ((HBX.out.alloc _).drew.to hb)
      have hc1 : w1.cell? ⟨w.heap.size + 1, 0, none⟩ = some (.int .u8 K) := by
        rw [hb.cell (p := ⟨w.heap.size + 1, 0, none⟩) (by simp)]
        have := cell_new1 (w.alloc (.cells #[.int .i64 K, .string S] 23)) (.int .u8 K) 5
        rw [World.size_alloc] at this
        exact this
      refine hK'.out _ _ ⟨HX1.out.c0, HX1.out.c1⟩ ?_
      clear hK' K' hb
      (try simp only [Act.put, List.setIfInBounds_toArray])
      refine AnyGo.one (i := 4) (by kernel_rfl) rfl (by kernel_rfl) (fun K' hK' => ?_)
      go_simp
      refine hK'.out _ _ ⟨HX1.out.c0, HX1.out.c1⟩ ?_
      clear hK' K' hc1
      (try simp only [Act.put, List.setIfInBounds_toArray])
      (refine AnyGo.take 10 (some 27) ?_ (a' := ?_) rfl (by kernel_rfl) (fun _ _ d _ _ h => by cases d <;> exact h) (by kernel_rfl) (by rfl) (by kernel_rfl) ?_ ?_ ?_; rotate_left 2; (focus (intro W hW; (try dsimp only at hW); go_simp; (try with_reducible rfl))); (focus (simp only [Act.put, List.setIfInBounds_toArray]; rfl)))
      (refine AnyGo.take 13 (some 30) ?_ (a' := ?_) rfl (by kernel_rfl) (fun _ _ d _ _ h => by cases d <;> exact h) (by kernel_rfl) (by rfl) (by kernel_rfl) ?_ ?_ ?_; rotate_left 2; (focus (intro W hW; (try dsimp only at hW); go_simp; (try with_reducible rfl))); (focus (simp only [Act.put, List.setIfInBounds_toArray]; rfl)))
      (refine AnyGo.take 14 (some 4) ?_ (a' := ?_) rfl (by kernel_rfl) (fun _ _ d _ _ h => by cases d <;> exact h) (by kernel_rfl) (by rfl) (by kernel_rfl) ?_ ?_ ?_; rotate_left 2; (focus (intro W hW; (try dsimp only at hW); go_simp; (try with_reducible rfl))); (focus (simp only [Act.put, List.setIfInBounds_toArray]; rfl)))
      refine AnyGo.fin (by kernel_rfl) ?_
      clear hs1 hs2
      go_wp2_with fail
      refine (HSU.out _).mono ?_
      rintro e w' ⟨rfl, rfl⟩
      go_wp2_with fail
      refine (HBY.out _).mono ?_
      rintro e w9 ⟨rfl, hb⟩
      have HB9 := keep (HB1.out.trans (hb.mono HB1.out.size))
      clear hb
      have hzI : ((b1 ++ n1 ++ S).size : Int) ≤ 100020 := by omega
      go_wp2_with fail
      go_ret2
      exact ⟨by rw [HSE.out]; rfl, HB9.out⟩
  · go_simp
    refine (HP.out _).mono ?_
    rintro e w1 ⟨rfl, hb⟩
    have HB0 := keep (((((Below.refl _ w).alloc (Nat.le_refl _) _)).drew).trans (hb.mono (by simp)))
    have HX1 := keep (HBX.out.drew.to hb)
    refine hK'.out _ _ ⟨HX1.out.c0, HX1.out.c1⟩ ?_
    clear hK' K' hb
    (try simp only [Act.put, List.setIfInBounds_toArray])
    refine AnyGo.one (i := 3) (by kernel_rfl) rfl (by kernel_rfl) (fun K' hK' => ?_)
    go_simp
    refine hK'.out _ _ ⟨(HX1.out.alloc _).c0, (HX1.out.alloc _).c1⟩ ?_
    clear hK' K'
    (try simp only [Act.put, List.setIfInBounds_toArray])
    have hc1 := cell_new1 w1 (.int .u8 K) 5
    refine AnyGo.one (i := 4) (by kernel_rfl) rfl (by kernel_rfl) (fun K' hK' => ?_)
    go_simp
    refine hK'.out _ _ ⟨(HX1.out.alloc _).c0, (HX1.out.alloc _).c1⟩ ?_
    have HB1 := keep (HB0.out.alloc HB0.out.size (.cells #[.int .u8 K] 5))
    clear hK' K' hc1
    (try simp only [Act.put, List.setIfInBounds_toArray])
    (refine AnyGo.take 10 (some 27) ?_ (a' := ?_) rfl (by kernel_rfl) (fun _ _ d _ _ h => by cases d <;> exact h) (by kernel_rfl) (by rfl) (by kernel_rfl) ?_ ?_ ?_; rotate_left 2; (focus (intro W hW; (try dsimp only at hW); go_simp; (try with_reducible rfl))); (focus (simp only [Act.put, List.setIfInBounds_toArray]; rfl)))
    (refine AnyGo.take 13 (some 30) ?_ (a' := ?_) rfl (by kernel_rfl) (fun _ _ d _ _ h => by cases d <;> exact h) (by kernel_rfl) (by rfl) (by kernel_rfl) ?_ ?_ ?_; rotate_left 2; (focus (intro W hW; (try dsimp only at hW); go_simp; (try with_reducible rfl))); (focus (simp only [Act.put, List.setIfInBounds_toArray]; rfl)))
    (refine AnyGo.take 14 (some 4) ?_ (a' := ?_) rfl (by kernel_rfl) (fun _ _ d _ _ h => by cases d <;> exact h) (by kernel_rfl) (by rfl) (by kernel_rfl) ?_ ?_ ?_; rotate_left 2; (focus (intro W hW; (try dsimp only at hW); go_simp; (try with_reducible rfl))); (focus (simp only [Act.put, List.setIfInBounds_toArray]; rfl)))
    refine AnyGo.fin (by kernel_rfl) ?_
    clear hs1 hs2
    go_wp2_with fail
    refine (HSU.out _).mono ?_
    rintro e w' ⟨rfl, rfl⟩
    go_wp2_with fail
    refine (HBY.out _).mono ?_
    rintro e w9 ⟨rfl, hb⟩
    have HB9 := keep (HB1.out.trans (hb.mono HB1.out.size))
    clear hb
    have hzI : ((b1 ++ n1 ++ S).size : Int) ≤ 100020 := by omega
    go_wp2_with fail
    go_ret2
    exact ⟨by rw [HSE.out]; rfl, HB9.out⟩

set_option maxHeartbeats 1000000 in
theorem refFr_any (f : Fr) (w : World) (hs : f.S.size ≤ 100000) :
    Calls Try.prog 11 #[f.agg] w fun e w' => e = .returned (putT f) ∧ Below w.heap.size w w' := by
  by_cases hk : f.K < 0 ∨ 255 < f.K
  · have HT := keep (putT_arg hk)
    generalize putT f = T at *
    obtain ⟨K, S⟩ := f
    unfold Fr.agg
    simp only at hk ⊢
    clear hs
    rcases hk with hk | hk
    · go_enter Try.func11, Try.ntmps11
      go_wp2_with fail
      go_ret2
      exact ⟨by rw [HT.out]; rfl, (Below.refl _ _).alloc (Nat.le_refl _) _⟩
    · go_enter Try.func11, Try.ntmps11
      go_wp2_with fail
      go_ret2
      exact ⟨by rw [HT.out]; rfl, (Below.refl _ _).alloc (Nat.le_refl _) _⟩
  · have hf : f.ok := ⟨by omega, by omega, by omega⟩
    rw [putT_ok hf]
    exact refFr_ok f w hf hs
end Go.Proofs.Ytghgahcgbnpidaa
