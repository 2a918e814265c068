/-
  The frame at a place: the program's Next.
-/
import Derived.Test.YtghgahcgbnpidaaFrameA
import Derived.RegionTactic
import Derived.BigRegion
import Derived.BigQuiet
import Derived.Deep.QuietTactic
import Derived.Laws.NewBlocks
namespace Go.Proofs.Ytghgahcgbnpidaa
open Go.RowKit

theorem sub_extract (s : ByteArray) {a b i j : Nat} (h : a + j ≤ b) : (s.extract a b).extract i j = s.extract (a + i) (a + j) := by
  rw [extract_is, extract_is, extract_is, str_data]
  congr 1
  rw [List.drop_take, List.drop_drop, List.take_take]
  congr 1
  omega

def nxT (x : Fr × Nat × Nat) : Ending := .returned (.tuple #[x.1.agg, .int .i64 x.2.1, .int .i64 x.2.2])
theorem nxT_bad (c : Nat) : Ending.returned (.tuple #[.agg #[.int .i64 0, .string ⟨#[]⟩], .int .i64 0, .int .i64 (c : Int)]) = nxT (zf, 0, c) := rfl

theorem open_frame {s : ByteArray} {a m : Nat} (h1 : a ≤ m) (h2 : m + 4 ≤ s.size) : openT (s.extract a (m + 4)) = if s.extract m (m + 4) = seal4 (sumI (s.extract a m)) then .tuple #[.string (s.extract a m), .int .i64 0] else .tuple #[.string ⟨#[]⟩, .int .i64 4] := by
  have hz : (s.extract a (m + 4)).size = m + 4 - a := by rw [ByteArray.size_extract]; omega
  unfold openT
  rw [if_neg (by omega), hz, sub_extract s (by omega), sub_extract s (by omega), show a + (m + 4 - a - 4) = m by omega, show a + (m + 4 - a) = m + 4 by omega, Nat.add_zero a]

set_option maxHeartbeats 2000000 in
theorem fnext_in (s : ByteArray) (a : Nat) (w : World) (hs : s.size ≤ 100000) (ha : a < s.size) :
    Calls Try.prog 12 #[.string s, .int .i64 a] w fun e w' => e = nxT (nx s a) ∧ Below w.heap.size w w' := by
  have hnx : nx s a = rest s a (getV s (a + 1)) := by unfold nx; rw [if_neg (by omega)]
  rw [hnx]
  have HG := keep (fun w => get_in s (a + 1) w (by omega) (by omega))
  rw [show ((a + 1 : Nat) : Int) = (a : Int) + 1 by omega] at HG
  have hg := getV_cases s (a + 1) (by omega)
  generalize getV s (a + 1) = g at *
  obtain ⟨u, m, er⟩ := g
  simp only at hg
  unfold tup3 at HG
  simp only at HG
  obtain ⟨U, hU⟩ : ∃ U : Int, U = (u : Int) := ⟨_, rfl⟩
  obtain ⟨M, hM⟩ : ∃ M : Int, M = (m : Int) := ⟨_, rfl⟩
  obtain ⟨E, hE⟩ : ∃ E : Int, E = (er : Int) := ⟨_, rfl⟩
  rw [← hU, ← hM, ← hE] at HG
  have ha0 : (0 : Int) ≤ (a : Int) := by omega
  have hlt : (a : Int) < (s.size : Int) := by omega
  have hne : ((a : Int) == (s.size : Int)) = false := by simp; omega
  have hz : (s.size : Int) ≤ 100000 := by omega
  clear hnx
  by_cases he : er = 0
  · subst he
    obtain rfl : E = 0 := by omega
    rcases hg with ⟨-, -, hm1, hm2, -, hu⟩ | ⟨-, h0⟩
    · by_cases hu2 : 1048576 < u
      · have HR : Keep (rest s a (u, m, 0) = (zf, 0, 5)) := keep (by unfold rest; simp only [ne_eq, not_true_eq_false, if_false]; rw [if_pos hu2])
        have huI : (1048576 : Int) < U := by omega
        clear hu hu2 hU hM hE hm1 hm2 ha hs
        go_enter Try.func12, Try.ntmps12
        go_wp2_with fail
        refine (HG.out _).mono ?_
        rintro e w' ⟨rfl, rfl⟩
        go_wp2_with fail
        go_returns
        exact ⟨by rw [HR.out]; exact nxT_bad 5, ((Below.refl _ _).alloc (Nat.le_refl _) _)⟩
      · have huw : IntKind.i64.wrap U = U := IntWalk.i64_in _ ⟨by omega, by omega⟩
        have hu0 : (0 : Int) ≤ U := by omega
        have huI : U ≤ 1048576 := by omega
        have hm0 : (0 : Int) ≤ M := by omega
        have hm3 : M ≤ 100000 := by omega
        have ham : (a : Int) < M := by omega
        by_cases hz2 : s.size < m + u + 4
        · have HR : Keep (rest s a (u, m, 0) = (zf, 0, 2)) := keep (by unfold rest; simp only [ne_eq, not_true_eq_false, if_false]; rw [if_neg hu2, if_pos hz2])
          have hzI : (s.size : Int) < M + U + 4 := by omega
          clear hu hu2 hz2 hU hM hE hm1 hm2 ha hs
          go_enter Try.func12, Try.ntmps12
          go_wp2_with fail
          refine (HG.out _).mono ?_
          rintro e w' ⟨rfl, rfl⟩
          go_wp2_with fail
          go_returns
          exact ⟨by rw [HR.out]; exact nxT_bad 2, ((Below.refl _ _).alloc (Nat.le_refl _) _)⟩
        · have hzI : M + U + 4 ≤ (s.size : Int) := by omega
          have HR0 : rest s a (u, m, 0) = if s.extract (m + u) (m + u + 4) = seal4 (sumI (s.extract a (m + u))) then (⟨bt s a, s.extract m (m + u)⟩, m + u + 4, 0) else (zf, 0, 4) := by
            unfold rest; simp only [ne_eq, not_true_eq_false, if_false]; rw [if_neg hu2, if_neg hz2]
          have HO0 := fun W => open_any (s.extract a (m + u + 4)) W (by rw [ByteArray.size_extract]; omega)
          rw [open_frame (s := s) (a := a) (m := m + u) (by omega) (by omega)] at HO0
          have hn0 : M.toNat = m := by omega
          have hn1 : (M + U).toNat = m + u := by omega
          have hn2 : (M + U + 4).toNat = m + u + 4 := by omega
          have ham2 : (a : Int) ≤ M + U + 4 := by omega
          have ham3 : M ≤ M + U := by omega
          have ham4 : M + U ≤ (s.size : Int) := by omega
          have HEQ : Keep (M + U + 4 = ((m + u + 4 : Nat) : Int)) := keep (by omega)
          have HLT : Keep (a < s.size) := keep ha
          by_cases hseal : s.extract (m + u) (m + u + 4) = seal4 (sumI (s.extract a (m + u)))
          · rw [if_pos hseal] at HR0 HO0
            have HR := keep HR0
            have HO := keep HO0
            have hb := get_bt s
            have hbb := bt_bd s a
            clear hu hu2 hz2 HR0 HO0 hseal hU hM hE hm1 hm2 ha hs
            go_enter Try.func12, Try.ntmps12
            go_wp2_with fail
            refine (HG.out _).mono ?_
            rintro e w' ⟨rfl, rfl⟩
            go_wp2_with fail
            refine (HO.out _).mono ?_
            rintro e w1 ⟨rfl, hb1⟩
            have HX := keep ((Box2.new w (.int .i64 0) (.string ⟨#[]⟩) 23).to hb1)
            have HB := keep (((Below.refl _ w).alloc (Nat.le_refl _) _).trans (hb1.mono (by simp)))
            clear hb1
            go_wp2_with fail
            obtain ⟨hc, hc1, hl, hf, hf1⟩ := HX.out
            have hs0 := HX.out.s0
            have hs1 := HX.out.s1
            go_region
            go_wp2_with fail
            refine bodyPost_ret (v := .tuple #[.agg #[.int .i64 (bt s a), .string (s.extract m (m + u))], .int .i64 (M + U + 4), .int .i64 0]) ?_ rfl ⟨by rw [HR.out, HEQ.out]; rfl, ((HB.out.setCell (Nat.le_refl _) _).setCell (Nat.le_refl _) _).drew⟩
            simp [results, Try.results12, go_sem, hs0, hs1]
          · rw [if_neg hseal] at HR0 HO0
            have HR := keep HR0
            have HO := keep HO0
            clear hu hu2 hz2 HR0 HO0 hseal hU hM hE hm1 hm2 ha hs
            go_enter Try.func12, Try.ntmps12
            go_wp2_with fail
            refine (HG.out _).mono ?_
            rintro e w' ⟨rfl, rfl⟩
            go_wp2_with fail
            refine (HO.out _).mono ?_
            rintro e w1 ⟨rfl, hb1⟩
            have HB := keep (((Below.refl _ w).alloc (Nat.le_refl _) _).trans (hb1.mono (by simp)))
            have HX := keep ((Box2.new w (.int .i64 0) (.string ⟨#[]⟩) 23).to hb1)
            obtain ⟨hc, hc1, hl, hf, hf1⟩ := HX.out
            have hs0 := HX.out.s0
            have hs1 := HX.out.s1
            clear hb1
            go_wp2_with fail
            refine bodyPost_ret (v := .tuple #[.agg #[.int .i64 0, .string ⟨#[]⟩], .int .i64 0, .int .i64 4]) ?_ rfl ⟨by rw [HR.out]; exact nxT_bad 4, ((HB.out.setCell (Nat.le_refl _) _).setCell (Nat.le_refl _) _)⟩
            simp [results, Try.results12, go_sem, hs0, hs1]
    · exact absurd rfl h0
  · have HR : Keep (rest s a (u, m, er) = (zf, 0, er)) := keep (by unfold rest; rw [if_pos he])
    have heI : (E == 0) = false := by simp; omega
    have HE := keep hE
    clear hg he hU hM hE ha hs
    go_enter Try.func12, Try.ntmps12
    go_wp2_with fail
    refine (HG.out _).mono ?_
    rintro e w' ⟨rfl, rfl⟩
    go_wp2_with fail
    go_returns
    exact ⟨by rw [HR.out, HE.out]; exact nxT_bad er, ((Below.refl _ _).alloc (Nat.le_refl _) _)⟩

set_option maxHeartbeats 1000000 in
theorem fnext_any (s : ByteArray) (at_ : Int) (w : World) (hs : s.size ≤ 100000) :
    Calls Try.prog 12 #[.string s, .int .i64 at_] w fun e w' => e = nxT (nxI s at_) ∧ Below w.heap.size w w' := by
  by_cases h0 : at_ < 0
  · rw [nxI_out (.inl h0)]
    go_enter Try.func12, Try.ntmps12
    go_wp2
    go_returns
    exact ⟨nxT_bad 1, (Below.refl _ _).alloc (Nat.le_refl _) _⟩
  · by_cases h1 : (s.size : Int) < at_
    · rw [nxI_out (.inr h1)]
      go_enter Try.func12, Try.ntmps12
      go_wp2
      go_returns
      exact ⟨nxT_bad 1, (Below.refl _ _).alloc (Nat.le_refl _) _⟩
    · obtain ⟨a, rfl⟩ := Int.eq_ofNat_of_zero_le (show 0 ≤ at_ by omega)
      rw [nxI_in (by omega)]
      by_cases hlt : a < s.size
      · exact fnext_in s a w hs hlt
      · have hA : a = s.size := by omega
        have HN : Keep (nx s a = (zf, 0, 2)) := keep (by unfold nx; rw [if_pos hA])
        generalize nx s a = N at *
        subst hA
        clear h0 h1 hlt hs
        go_enter Try.func12, Try.ntmps12
        go_wp2
        go_returns
        exact ⟨by rw [HN.out]; exact nxT_bad 2, (Below.refl _ _).alloc (Nat.le_refl _) _⟩
end Go.Proofs.Ytghgahcgbnpidaa
