/-
  The document's bytes of a number (a function that calls itself); how many there are.
-/
import Derived.Test.YtghgahcgbnpidaaVintB
namespace Go.Proofs.Ytghgahcgbnpidaa
open Go.RowKit

theorem numF_len : ∀ (f u : Nat), 1 ≤ (numF f u).length ∧ (numF f u).length ≤ f + 1
  | 0, u => by simp [numF]
  | f + 1, u => by
    have := numF_len f (u / 128)
    simp only [numF]
    split <;> simp <;> omega
theorem num_len (u : Nat) : 1 ≤ (num u).length ∧ (num u).length ≤ 11 := numF_len 10 u

theorem byte_of_cell (W : World) (B : Nat) (c : Int) (h : W.cell? ⟨B, 0, none⟩ = some (.int .u8 c)) :
    (convert 30 9 (.slice (some ⟨B, 0, none⟩) 1 1)).run Try.prog W = .ok (.string (strOfNums [c])) W :=
  run_convert_bytes_arg (P := Try.prog) W 30 5 Try.underlying30 Try.underlying5 B 0 1 1 [c] rfl (fun i hi => by
    obtain rfl : i = 0 := by omega
    exact h) 9 Try.underlying9

theorem num_cat {u : Int} {b s : ByteArray} (h0 : 128 ≤ u) (h1 : u < 18446744073709551616) (hb : b = strOfNums [u % 128 + 128]) (hs : s.data.toList = num (u / 128).toNat) : (b ++ s).data.toList = num u.toNat := by
  have e1 : (u / 128).toNat = u.toNat / 128 := by omega
  have e2 : (u % 128 + 128).toNat = u.toNat % 128 + 128 := by omega
  rw [num_ge (u := u.toNat) (by omega) (by omega), cat_data, hs, hb, e1, strOfNums_data, ← e2]
  simp

set_option maxHeartbeats 1000000 in
theorem refNum_any (f : Nat) : ∀ (u : Int) (w : World), 0 ≤ u → u.toNat < 128 ^ (f + 1) → u < 18446744073709551616 →
    Calls Try.prog 24 #[.int .u64 u] w (StrIs (num u.toNat) w) := by
  induction f with
  | zero =>
    intro u w h0 hu h1
    have hu' : u < 128 := by omega
    have hcv := byte_of_cell _ _ _ (cell_new1 w (.int .u8 u) 5)
    clear h1 hu
    go_enter Try.func24, Try.ntmps24
    go_wp2_with fail
    go_ret
    exact ⟨_, rfl, by rw [num_lt (by omega)]; rfl, (Below.refl _ _).alloc (Nat.le_refl _) _⟩
  | succ f ih =>
    intro u w h0 hu h1
    by_cases hu' : u < 128
    · have hcv := byte_of_cell _ _ _ (cell_new1 w (.int .u8 u) 5)
      clear h1 hu
      go_enter Try.func24, Try.ntmps24
      go_wp2_with fail
      go_ret
      exact ⟨_, rfl, by rw [num_lt (by omega)]; rfl, (Below.refl _ _).alloc (Nat.le_refl _) _⟩
    · have hge : 128 ≤ u := by omega
      have HC : Keep (∀ W, Calls Try.prog 24 #[.int .u64 (u / 128)] W (StrIs (num (u / 128).toNat) W)) := keep fun W => ih (u / 128) W (by omega) (by
        have e : (u / 128).toNat = u.toNat / 128 := by omega
        rw [e, Nat.div_lt_iff_lt_mul (by omega)]; rw [Nat.pow_succ] at hu; exact hu) (by omega)
      have H1 := keep h1
      clear h1 hu ih hu'
      go_enter Try.func24, Try.ntmps24
      go_wp2_with fail
      obtain ⟨b1, eb1⟩ : ∃ b1, b1 = strOfNums [u % 128 + 128] := ⟨_, rfl⟩
      have hbz : b1.size ≤ 1 := by rw [eb1, strOfNums_size]; simp
      have hcv := fun W B => byte_of_cell W B (u % 128 + 128)
      rw [← eb1] at hcv
      have EB := keep eb1
      clear eb1
      have hm : u.tmod 128 = u % 128 := Int.tmod_eq_emod_of_nonneg h0
      have hd : u.tdiv 128 = u / 128 := Int.tdiv_eq_ediv_of_nonneg h0
      have hw1 : IntKind.u8.wrap (u % 128) = u % 128 := IntWalk.u8_in _ ⟨by omega, by omega⟩
      have hw2 : IntKind.u8.wrap (u % 128 + 128) = u % 128 + 128 := IntWalk.u8_in _ ⟨by omega, by omega⟩
      have hw3 : IntKind.u64.wrap (u / 128) = u / 128 := IntWalk.u64_in _ ⟨by omega, by have := H1.out; omega⟩
      go_region_with (go_at_call 24; refine (HC.out _).mono ?_; rintro e w1 ⟨s1, rfl, hs1, hb⟩; have hz : s1.size ≤ 11 := (by rw [size_of hs1]; exact (num_len _).2); have HS := keep hs1; have HB := keep hb; (try (have hc1 := cell_after hb)); clear hs1 hb)
      all_goals
        clear hm hd hw1 hw2 hw3 hcv
        go_wp2_with fail
        go_ret
        refine ⟨_, rfl, num_cat hge (by have := H1.out; omega) EB.out HS.out, ?_⟩
        first
          | exact (((Below.refl _ _).alloc (Nat.le_refl _) _).drew).trans (HB.out.mono (by show w.heap.size ≤ (w.heap.push _).size; simp))
          | exact (Below.trans (a := w) (b := w.drew) ((Below.refl _ _).drew) HB.out).alloc HB.out.size _
end Go.Proofs.Ytghgahcgbnpidaa
