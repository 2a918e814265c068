/-
  The document's Same at rows of tokens that are alike.
-/
import Derived.Test.YtekonndjanaoaaaDoorTokZ
import Derived.Test.YtekonndjanaoaaaDoorZeros
namespace Go.Proofs.YtekonndjanaoaaaDoor
open Go.RowKit Go.Joins

set_option maxHeartbeats 2000000 in
theorem same_any (v u : Value) (ts : List Tok) (w : World) (h : TkRow w.heap.size w v ts) (h' : TkRow w.heap.size w u ts) :
    Calls Tryd.prog 12 #[v, u] w fun e w' => e = .returned (.bool true) ∧ Below w.heap.size w w' := by
  have hm := h.room
  obtain ⟨o, cap, rfl, hf⟩ := h.form
  obtain ⟨o', cap', rfl, hf'⟩ := h'.form
  have HF := keep hf
  have HF' := keep hf'
  obtain ⟨n, hn⟩ : ∃ n, n = ts.length := ⟨_, rfl⟩
  have HN := keep hn
  rw [← hn] at hm ⊢
  have hmI : (n : Int) ≤ 1000000 := by omega
  clear h h' hf hf' hm hn
  go_enter Tryd.func12, Tryd.ntmps12
  go_wp2_with fail
  go_loopw [5] (fun i wr => ∃ k : Nat, i = .int .i64 k ∧ k ≤ n ∧ Keep (Below w.heap.size w wr)) (fun i _ => n - (intOf i).toNat)
  case atStart => exact ⟨0, rfl, Nat.zero_le _, ⟨Below.refl _ _⟩⟩
  case round =>
    obtain ⟨k, rfl, hk, HB⟩ := hrel
    by_cases hlt : k < n
    · obtain ⟨t, ht⟩ := get_of_lt (l := ts) (i := k) (by rw [← HN.out]; exact hlt)
      obtain ⟨b, off, rfl, hb, hc⟩ := HF.out k t ht
      obtain ⟨b', off', rfl, hb', hc'⟩ := HF'.out k t ht
      obtain ⟨c0, c1, c2, c3⟩ := hc wr HB.out
      obtain ⟨d0, d1, d2, d3⟩ := hc' wr HB.out
      obtain ⟨tk, tS, tv, ta⟩ := t
      simp only at c0 c1 c2 c3 d0 d1 d2 d3
      have hltI : (k : Int) < n := by omega
      clear ht hc hc' hb hb'
      go_wp2_with fail
      go_quiet (fail)
      go_wp2_with fail
      go_roundw
      case rel => exact ⟨k + 1, by go_num, by omega, ⟨HB.out.trans (below_draws _ _ _)⟩⟩
      case measure => simp [intOf]; omega
    · have hkn : n = k := by omega
      subst hkn
      have hdn : decide (n < n) = false := by simp
      clear hlt
      go_wp2_with fail
      go_ret
      exact ⟨rfl, HB.out⟩
end Go.Proofs.YtekonndjanaoaaaDoor
