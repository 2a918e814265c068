/-
  Lists of ints in memory; the document's Same at lists that are alike.
-/
import Derived.Test.YtafeahjhdjcimaaWireZ
namespace Go.Proofs.Ytafeahjhdjcimaa
open Go.RowKit Go.Joins

/-- The slice v reads as xs, in blocks below B. -/
structure IntRow (B : Nat) (w : World) (v : Value) (xs : List Int) : Prop where
  room : xs.length ≤ 9223372036854775807
  out : (xs = [] ∧ ∃ o cap, v = .slice o 0 cap) ∨ ∃ b off cap, v = .slice (some ⟨b, off, none⟩) xs.length cap ∧ b < B ∧ ∀ i, i < xs.length → w.cell? ⟨b, off + i, none⟩ = some (.int .i64 (xs.getD i 0))

theorem IntRow.below {B : Nat} {w w' : World} {v : Value} {xs : List Int} (h : IntRow B w v xs) (hb : Below B w w') : IntRow B w' v xs := by
  refine ⟨h.room, ?_⟩
  rcases h.out with h | ⟨b, off, cap, h1, h2, h3⟩
  · exact .inl h
  · exact .inr ⟨b, off, cap, h1, h2, fun i hi => (hb.cell (p := ⟨b, off + i, none⟩) h2).trans (h3 i hi)⟩
theorem IntRow.mono {B B' : Nat} {w : World} {v : Value} {xs : List Int} (h : IntRow B w v xs) (hb : B ≤ B') : IntRow B' w v xs := by
  refine ⟨h.room, ?_⟩
  rcases h.out with h | ⟨b, off, cap, h1, h2, h3⟩
  · exact .inl h
  · exact .inr ⟨b, off, cap, h1, by omega, h3⟩
theorem IntRow.of_own {B : Nat} {w : World} {v : Value} {xs : List Int} (h : w.ownsRow B 3 1 v xs.length (xs.map (Value.int .i64))) : IntRow w.heap.size w v xs := by
  have hm : xs.length ≤ 9223372036854775807 := by
    rcases h.2 with ⟨_, h0⟩ | ⟨g, cap, cur, _, _, _, h1, h2, _⟩
    · omega
    · unfold maxLen at h2; omega
  refine ⟨hm, ?_⟩
  rcases h.2 with ⟨rfl, h0⟩ | ⟨g, cap, cur, rfl, hb, hg, _⟩
  · exact .inl ⟨List.length_eq_zero_iff.1 h0, _, _, rfl⟩
  · refine .inr ⟨g, 0, cap, rfl, lt_of_block hg, fun i hi => ?_⟩
    have := h.cells (g := g) rfl i (.int .i64 (xs.getD i 0)) (by rw [List.getElem?_map, List.getElem?_eq_getElem hi]; simp [List.getD, hi])
    rwa [show (⟨g, 0, none⟩ : Addr).add i = ⟨g, 0 + i, none⟩ by unfold Addr.add; split <;> simp_all] at this

set_option maxHeartbeats 400000 in
theorem same_any (v u : Value) (xs : List Int) (w : World) (h : IntRow w.heap.size w v xs) (h' : IntRow w.heap.size w u xs) :
    Calls Try.prog 22 #[v, u] w fun e w' => e = .returned (.bool true) ∧ Below w.heap.size w w' := by
  have hm := h.room
  rcases h.out with ⟨rfl, o, cap, rfl⟩ | ⟨b, off, cap, rfl, hb, hc⟩
  · rcases h'.out with ⟨_, o', cap', rfl⟩ | ⟨b', off', cap', rfl, hb', hc'⟩
    · clear h h' hm
      go_enter Try.func22, Try.ntmps22
      go_wp2
      refine wp_loop_rounds 1 ?_
      rw [rounds_succ]
      go_wp2
      go_ret
      exact ⟨rfl, Below.refl _ _⟩
    · clear h h' hm hb' hc'
      simp only [List.length_nil]
      go_enter Try.func22, Try.ntmps22
      go_wp2
      refine wp_loop_rounds 1 ?_
      rw [rounds_succ]
      go_wp2
      go_ret
      exact ⟨rfl, Below.refl _ _⟩
  · rcases h'.out with ⟨rfl, o', cap', rfl⟩ | ⟨b', off', cap', rfl, hb', hc'⟩
    · clear h h' hm hb hc
      simp only [List.length_nil]
      go_enter Try.func22, Try.ntmps22
      go_wp2
      refine wp_loop_rounds 1 ?_
      rw [rounds_succ]
      go_wp2
      go_ret
      exact ⟨rfl, Below.refl _ _⟩
    · have HC := keep hc
      have HC' := keep hc'
      obtain ⟨n, hn⟩ : ∃ n, n = xs.length := ⟨_, rfl⟩
      rw [← hn] at HC HC' hm ⊢
      have hmI : (n : Int) ≤ 9223372036854775807 := by omega
      clear h h' hc hc' hn hm
      go_enter Try.func22, Try.ntmps22
      go_wp2_with fail
      go_loopw [5] (fun i wr => ∃ k : Nat, i = .int .i64 k ∧ k ≤ n ∧ Keep (Below w.heap.size w wr)) (fun i _ => n - (intOf i).toNat)
      case atStart => exact ⟨0, rfl, Nat.zero_le _, ⟨Below.refl _ _⟩⟩
      case round =>
        obtain ⟨k, rfl, hk, HB⟩ := hrel
        by_cases hlt : k < n
        · have hcell := (HB.out.cell (p := ⟨b, off + k, none⟩) hb).trans (HC.out k hlt)
          have hcell' := (HB.out.cell (p := ⟨b', off' + k, none⟩) hb').trans (HC'.out k hlt)
          generalize xs.getD k 0 = z at *
          have hltI : (k : Int) < n := by omega
          go_wp2_with fail
          go_quiet (fail)
          go_wp2_with fail
          go_roundw
          case rel => exact ⟨k + 1, by go_num, by omega, ⟨HB.out.trans (below_draws _ _ _)⟩⟩
          case measure => simp [intOf]; omega
        · obtain rfl : k = n := by omega
          go_wp2_with fail
          go_ret
          exact ⟨rfl, HB.out⟩
end Go.Proofs.Ytafeahjhdjcimaa
