/-
  The deque's row copied; laid into another ring.
-/
import Derived.Test.YtphjemnmbbeieaaDequeA
namespace Go.Proofs.Ytphjemnmbbeieaa
open Go.RowKit

set_option maxHeartbeats 1000000 in
theorem copyTo_any (d g : Nat) (cs : List Value) (f : Nat) (l : List ByteArray) (w : World) (h : DAt d g cs f l w) (hl : 0 < l.length) (b c : Nat) (cur : List Value) (hb : w.heap[b]? = some (.cells cur.toArray 9 (0, 0))) (hbg : b ≠ g) (hbd : b ≠ d) (hlc : l.length ≤ c) (hcc : c ≤ cur.length) (hcm : c ≤ 1000000) :
    Calls Try.prog 31 #[.pointer (some ⟨d, 0, none⟩), .slice (some ⟨b, 0, none⟩) l.length c] w fun e w' => e = .returned (.tuple #[]) ∧
      w.grownBy w' (some b) ∧ w'.heap[b]? = some (.cells (l.map (Value.string) ++ cur.drop l.length).toArray 9 (0, 0)) := by
  have HA := keep h
  have HB := keep hb
  obtain ⟨hc0, hc1, _, _⟩ := h.box.cells
  have HP := keep h.ring.parts
  rw [List.length_map] at HP
  have HP1 := keep (part1_len cs f l.length)
  have HP2 := keep (part2_len (cs := cs) (f := f) h.room)
  have hfn := h.ring.first
  have hnm := h.le
  have hrm := h.room
  have H1 : Keep (∀ v ∈ part1 cs f l.length ++ part2 cs f l.length, v.oneCell' = true) := ⟨by rw [HP.out]; exact one_els l⟩
  obtain ⟨k, hk⟩ : ∃ k, k = l.length := ⟨_, rfl⟩
  obtain ⟨m, hm⟩ : ∃ m, m = min k (cs.length - f) := ⟨_, rfl⟩
  obtain ⟨n, hn⟩ : ∃ n, n = cs.length := ⟨_, rfl⟩
  have HN := keep hn
  have HK := keep hk
  rw [← hk] at HP1 HP2 HP H1 hl hlc hrm
  rw [← hn] at HP1 HP2 hc0 hfn hnm hrm hm
  rw [← hk]
  rw [← hm] at HP1
  have HM := keep hm
  have hmk : m ≤ k := by omega
  have hm0 : 0 < m := by omega
  clear hm h hk hn hb
  have HC : Keep (b ≠ g ∧ b ≠ d ∧ k ≤ c ∧ c ≤ cur.length) := ⟨hbg, hbd, hlc, hcc⟩
  have hk0 : ((k : Int) = 0) = False := by simp; omega
  have hfI : (f : Int) < (n : Int) := by omega
  have hf0 : (0 : Int) ≤ (f : Int) := by omega
  have hnI : (n : Int) ≤ 1000000 := by omega
  clear hbg hbd hcc
  go_enter Try.func31, Try.ntmps31
  go_wp2_with fail
  have hsl := run_from (P := Try.prog) (t := 25) Try.underlying25 elSize g 0 n n f (by omega) hfn
  refine AnyGo.region (fun W' => W'.cell? ⟨d, 0, none⟩ = some (.slice (some ⟨g, 0, none⟩) n n) ∧ W'.cell? ⟨d, 1, none⟩ = some (.int .i64 (f : Int))) (by kernel_rfl) (by rfl) ⟨hc0, hc1⟩ ?_
  intro wd ewd
  subst ewd
  (refine AnyGo.take 0 (some 8) ?_ (a' := ?_) rfl (by kernel_rfl) (fun _ _ d _ _ h => by cases d <;> exact h) (by kernel_rfl) (by rfl) (by kernel_rfl) ?_ ?_ ?_; rotate_left 2; (focus (intro W hW; (try dsimp only at hW); go_simp; (try with_reducible rfl))); (focus (simp only [Act.put, List.setIfInBounds_toArray]; rfl)))
  (refine AnyGo.take 1 (some 9) ?_ (a' := ?_) rfl (by kernel_rfl) (fun _ _ d _ _ h => by cases d <;> exact h) (by kernel_rfl) (by rfl) (by kernel_rfl) ?_ ?_ ?_; rotate_left 2; (focus (intro W hW; (try dsimp only at hW); go_simp; (try with_reducible rfl))); (focus (simp only [Act.put, List.setIfInBounds_toArray]; rfl)))
  (refine AnyGo.take 2 (some 10) ?_ (a' := ?_) rfl (by kernel_rfl) (fun _ _ d _ _ h => by cases d <;> exact h) (by kernel_rfl) (by rfl) (by kernel_rfl) ?_ ?_ ?_; rotate_left 2; (focus (intro W hW; (try dsimp only at hW); go_simp; (try with_reducible rfl))); (focus (simp only [Act.put, List.setIfInBounds_toArray]; rfl)))
  (refine AnyGo.take 3 (some 11) ?_ (a' := ?_) rfl (by kernel_rfl) (fun _ _ d _ _ h => by cases d <;> exact h) (by kernel_rfl) (by rfl) (by kernel_rfl) ?_ ?_ ?_; rotate_left 2; (focus (intro W hW; (try dsimp only at hW); go_simp; (try with_reducible rfl))); (focus (simp only [Act.put, List.setIfInBounds_toArray]; rfl)))
  (refine AnyGo.take 4 (some 12) ?_ (a' := ?_) rfl (by kernel_rfl) (fun _ _ d _ _ h => by cases d <;> exact h) (by kernel_rfl) (by rfl) (by kernel_rfl) ?_ ?_ ?_; rotate_left 2; (focus (intro W hW; (try dsimp only at hW); go_simp; (try with_reducible rfl))); (focus (simp only [Act.put, List.setIfInBounds_toArray]; rfl)))
  (refine AnyGo.take 5 (some 13) ?_ (a' := ?_) rfl (by kernel_rfl) (fun _ _ d _ _ h => by cases d <;> exact h) (by kernel_rfl) (by rfl) (by kernel_rfl) ?_ ?_ ?_; rotate_left 2; (focus (intro W hW; (try dsimp only at hW); go_simp; (try with_reducible rfl))); (focus (simp only [Act.put, List.setIfInBounds_toArray]; rfl)))
  (refine AnyGo.take 6 (some 14) ?_ (a' := ?_) rfl (by kernel_rfl) (fun _ _ d _ _ h => by cases d <;> exact h) (by kernel_rfl) (by rfl) (by kernel_rfl) ?_ ?_ ?_; rotate_left 2; (focus (intro W hW; (try dsimp only at hW); go_simp; (try with_reducible rfl))); (focus (simp only [Act.put, List.setIfInBounds_toArray]; rfl)))
  (refine AnyGo.take 7 (some 15) ?_ (a' := ?_) rfl (by kernel_rfl) (fun _ _ d _ _ h => by cases d <;> exact h) (by kernel_rfl) (by rfl) (by kernel_rfl) ?_ ?_ ?_; rotate_left 2; (focus (intro W hW; (try dsimp only at hW); go_simp; (try with_reducible rfl))); (focus (simp only [Act.put, List.setIfInBounds_toArray]; rfl)))
  (refine AnyGo.take 8 (some 16) ?_ (a' := ?_) rfl (by kernel_rfl) (fun _ _ d _ _ h => by cases d <;> exact h) (by kernel_rfl) (by rfl) (by kernel_rfl) ?_ ?_ ?_; rotate_left 2; (focus (intro W hW; (try dsimp only at hW); go_simp; (try with_reducible rfl))); (focus (simp only [Act.put, List.setIfInBounds_toArray]; rfl)))
  (refine AnyGo.take 9 (some 17) ?_ (a' := ?_) rfl (by kernel_rfl) (fun _ _ d _ _ h => by cases d <;> exact h) (by kernel_rfl) (by rfl) (by kernel_rfl) ?_ ?_ ?_; rotate_left 2; (focus (intro W hW; (try dsimp only at hW); go_simp; (try with_reducible rfl))); (focus (simp only [Act.put, List.setIfInBounds_toArray]; rfl)))
  refine AnyGo.one (i := 10) (by kernel_rfl) rfl (by kernel_rfl) (fun K' hK' => ?_)
  refine wp_copy_at (.tmp 8) (.tmp 17) 25 25 rfl 9 Try.underlying25 elInfo (some ⟨b, 0, none⟩) (some ⟨g, f, none⟩) k c (n - f) (n - f) rfl rfl b 0 cur 9 HB.out (part1 cs f k) (by rw [HP1.out, HM.out, Nat.min_comm])
    (fun _ => ⟨rfl, _, rfl, fun j v hj => ?_⟩) (by rw [HP1.out]; have := HC.out; omega) (fun v hv => H1.out v (List.mem_append_left _ hv)) m HP1.out (some 18) rfl ?_
  · rw [add_none, cell_of_row w.drew g _ _ _ _ HA.out.cells]
    simpa using part1_get hj
  intro w1 hq hg
  refine hK'.out _ _ ⟨(World.cell?_of_block (hg.block d HA.out.box.lt (fun e => by injection e with e; exact HC.out.2.1 e.symm))).trans hc0, (World.cell?_of_block (hg.block d HA.out.box.lt (fun e => by injection e with e; exact HC.out.2.1 e.symm))).trans hc1⟩ ?_
  clear hK' K'
  (try simp only [Act.put, List.setIfInBounds_toArray])
  have HQ := keep hq
  have HG := keep (grownBy_drew' hg)
  have HA1 := keep (HA.out.heap (HG.out.block d HA.out.box.lt (fun e => by injection e with e; exact HC.out.2.1 e.symm)) (HG.out.block g HA.out.glt (fun e => by injection e with e; exact HC.out.1 e.symm)))
  clear hq hg hc0 hc1 hsl
  (refine AnyGo.take 11 (some 4) ?_ (a' := ?_) rfl (by kernel_rfl) (fun _ _ d _ _ h => by cases d <;> exact h) (by kernel_rfl) (by rfl) (by kernel_rfl) ?_ ?_ ?_; rotate_left 2; (focus (intro W hW; (try dsimp only at hW); go_simp; (try with_reducible rfl))); (focus (simp only [Act.put, List.setIfInBounds_toArray]; rfl)))
  refine AnyGo.fin (by kernel_rfl) ?_
  obtain ⟨hc0, hc1, _, _⟩ := HA1.out.box.cells
  rw [← HN.out] at hc0
  (try simp only [List.set_cons_succ, List.set_cons_zero])
  have hmI : (m : Int) ≤ (k : Int) := by omega
  have hkI : (k : Int) ≤ (n : Int) := by omega
  have hmI0 : (0 : Int) < (m : Int) := by omega
  by_cases hmc : m < c
  · have hsl := run_from (P := Try.prog) (t := 25) Try.underlying25 elSize b 0 k c m hmk hmc
    clear hm0 hmk hmc hlc hcm hnm hrm hfn hl
    go_wp2_with fail
    refine AnyGo.region (fun W' => W'.cell? ⟨d, 0, none⟩ = some (.slice (some ⟨g, 0, none⟩) n n)) (by kernel_rfl) (by rfl) hc0 ?_
    intro wd ewd
    subst ewd
    (refine AnyGo.take 0 (some 19) ?_ (a' := ?_) rfl (by kernel_rfl) (fun _ _ d _ _ h => by cases d <;> exact h) (by kernel_rfl) (by rfl) (by kernel_rfl) ?_ ?_ ?_; rotate_left 2; (focus (intro W hW; (try dsimp only at hW); go_simp; (try with_reducible rfl))); (focus (simp only [Act.put, List.setIfInBounds_toArray]; rfl)))
    (refine AnyGo.take 1 (some 20) ?_ (a' := ?_) rfl (by kernel_rfl) (fun _ _ d _ _ h => by cases d <;> exact h) (by kernel_rfl) (by rfl) (by kernel_rfl) ?_ ?_ ?_; rotate_left 2; (focus (intro W hW; (try dsimp only at hW); go_simp; (try with_reducible rfl))); (focus (simp only [Act.put, List.setIfInBounds_toArray]; rfl)))
    (refine AnyGo.take 2 (some 21) ?_ (a' := ?_) rfl (by kernel_rfl) (fun _ _ d _ _ h => by cases d <;> exact h) (by kernel_rfl) (by rfl) (by kernel_rfl) ?_ ?_ ?_; rotate_left 2; (focus (intro W hW; (try dsimp only at hW); go_simp; (try with_reducible rfl))); (focus (simp only [Act.put, List.setIfInBounds_toArray]; rfl)))
    (refine AnyGo.take 3 (some 22) ?_ (a' := ?_) rfl (by kernel_rfl) (fun _ _ d _ _ h => by cases d <;> exact h) (by kernel_rfl) (by rfl) (by kernel_rfl) ?_ ?_ ?_; rotate_left 2; (focus (intro W hW; (try dsimp only at hW); go_simp; (try with_reducible rfl))); (focus (simp only [Act.put, List.setIfInBounds_toArray]; rfl)))
    (refine AnyGo.take 4 (some 23) ?_ (a' := ?_) rfl (by kernel_rfl) (fun _ _ d _ _ h => by cases d <;> exact h) (by kernel_rfl) (by rfl) (by kernel_rfl) ?_ ?_ ?_; rotate_left 2; (focus (intro W hW; (try dsimp only at hW); go_simp; (try with_reducible rfl))); (focus (simp only [Act.put, List.setIfInBounds_toArray]; rfl)))
    (refine AnyGo.take 5 (some 24) ?_ (a' := ?_) rfl (by kernel_rfl) (fun _ _ d _ _ h => by cases d <;> exact h) (by kernel_rfl) (by rfl) (by kernel_rfl) ?_ ?_ ?_; rotate_left 2; (focus (intro W hW; (try dsimp only at hW); go_simp; (try with_reducible rfl))); (focus (simp only [Act.put, List.setIfInBounds_toArray]; rfl)))
    (refine AnyGo.take 6 (some 25) ?_ (a' := ?_) rfl (by kernel_rfl) (fun _ _ d _ _ h => by cases d <;> exact h) (by kernel_rfl) (by rfl) (by kernel_rfl) ?_ ?_ ?_; rotate_left 2; (focus (intro W hW; (try dsimp only at hW); go_simp; (try with_reducible rfl))); (focus (simp only [Act.put, List.setIfInBounds_toArray]; rfl)))
    refine AnyGo.one (i := 7) (by kernel_rfl) rfl (by kernel_rfl) (fun K' hK' => ?_)
    refine wp_copy_at (.tmp 21) (.tmp 25) 25 25 rfl 9 Try.underlying25 elInfo (some ⟨b, m, none⟩) (some ⟨g, 0, none⟩) (k - m) (c - m) n n rfl rfl b m (splice cur 0 (part1 cs f k)) 9 HQ.out (part2 cs f k) (by rw [HP2.out]; have := HM.out; show _ = min n (k - m); omega)
      (fun _ => ⟨rfl, _, rfl, fun j v hj => ?_⟩) (by rw [length_splice _ _ _ (by rw [HP1.out]; have := HC.out; omega), HP2.out]; have := HC.out; have := HM.out; omega) (fun v hv => H1.out v (List.mem_append_right _ hv)) _ HP2.out (some 26) rfl ?_
    · rw [add_none, cell_of_row w1.drew g _ _ _ _ HA1.out.cells]
      simpa using part2_get hj
    intro w2 hq hg
    refine hK'.out _ _ ((World.cell?_of_block (hg.block d HA1.out.box.lt (fun e => by injection e with e; exact HC.out.2.1 e.symm))).trans hc0) ?_
    clear hK' K'
    rw [splice_two _ _ _ m HP1.out, HP.out, List.length_map] at hq
    have HQ2 := keep hq
    have HG2 := keep (grownBy_trans HG.out (grownBy_drew' hg))
    clear hq hg hc0 hc1 hsl
    refine AnyGo.fin (by kernel_rfl) ?_
    go_end0
    exact ⟨rfl, HG2.out, by rw [HK.out]; exact HQ2.out⟩
  · have hkc : k = c := by omega
    subst hkc
    have hkm : m = k := by omega
    subst hkm
    have hsl := run_from_end (P := Try.prog) (t := 25) Try.underlying25 elSize b 0 m
    clear hm0 hmk hmc hlc hcm hnm hrm hfn hl
    go_wp2_with fail
    refine AnyGo.region (fun W' => W'.cell? ⟨d, 0, none⟩ = some (.slice (some ⟨g, 0, none⟩) n n)) (by kernel_rfl) (by rfl) hc0 ?_
    intro wd ewd
    subst ewd
    (refine AnyGo.take 0 (some 19) ?_ (a' := ?_) rfl (by kernel_rfl) (fun _ _ d _ _ h => by cases d <;> exact h) (by kernel_rfl) (by rfl) (by kernel_rfl) ?_ ?_ ?_; rotate_left 2; (focus (intro W hW; (try dsimp only at hW); go_simp; (try with_reducible rfl))); (focus (simp only [Act.put, List.setIfInBounds_toArray]; rfl)))
    (refine AnyGo.take 1 (some 20) ?_ (a' := ?_) rfl (by kernel_rfl) (fun _ _ d _ _ h => by cases d <;> exact h) (by kernel_rfl) (by rfl) (by kernel_rfl) ?_ ?_ ?_; rotate_left 2; (focus (intro W hW; (try dsimp only at hW); go_simp; (try with_reducible rfl))); (focus (simp only [Act.put, List.setIfInBounds_toArray]; rfl)))
    (refine AnyGo.take 2 (some 21) ?_ (a' := ?_) rfl (by kernel_rfl) (fun _ _ d _ _ h => by cases d <;> exact h) (by kernel_rfl) (by rfl) (by kernel_rfl) ?_ ?_ ?_; rotate_left 2; (focus (intro W hW; (try dsimp only at hW); go_simp; (try with_reducible rfl))); (focus (simp only [Act.put, List.setIfInBounds_toArray]; rfl)))
    (refine AnyGo.take 3 (some 22) ?_ (a' := ?_) rfl (by kernel_rfl) (fun _ _ d _ _ h => by cases d <;> exact h) (by kernel_rfl) (by rfl) (by kernel_rfl) ?_ ?_ ?_; rotate_left 2; (focus (intro W hW; (try dsimp only at hW); go_simp; (try with_reducible rfl))); (focus (simp only [Act.put, List.setIfInBounds_toArray]; rfl)))
    (refine AnyGo.take 4 (some 23) ?_ (a' := ?_) rfl (by kernel_rfl) (fun _ _ d _ _ h => by cases d <;> exact h) (by kernel_rfl) (by rfl) (by kernel_rfl) ?_ ?_ ?_; rotate_left 2; (focus (intro W hW; (try dsimp only at hW); go_simp; (try with_reducible rfl))); (focus (simp only [Act.put, List.setIfInBounds_toArray]; rfl)))
    (refine AnyGo.take 5 (some 24) ?_ (a' := ?_) rfl (by kernel_rfl) (fun _ _ d _ _ h => by cases d <;> exact h) (by kernel_rfl) (by rfl) (by kernel_rfl) ?_ ?_ ?_; rotate_left 2; (focus (intro W hW; (try dsimp only at hW); go_simp; (try with_reducible rfl))); (focus (simp only [Act.put, List.setIfInBounds_toArray]; rfl)))
    (refine AnyGo.take 6 (some 25) ?_ (a' := ?_) rfl (by kernel_rfl) (fun _ _ d _ _ h => by cases d <;> exact h) (by kernel_rfl) (by rfl) (by kernel_rfl) ?_ ?_ ?_; rotate_left 2; (focus (intro W hW; (try dsimp only at hW); go_simp; (try with_reducible rfl))); (focus (simp only [Act.put, List.setIfInBounds_toArray]; rfl)))
    refine AnyGo.one (i := 7) (by kernel_rfl) rfl (by kernel_rfl) (fun K' hK' => ?_)
    refine wp_copy_at (.tmp 21) (.tmp 25) 25 25 rfl 9 Try.underlying25 elInfo (some ⟨b, 0, none⟩) (some ⟨g, 0, none⟩) 0 0 n n rfl rfl b m (splice cur 0 (part1 cs f m)) 9 HQ.out (part2 cs f m) (by rw [HP2.out]; have := HM.out; show _ = min n 0; omega)
      (fun hp => ?_) (by rw [length_splice _ _ _ (by rw [HP1.out]; have := HC.out; omega), HP2.out]; have := HC.out; have := HM.out; omega) (fun v hv => H1.out v (List.mem_append_right _ hv)) _ HP2.out (some 26) rfl ?_
    · rw [HP2.out] at hp
      have := HM.out
      omega
    intro w2 hq hg
    refine hK'.out _ _ ((World.cell?_of_block (hg.block d HA1.out.box.lt (fun e => by injection e with e; exact HC.out.2.1 e.symm))).trans hc0) ?_
    clear hK' K'
    rw [splice_two _ _ _ m HP1.out, HP.out, List.length_map] at hq
    have HQ2 := keep hq
    have HG2 := keep (grownBy_trans HG.out (grownBy_drew' hg))
    clear hq hg hc0 hc1 hsl
    refine AnyGo.fin (by kernel_rfl) ?_
    go_end0
    exact ⟨rfl, HG2.out, by rw [HK.out]; exact HQ2.out⟩

theorem copyTo_none (p : Value) (a : Option Addr) (c : Nat) (w : World) :
    Calls Try.prog 31 #[p, .slice a 0 c] w fun e w' => e = .returned (.tuple #[]) ∧ w = w' := by
  go_enter Try.func31, Try.ntmps31
  go_wp2_with fail
  exact bodyPost_ret (results_none (by rfl) _ _ _) rfl ⟨rfl, rfl⟩

theorem copyTo_dq (d : Nat) (r : Option Nat) (l : List ByteArray) (w : World) (h : DQ d r l w) (b c : Nat) (cur : List Value) (hb : w.heap[b]? = some (.cells cur.toArray 9 (0, 0))) (hbr : r ≠ some b) (hbd : b ≠ d) (hlc : l.length ≤ c) (hcc : c ≤ cur.length) (hcm : c ≤ 1000000) :
    Calls Try.prog 31 #[.pointer (some ⟨d, 0, none⟩), .slice (some ⟨b, 0, none⟩) l.length c] w fun e w' => e = .returned (.tuple #[]) ∧
      w.grownBy w' (some b) ∧ w'.heap[b]? = some (.cells (l.map (Value.string) ++ cur.drop l.length).toArray 9 (0, 0)) := by
  by_cases hl : l.length = 0
  · obtain rfl : l = [] := List.eq_nil_of_length_eq_zero hl
    refine (copyTo_none _ _ _ w).mono ?_
    rintro e w' ⟨rfl, rfl⟩
    exact ⟨rfl, grownBy_refl _ _, by simpa using hb⟩
  · rcases h.out with ⟨_, rfl, _⟩ | ⟨g, cs, f, rfl, ha⟩
    · simp at hl
    · exact copyTo_any d g cs f l w ha (by omega) b c cur hb (fun e => hbr (by rw [e])) hbd hlc hcc hcm
end Go.Proofs.Ytphjemnmbbeieaa
