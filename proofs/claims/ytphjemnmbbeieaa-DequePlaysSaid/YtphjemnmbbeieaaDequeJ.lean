/-
  The document's functions over rows: one ahead of all, the first one, the last one, the one at a place; whether the program took the same.
-/
import Derived.Test.YtphjemnmbbeieaaDequeH
namespace Go.Proofs.Ytphjemnmbbeieaa
open Go.RowKit

set_option maxHeartbeats 1000000 in
theorem ahead_any (x : ByteArray) (v : Value) (l : List ByteArray) (gb : Option Nat) (w : World) (h : Hv w v l gb) (hl : l.length ≤ 1000) :
    Calls Try.prog 11 #[.string x, v] w fun e w' => ∃ v' gb', e = .returned v' ∧ Hv w' v' (x :: l) gb' ∧ (∀ g, gb' = some g → w.heap.size ≤ g) ∧ Below w.heap.size w w' := by
  obtain ⟨o, cap, rfl, hr⟩ := h.form
  have HR := keep hr
  obtain ⟨n, hn⟩ : ∃ n, n = l.length := ⟨_, rfl⟩
  have HN := keep hn
  rw [← hn] at HR ⊢
  have hnI : (n : Int) ≤ 1000 := by omega
  have H0 : Keep (∃ gb', Hv (w.alloc (.cells #[.string x] 9)) (.slice (some ⟨w.heap.size, 0, none⟩) 1 1) (x :: l.take 0) gb' ∧ (∀ g, gb' = some g → w.heap.size ≤ g) ∧ Below w.heap.size w (w.alloc (.cells #[.string x] 9))) := ⟨some w.heap.size,
    ⟨.inr ⟨w.heap.size, 0, 1, #[.string x], rfl, rfl, heap_alloc_new w _, by simp, by simp, fun i y hi => by
      match i, hi with
      | 0, hi =>
        obtain rfl : x = y := by simpa using hi
        rfl⟩⟩, fun g e => by injection e with e; exact Nat.le_of_eq e, (Below.refl _ _).alloc (Nat.le_refl _) _⟩
  clear h hr hn hl
  go_enter Try.func11, Try.ntmps11
  go_wp2_with fail
  go_loopw [5, 6] (fun ov i wr => ∃ k : Nat, i = .int .i64 k ∧ k ≤ n ∧ Keep (∃ gb', Hv wr ov (x :: l.take k) gb' ∧ (∀ g, gb' = some g → w.heap.size ≤ g) ∧ Below w.heap.size w wr)) (fun _ i _ => n - (intOf i).toNat)
  case atStart => exact ⟨0, rfl, Nat.zero_le _, H0⟩
  case round =>
    obtain ⟨k, rfl, hk, HK⟩ := hrel
    by_cases hlt : k < n
    · obtain ⟨b, off, rfl, hgb, hc⟩ := HR.out k hlt
      obtain ⟨gb', hv, hgb', hb⟩ := HK.out
      have hbl := World.block_lt_of_cell? w _ hc
      have hcell := (hb.cell (p := ⟨b, off + k, none⟩) hbl).trans hc
      have hltI : (k : Int) < n := by omega
      have HT := keep (tx_take (l := l) (k := k) (by have := HN.out; omega))
      have HV := keep hv
      have HG := keep hgb'
      have HB := keep hb
      have hkl : (l.take k).length ≤ 1000 := by rw [List.length_take]; omega
      have HKL := keep hkl
      clear hc hbl hv hgb' hb hkl
      generalize tx l k = y at *
      go_wp2_with (at_builtin; refine wpList_append_hv rfl _ _ rfl _ _ _ rfl (HV.out.below ((Below.refl _ wr).alloc (Nat.le_refl _) _)) (by have := HKL.out; simp; omega) ⟨wr.heap.size, 0, none⟩ 1 y rfl (cell_new1 wr _ _) ?_; intro v' W' hto; have HTO := keep hto; clear hto)
      go_roundw
      case rel =>
        refine ⟨k + 1, by go_num, by omega, ?_⟩
        obtain ⟨gb2, h1, h2, h3⟩ := HTO.out
        refine ⟨gb2, by rw [HT.out]; exact h1, fun g e => ?_, ?_⟩
        · rcases h3 g e with e | e
          · exact HG.out g e
          · have := HB.out.size
            simp at e
            omega
        · refine (HB.out.alloc HB.out.size (.cells #[.string y] 9)).trans ⟨h2.os, h2.tape, h2.output, h2.size, fun i hi => h2.block i (by have := HB.out.size; simp; omega) (fun e => ?_)⟩
          have := HG.out i e.symm
          omega
      case measure => simp [intOf]; omega
    · obtain rfl : n = k := by omega
      obtain ⟨gb', hv, hgb', hb⟩ := HK.out
      rw [HN.out, List.take_length] at hv
      go_wp2_with fail
      go_ret
      exact ⟨_, gb', rfl, hv, hgb', hb⟩

theorem first_none (w : World) :
    Calls Try.prog 13 #[.slice none 0 0] w fun e w' => e = .returned (.tuple #[.agg #[.string ⟨#[]⟩, .bool false], .slice none 0 0]) ∧ Below w.heap.size w w' := by
  have HB := keep ((Below.refl _ w).alloc (Nat.le_refl _) (.cells #[.string ⟨#[]⟩, .bool false] 29))
  go_enter Try.func13, Try.ntmps13
  go_wp2_with fail
  go_returns
  exact ⟨rfl, HB.out⟩

set_option maxHeartbeats 1000000 in
theorem first_some (v : Value) (l : List ByteArray) (x : ByteArray) (gb : Option Nat) (w : World) (h : Hv w v (x :: l) gb) (hl : l.length ≤ 1000) :
    Calls Try.prog 13 #[v] w fun e w' => ∃ v', e = .returned (.tuple #[.agg #[.string x, .bool true], v']) ∧ Hv w' v' l gb ∧ Below w.heap.size w w' := by
  rcases h.out with ⟨_, h0, _⟩ | ⟨b, off, cap, cur, rfl, rfl, hg, hlc, hoc, hx⟩
  · cases h0
  have hcell : w.cell? ⟨b, off, none⟩ = some (.string x) := by
    rw [cell_of_row w b _ _ _ _ hg]
    exact hx 0 x rfl
  have hbl := (Array.getElem?_eq_some_iff.1 hg).1
  obtain ⟨k, hk⟩ : ∃ k, k = l.length := ⟨_, rfl⟩
  rw [List.length_cons, ← hk] at hlc ⊢
  have HS : Keep (∃ o2, (∀ W, (Instr.slice 25 (.slice (some ⟨b, off, none⟩) (k + 1) cap) (some (.int .i64 1)) none none).run Try.prog W = .ok (.slice (some o2) k (cap - 1)) W) ∧ (o2 = ⟨b, off + 1, none⟩ ∨ (o2 = ⟨b, off, none⟩ ∧ k = 0 ∧ cap = 1))) := ⟨by
    by_cases h1 : 1 < cap
    · exact ⟨_, fun W => run_from (P := Try.prog) (t := 25) Try.underlying25 elSize b off (k + 1) cap 1 (by omega) h1 W, .inl rfl⟩
    · obtain rfl : cap = 1 := by omega
      obtain rfl : k = 0 := by omega
      exact ⟨_, fun W => run_from_end (P := Try.prog) (t := 25) Try.underlying25 elSize b off 1 W, .inr ⟨rfl, rfl, rfl⟩⟩⟩
  obtain ⟨o2, hsl, ho2⟩ := HS.out
  have HV : Keep (Hv w (.slice (some o2) k (cap - 1)) l (some b)) := ⟨⟨.inr (by
    rcases ho2 with rfl | ⟨rfl, rfl, rfl⟩
    · exact ⟨b, off + 1, cap - 1, cur, by rw [hk], rfl, hg, by omega, by omega, fun i y hi => by
        have := hx (i + 1) y (by rw [List.getElem?_cons_succ]; exact hi)
        rw [show off + 1 + i = off + (i + 1) by omega]; exact this⟩
    · have hl0 : l = [] := List.eq_nil_of_length_eq_zero hk.symm
      subst hl0
      exact ⟨b, off, 0, cur, rfl, rfl, hg, by simp, by omega, fun i y hi => by cases hi⟩)⟩⟩
  have hkI : (k : Int) ≤ 1000 := by omega
  have hk0 : (((k + 1 : Nat) : Int) == 0) = false := by simp; omega
  have hkp : (0 : Int) < ((k + 1 : Nat) : Int) := by omega
  have HB := keep ((Below.refl _ w).alloc (Nat.le_refl _) (.cells #[.string ⟨#[]⟩, .bool false] 29))
  clear h hg hlc hoc hx hk hl ho2 HS
  go_enter Try.func13, Try.ntmps13
  go_wp2_with fail
  have hcell1 := (((Below.refl _ w).alloc (Nat.le_refl _) (.cells #[.string ⟨#[]⟩, .bool false] 29)).cell (p := ⟨b, off, none⟩) hbl).trans hcell
  refine AnyGo.region (fun W' => W'.cell? ⟨b, off, none⟩ = some (.string x)) (by kernel_rfl) (by rfl) hcell1 ?_
  intro wd ewd
  subst ewd
  (refine AnyGo.take 0 (some 8) ?_ (a' := ?_) rfl (by kernel_rfl) (fun _ _ d _ _ h => by cases d <;> exact h) (by kernel_rfl) (by rfl) (by kernel_rfl) ?_ ?_ ?_; rotate_left 2; (focus (intro W hW; (try dsimp only at hW); go_simp; (try with_reducible rfl))); (focus (simp only [Act.put, List.setIfInBounds_toArray]; rfl)))
  (refine AnyGo.take 1 (some 9) ?_ (a' := ?_) rfl (by kernel_rfl) (fun _ _ d _ _ h => by cases d <;> exact h) (by kernel_rfl) (by rfl) (by kernel_rfl) ?_ ?_ ?_; rotate_left 2; (focus (intro W hW; (try dsimp only at hW); go_simp; (try with_reducible rfl))); (focus (simp only [Act.put, List.setIfInBounds_toArray]; rfl)))
  (refine AnyGo.take 2 (some 10) ?_ (a' := ?_) rfl (by kernel_rfl) (fun _ _ d _ _ h => by cases d <;> exact h) (by kernel_rfl) (by rfl) (by kernel_rfl) ?_ ?_ ?_; rotate_left 2; (focus (intro W hW; (try dsimp only at hW); go_simp; (try with_reducible rfl))); (focus (simp only [Act.put, List.setIfInBounds_toArray]; rfl)))
  (refine AnyGo.take 3 (some 11) ?_ (a' := ?_) rfl (by kernel_rfl) (fun _ _ d _ _ h => by cases d <;> exact h) (by kernel_rfl) (by rfl) (by kernel_rfl) ?_ ?_ ?_; rotate_left 2; (focus (intro W hW; (try dsimp only at hW); go_simp; (try with_reducible rfl))); (focus (simp only [Act.put, List.setIfInBounds_toArray]; rfl)))
  (refine AnyGo.take 4 (some 12) ?_ (a' := ?_) rfl (by kernel_rfl) (fun _ _ d _ _ h => by cases d <;> exact h) (by kernel_rfl) (by rfl) (by kernel_rfl) ?_ ?_ ?_; rotate_left 2; (focus (intro W hW; (try dsimp only at hW); go_simp; (try with_reducible rfl))); (focus (simp only [Act.put, List.setIfInBounds_toArray]; rfl)))
  (refine AnyGo.take 5 (some 13) ?_ (a' := ?_) rfl (by kernel_rfl) (fun _ _ d _ _ h => by cases d <;> exact h) (by kernel_rfl) (by rfl) (by kernel_rfl) ?_ ?_ ?_; rotate_left 2; (focus (intro W hW; (try dsimp only at hW); go_simp; (try with_reducible rfl))); (focus (simp only [Act.put, List.setIfInBounds_toArray]; rfl)))
  refine AnyGo.one (i := 6) (by kernel_rfl) rfl (by kernel_rfl) (fun K' hK' => ?_)
  go_simp
  refine hK'.out _ _ ((((Below.refl _ w).alloc (Nat.le_refl _) (.cells #[.string x, .bool true] 29)).cell (p := ⟨b, off, none⟩) hbl).trans hcell) ?_
  clear hK' K'
  (refine AnyGo.take 7 (some 3) ?_ (a' := ?_) rfl (by kernel_rfl) (fun _ _ d _ _ h => by cases d <;> exact h) (by kernel_rfl) (by rfl) (by kernel_rfl) ?_ ?_ ?_; rotate_left 2; (focus (intro W hW; (try dsimp only at hW); go_simp; (try with_reducible rfl))); (focus (simp only [Act.put, List.setIfInBounds_toArray]; rfl)))
  refine AnyGo.fin (by kernel_rfl) ?_
  have HB := keep ((Below.refl _ w).alloc (Nat.le_refl _) (.cells #[.string x, .bool true] 29)).drew
  go_wp2_with fail
  go_returns
  exact ⟨_, rfl, HV.out.below HB.out, HB.out⟩

theorem last_none (w : World) :
    Calls Try.prog 16 #[.slice none 0 0] w fun e w' => e = .returned (.tuple #[.agg #[.string ⟨#[]⟩, .bool false], .slice none 0 0]) ∧ Below w.heap.size w w' := by
  have HB := keep ((Below.refl _ w).alloc (Nat.le_refl _) (.cells #[.string ⟨#[]⟩, .bool false] 29))
  go_enter Try.func16, Try.ntmps16
  go_wp2_with fail
  go_returns
  exact ⟨rfl, HB.out⟩
/-- An empty row, wherever it lies. -/
theorem Hv.empty {W : World} {v : Value} {gb : Option Nat} (h : Hv W v [] gb) : ∃ o cap, v = .slice o 0 cap := by
  rcases h.out with ⟨rfl, _⟩ | ⟨g, off, cap, cur, rfl, _⟩
  · exact ⟨_, _, rfl⟩
  · exact ⟨_, _, rfl⟩
theorem first_empty (o : Option Addr) (cap : Nat) (w : World) :
    Calls Try.prog 13 #[.slice o 0 cap] w fun e w' => e = .returned (.tuple #[.agg #[.string ⟨#[]⟩, .bool false], .slice none 0 0]) ∧ Below w.heap.size w w' := by
  have HB := keep ((Below.refl _ w).alloc (Nat.le_refl _) (.cells #[.string ⟨#[]⟩, .bool false] 29))
  go_enter Try.func13, Try.ntmps13
  go_wp2_with fail
  go_returns
  exact ⟨rfl, HB.out⟩
theorem last_empty (o : Option Addr) (cap : Nat) (w : World) :
    Calls Try.prog 16 #[.slice o 0 cap] w fun e w' => e = .returned (.tuple #[.agg #[.string ⟨#[]⟩, .bool false], .slice none 0 0]) ∧ Below w.heap.size w w' := by
  have HB := keep ((Below.refl _ w).alloc (Nat.le_refl _) (.cells #[.string ⟨#[]⟩, .bool false] 29))
  go_enter Try.func16, Try.ntmps16
  go_wp2_with fail
  go_returns
  exact ⟨rfl, HB.out⟩

set_option maxHeartbeats 1000000 in
theorem last_some (v : Value) (l : List ByteArray) (x : ByteArray) (gb : Option Nat) (w : World) (h : Hv w v (l ++ [x]) gb) (hl : l.length ≤ 1000) :
    Calls Try.prog 16 #[v] w fun e w' => ∃ v', e = .returned (.tuple #[.agg #[.string x, .bool true], v']) ∧ Hv w' v' l gb ∧ Below w.heap.size w w' := by
  rcases h.out with ⟨_, h0, _⟩ | ⟨b, off, cap, cur, rfl, rfl, hg, hlc, hoc, hx⟩
  · simp at h0
  have hcell : w.cell? ⟨b, off + l.length, none⟩ = some (.string x) := by
    rw [cell_of_row w b _ _ _ _ hg]
    exact hx l.length x (by simp)
  have hbl := (Array.getElem?_eq_some_iff.1 hg).1
  obtain ⟨k, hk⟩ : ∃ k, k = l.length := ⟨_, rfl⟩
  rw [List.length_append, List.length_singleton, ← hk] at hlc ⊢
  rw [← hk] at hcell
  have hsl := run_upto (P := Try.prog) (t := 25) Try.underlying25 elSize (some ⟨b, off, none⟩) (k + 1) cap k (by omega) (fun y e => by injection e with e; rw [← e])
  have HV : Keep (Hv w (.slice (some ⟨b, off, none⟩) k cap) l (some b)) := ⟨⟨.inr ⟨b, off, cap, cur, by rw [hk], rfl, hg, by omega, hoc, fun i y hi => hx i y (by
    have hil := lt_of_get hi
    rw [List.getElem?_append_left hil]; exact hi)⟩⟩⟩
  have hkI : (k : Int) ≤ 1000 := by omega
  have hk00 : (0 : Int) ≤ (k : Int) := by omega
  have hkk : (k : Int) + 1 - 1 = (k : Int) := by omega
  have hkl : (k : Int) < (k : Int) + 1 := by omega
  have hkw : IntKind.i64.wrap (k : Int) = (k : Int) := IntWalk.i64_in _ ⟨by omega, by omega⟩
  have hk0 : (((k + 1 : Nat) : Int) == 0) = false := by simp; omega
  clear h hg hlc hoc hx hk hl
  go_enter Try.func16, Try.ntmps16
  go_wp2_with fail
  have hcell1 := (((Below.refl _ w).alloc (Nat.le_refl _) (.cells #[.string ⟨#[]⟩, .bool false] 29)).cell (p := ⟨b, off + k, none⟩) hbl).trans hcell
  refine AnyGo.region (fun W' => W'.cell? ⟨b, off + k, none⟩ = some (.string x)) (by kernel_rfl) (by rfl) hcell1 ?_
  intro wd ewd
  subst ewd
  (refine AnyGo.take 0 (some 8) ?_ (a' := ?_) rfl (by kernel_rfl) (fun _ _ d _ _ h => by cases d <;> exact h) (by kernel_rfl) (by rfl) (by kernel_rfl) ?_ ?_ ?_; rotate_left 2; (focus (intro W hW; (try dsimp only at hW); go_simp; (try with_reducible rfl))); (focus (simp only [Act.put, List.setIfInBounds_toArray]; rfl)))
  (refine AnyGo.take 1 (some 9) ?_ (a' := ?_) rfl (by kernel_rfl) (fun _ _ d _ _ h => by cases d <;> exact h) (by kernel_rfl) (by rfl) (by kernel_rfl) ?_ ?_ ?_; rotate_left 2; (focus (intro W hW; (try dsimp only at hW); go_simp; (try with_reducible rfl))); (focus (simp only [Act.put, List.setIfInBounds_toArray]; rfl)))
  (refine AnyGo.take 2 (some 10) ?_ (a' := ?_) rfl (by kernel_rfl) (fun _ _ d _ _ h => by cases d <;> exact h) (by kernel_rfl) (by rfl) (by kernel_rfl) ?_ ?_ ?_; rotate_left 2; (focus (intro W hW; (try dsimp only at hW); go_simp; (try with_reducible rfl))); (focus (simp only [Act.put, List.setIfInBounds_toArray]; rfl)))
  (refine AnyGo.take 3 (some 11) ?_ (a' := ?_) rfl (by kernel_rfl) (fun _ _ d _ _ h => by cases d <;> exact h) (by kernel_rfl) (by rfl) (by kernel_rfl) ?_ ?_ ?_; rotate_left 2; (focus (intro W hW; (try dsimp only at hW); go_simp; (try with_reducible rfl))); (focus (simp only [Act.put, List.setIfInBounds_toArray]; rfl)))
  (refine AnyGo.take 4 (some 12) ?_ (a' := ?_) rfl (by kernel_rfl) (fun _ _ d _ _ h => by cases d <;> exact h) (by kernel_rfl) (by rfl) (by kernel_rfl) ?_ ?_ ?_; rotate_left 2; (focus (intro W hW; (try dsimp only at hW); go_simp; (try with_reducible rfl))); (focus (simp only [Act.put, List.setIfInBounds_toArray]; rfl)))
  (refine AnyGo.take 5 (some 13) ?_ (a' := ?_) rfl (by kernel_rfl) (fun _ _ d _ _ h => by cases d <;> exact h) (by kernel_rfl) (by rfl) (by kernel_rfl) ?_ ?_ ?_; rotate_left 2; (focus (intro W hW; (try dsimp only at hW); go_simp; (try with_reducible rfl))); (focus (simp only [Act.put, List.setIfInBounds_toArray]; rfl)))
  (refine AnyGo.take 6 (some 14) ?_ (a' := ?_) rfl (by kernel_rfl) (fun _ _ d _ _ h => by cases d <;> exact h) (by kernel_rfl) (by rfl) (by kernel_rfl) ?_ ?_ ?_; rotate_left 2; (focus (intro W hW; (try dsimp only at hW); go_simp; (try with_reducible rfl))); (focus (simp only [Act.put, List.setIfInBounds_toArray]; rfl)))
  (refine AnyGo.take 7 (some 15) ?_ (a' := ?_) rfl (by kernel_rfl) (fun _ _ d _ _ h => by cases d <;> exact h) (by kernel_rfl) (by rfl) (by kernel_rfl) ?_ ?_ ?_; rotate_left 2; (focus (intro W hW; (try dsimp only at hW); go_simp; (try with_reducible rfl))); (focus (simp only [Act.put, List.setIfInBounds_toArray]; rfl)))
  (refine AnyGo.take 8 (some 16) ?_ (a' := ?_) rfl (by kernel_rfl) (fun _ _ d _ _ h => by cases d <;> exact h) (by kernel_rfl) (by rfl) (by kernel_rfl) ?_ ?_ ?_; rotate_left 2; (focus (intro W hW; (try dsimp only at hW); go_simp; (try with_reducible rfl))); (focus (simp only [Act.put, List.setIfInBounds_toArray]; rfl)))
  (refine AnyGo.take 9 (some 17) ?_ (a' := ?_) rfl (by kernel_rfl) (fun _ _ d _ _ h => by cases d <;> exact h) (by kernel_rfl) (by rfl) (by kernel_rfl) ?_ ?_ ?_; rotate_left 2; (focus (intro W hW; (try dsimp only at hW); go_simp; (try with_reducible rfl))); (focus (simp only [Act.put, List.setIfInBounds_toArray]; rfl)))
  (refine AnyGo.take 10 (some 18) ?_ (a' := ?_) rfl (by kernel_rfl) (fun _ _ d _ _ h => by cases d <;> exact h) (by kernel_rfl) (by rfl) (by kernel_rfl) ?_ ?_ ?_; rotate_left 2; (focus (intro W hW; (try dsimp only at hW); go_simp; (try with_reducible rfl))); (focus (simp only [Act.put, List.setIfInBounds_toArray]; rfl)))
  (refine AnyGo.take 11 (some 19) ?_ (a' := ?_) rfl (by kernel_rfl) (fun _ _ d _ _ h => by cases d <;> exact h) (by kernel_rfl) (by rfl) (by kernel_rfl) ?_ ?_ ?_; rotate_left 2; (focus (intro W hW; (try dsimp only at hW); go_simp; (try with_reducible rfl))); (focus (simp only [Act.put, List.setIfInBounds_toArray]; rfl)))
  refine AnyGo.one (i := 12) (by kernel_rfl) rfl (by kernel_rfl) (fun K' hK' => ?_)
  go_simp
  refine hK'.out _ _ ((((Below.refl _ w).alloc (Nat.le_refl _) (.cells #[.string x, .bool true] 29)).cell (p := ⟨b, off + k, none⟩) hbl).trans hcell) ?_
  clear hK' K'
  (refine AnyGo.take 13 (some 3) ?_ (a' := ?_) rfl (by kernel_rfl) (fun _ _ d _ _ h => by cases d <;> exact h) (by kernel_rfl) (by rfl) (by kernel_rfl) ?_ ?_ ?_; rotate_left 2; (focus (intro W hW; (try dsimp only at hW); go_simp; (try with_reducible rfl))); (focus (simp only [Act.put, List.setIfInBounds_toArray]; rfl)))
  refine AnyGo.fin (by kernel_rfl) ?_
  have HB := keep ((Below.refl _ w).alloc (Nat.le_refl _) (.cells #[.string x, .bool true] 29)).drew
  go_wp2_with fail
  go_returns
  exact ⟨_, rfl, HV.out.below HB.out, HB.out⟩

theorem refAt_in (v : Value) (l : List ByteArray) (gb : Option Nat) (i : Nat) (w : World) (h : Hv w v l gb) (hi : i < l.length) :
    Calls Try.prog 18 #[v, .int .i64 (i : Int)] w fun e w' => e = .returned (.agg #[.string (tx l i), .bool true]) ∧ Below w.heap.size w w' := by
  obtain ⟨o, cap, rfl, hr⟩ := h.form
  obtain ⟨b, off, rfl, _, hc⟩ := hr i hi
  have hbl := World.block_lt_of_cell? w _ hc
  have hiI : (i : Int) < (l.length : Int) := by omega
  have hd0 : decide ((i : Int) < 0) = false := by simp
  have hd1 : decide (l.length ≤ i) = false := by simp; omega
  generalize tx l i = x at *
  generalize l.length = n at *
  have hcell1 := (((Below.refl _ w).alloc (Nat.le_refl _) (.cells #[.string ⟨#[]⟩, .bool false] 29)).cell (p := ⟨b, off + i, none⟩) hbl).trans hc
  have HB := keep ((Below.refl _ w).alloc (Nat.le_refl _) (.cells #[.string x, .bool true] 29))
  clear h hr hc hbl hi
  go_enter Try.func18, Try.ntmps18
  go_wp2_with fail
  go_returns
  exact ⟨rfl, HB.out⟩
theorem refAt_out (v : Value) (l : List ByteArray) (gb : Option Nat) (i : Int) (w : World) (h : Hv w v l gb) (hi : i < 0 ∨ (l.length : Int) ≤ i) :
    Calls Try.prog 18 #[v, .int .i64 i] w fun e w' => e = .returned (.agg #[.string ⟨#[]⟩, .bool false]) ∧ Below w.heap.size w w' := by
  obtain ⟨o, cap, rfl, _⟩ := h.form
  generalize l.length = n at *
  have HB := keep ((Below.refl _ w).alloc (Nat.le_refl _) (.cells #[.string ⟨#[]⟩, .bool false] 29))
  clear h
  rcases Int.lt_or_le i 0 with h0 | h0
  · clear hi
    go_enter Try.func18, Try.ntmps18
    go_wp2_with fail
    go_returns
    exact ⟨rfl, HB.out⟩
  · have hd0 : decide (i < 0) = false := by simpa using h0
    have h1 : (n : Int) ≤ i := by omega
    clear hi
    go_enter Try.func18, Try.ntmps18
    go_wp2_with fail
    go_returns
    exact ⟨rfl, HB.out⟩

theorem took_same (x : ByteArray) (b : Bool) (w : World) :
    Calls Try.prog 14 #[.string x, .bool b, .agg #[.string x, .bool b]] w fun e w' => e = .returned (.bool true) ∧ Below w.heap.size w w' := by
  have HB := keep ((Below.refl _ w).alloc (Nat.le_refl _) (.cells #[.string x, .bool b] 29))
  go_enter Try.func14, Try.ntmps14
  go_wp2_with fail
  go_ret
  exact ⟨rfl, HB.out⟩
end Go.Proofs.Ytphjemnmbbeieaa
