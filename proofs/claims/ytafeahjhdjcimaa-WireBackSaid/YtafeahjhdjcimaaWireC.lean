/-
  The program's Num, Int and Bool.
-/
import Derived.Test.YtafeahjhdjcimaaWireB
namespace Go.Proofs.Ytafeahjhdjcimaa
open Go.RowKit Go.Joins

set_option maxHeartbeats 400000 in
theorem num_any (p : Value) (l : List UInt8) (f : Int) (w : World) (h : PR p l f w) :
    Calls Try.prog 17 #[p] w fun e w' => e = .returned (.int .u64 (numV l f)) ∧ RdTo p (numS l f) w w' := by
  have HC := keep (take_any p l f w (w.alloc (.cells #[.int .u64 0] 30)) w.heap.size 46 #[.pointer (some ⟨w.heap.size, 0, none⟩)] (.int .u64 0) (.int .u64 (numV l f)) (numS l f) 30
    (enters Try.func46 (by kernel_rfl) rfl) h (below_alloc1 _ _) (Nat.le_refl _) (heap_alloc_new w _) (fun h0 => by unfold numV numS; rw [if_neg h0, if_neg h0]; exact ⟨rfl, rfl⟩)
    (by
      rintro rfl b s a rfl rfl hs hn ha
      refine ⟨((getV s a).2.1 : Nat), ((getV s a).2.2 : Nat), fun W' hr hh => ?_, ?_⟩
      · have hst := numStep b w.heap.size s a (.int .u64 0) 30 W' hr hs (by rw [hh]; exact heap_alloc_new w _) hn
        have hv : (getV s a).1 = numV (s.data.toList.drop a) 0 := by
          rw [getV_head]; unfold numV; rw [if_pos rfl]; split
          · rfl
          · exact (headE_bad ‹_›).1.symm
        rw [hv] at hst
        exact hst
      · rw [getV_head]; unfold numS; rw [if_pos rfl]
        split
        · rename_i hE
          exact .inl ⟨rfl, _, rfl, head_le ha hE, by rw [hE, head_drop]; rfl⟩
        · rename_i hE
          exact .inr ⟨by simpa using hE, by rw [(headE_bad hE).2.1]⟩))
  clear h
  go_enter Try.func17, Try.ntmps17
  go_wp2_with fail
  refine HC.out.mono ?_
  rintro e w' ⟨rfl, q, hR⟩
  have HR := keep hR
  clear hR
  go_wp2_with fail
  go_ret
  exact ⟨rfl, HR.out⟩

/-! ### Int -/
theorem intStep (b c : Nat) (s : ByteArray) (a : Nat) (v0 : Value) (t : TypeId) (W : World) (hr : RdAt b s a 0 W) (hs : s.size ≤ 1000000) (hc : W.heap[c]? = some (.cells #[v0] t (0, 0))) (hn : b ≠ c) :
    Calls Try.prog 48 (#[.string s, .int .i64 a] ++ #[.pointer (some ⟨c, 0, none⟩)]) W (StepTo (getV s a).2.1 (getV s a).2.2 (StepQ b c s a (.int .i64 (zag (getV s a).1)) t W)) := by
  have hg := getInt_any s a W hs
  rw [getI_in hr.le] at hg
  have HG := keep hg
  have HQ := keep (StepQ.store (v := .int .i64 (zag (getV s a).1)) hr hc hn)
  have cv := cell_of_one hc
  have cf := free_of_one hc
  generalize getV s a = x at *
  obtain ⟨u, nx, ft⟩ := x
  clear hr hs hc hn hg
  show Calls Try.prog 48 #[.string s, .int .i64 a, .pointer (some ⟨c, 0, none⟩)] W _
  simp only at HG HQ ⊢
  generalize zag (u : Int) = z at *
  go_enter Try.func48, Try.ntmps48
  go_wp2_with fail
  refine HG.out.mono ?_
  rintro e w' ⟨rfl, rfl⟩
  go_wp2_with fail
  go_ret2
  exact ⟨rfl, HQ.out⟩

theorem numV_bd (l : List UInt8) (f : Int) : 0 ≤ (numV l f : Int) ∧ (numV l f : Int) < 18446744073709551616 := by
  unfold numV
  split
  · exact headU_bdI l
  · omega

set_option maxHeartbeats 400000 in
theorem int_any (p : Value) (l : List UInt8) (f : Int) (w : World) (h : PR p l f w) :
    Calls Try.prog 18 #[p] w fun e w' => e = .returned (.int .i64 (zag (numV l f))) ∧ RdTo p (numS l f) w w' := by
  have HC := keep (take_any p l f w (w.alloc (.cells #[.int .i64 0] 2)) w.heap.size 48 #[.pointer (some ⟨w.heap.size, 0, none⟩)] (.int .i64 0) (.int .i64 (zag (numV l f))) (numS l f) 2
    (enters Try.func48 (by kernel_rfl) rfl) h (below_alloc1 _ _) (Nat.le_refl _) (heap_alloc_new w _) (fun h0 => by unfold numV numS; rw [if_neg h0, if_neg h0]; exact ⟨rfl, rfl⟩)
    (by
      rintro rfl b s a rfl rfl hs hn ha
      refine ⟨((getV s a).2.1 : Nat), ((getV s a).2.2 : Nat), fun W' hr hh => ?_, ?_⟩
      · have hst := intStep b w.heap.size s a (.int .i64 0) 2 W' hr hs (by rw [hh]; exact heap_alloc_new w _) hn
        have hv : (getV s a).1 = numV (s.data.toList.drop a) 0 := by
          rw [getV_head]; unfold numV; rw [if_pos rfl]; split
          · rfl
          · exact (headE_bad ‹_›).1.symm
        rw [hv] at hst
        exact hst
      · rw [getV_head]; unfold numS; rw [if_pos rfl]
        split
        · rename_i hE
          exact .inl ⟨rfl, _, rfl, head_le ha hE, by rw [hE, head_drop]; rfl⟩
        · rename_i hE
          exact .inr ⟨by simpa using hE, by rw [(headE_bad hE).2.1]⟩))
  have hz : IntKind.i64.wrap (zag (numV l f)) = zag (numV l f) := by
    have hb : 0 ≤ (numV l f : Int) ∧ (numV l f : Int) < 18446744073709551616 := by exact numV_bd l f
    have := zag_bd hb.1 hb.2
    rw [IntKind.wrap_i64]; omega
  clear h
  generalize zag (numV l f : Int) = z at *
  have HZ := keep hz
  clear hz
  go_enter Try.func18, Try.ntmps18
  go_wp2_with fail
  refine HC.out.mono ?_
  rintro e w' ⟨rfl, q, hR⟩
  have HR := keep hR
  clear hR
  go_wp2_with fail
  go_ret
  exact ⟨rfl, HR.out⟩

/-! ### Bool -/
theorem bool_drop {s : ByteArray} {a : Nat} (ha : a < s.size) : ∃ c : UInt8, s.data.toList.drop a = c :: s.data.toList.drop (a + 1) ∧ (c.toNat : Int) = bt s a := drop_bt s ha

set_option maxHeartbeats 400000 in
theorem boolStep (b c : Nat) (s : ByteArray) (a : Nat) (t : TypeId) (W : World) (hr : RdAt b s a 0 W) (hs : s.size ≤ 1000000) (hc : W.heap[c]? = some (.cells #[.bool false] t (0, 0))) (hn : b ≠ c) :
    (a = s.size → Calls Try.prog 50 (#[.string s, .int .i64 a] ++ #[.pointer (some ⟨c, 0, none⟩)]) W (StepTo 0 2 (StepQ b c s a (.bool false) t W))) ∧
    (a < s.size → 1 < bt s a → Calls Try.prog 50 (#[.string s, .int .i64 a] ++ #[.pointer (some ⟨c, 0, none⟩)]) W (StepTo 0 3 (StepQ b c s a (.bool false) t W))) ∧
    (a < s.size → bt s a = 0 → Calls Try.prog 50 (#[.string s, .int .i64 a] ++ #[.pointer (some ⟨c, 0, none⟩)]) W (StepTo ((a + 1 : Nat) : Int) 0 (StepQ b c s a (.bool false) t W))) ∧
    (a < s.size → bt s a = 1 → Calls Try.prog 50 (#[.string s, .int .i64 a] ++ #[.pointer (some ⟨c, 0, none⟩)]) W (StepTo ((a + 1 : Nat) : Int) 0 (StepQ b c s a (.bool true) t W))) := by
  have HQ := keep (StepQ.store (v := .bool false) hr hc hn)
  have HQ1 := keep (StepQ.store (v := .bool true) hr hc hn)
  have HQ0 := keep (StepQ.still hr hc)
  have cv := cell_of_one hc
  have cf := free_of_one hc
  have hb := get_bt s
  clear hr hc hn
  refine ⟨fun h => ?_, fun h h1 => ?_, fun h h1 => ?_, fun h h1 => ?_⟩
  · show Calls Try.prog 50 #[.string s, .int .i64 a, .pointer (some ⟨c, 0, none⟩)] W _
    subst h
    go_enter Try.func50, Try.ntmps50
    go_wp2
    go_ret2
    exact ⟨rfl, HQ0.out⟩
  · show Calls Try.prog 50 #[.string s, .int .i64 a, .pointer (some ⟨c, 0, none⟩)] W _
    have e1 : ((a : Int) == (s.size : Int)) = false := by rw [beq_eq_false_iff_ne]; omega
    have e2 : (bt s a != 0) = true := by simp; omega
    have e3 : (bt s a != 1) = true := by simp; omega
    go_enter Try.func50, Try.ntmps50
    go_wp2
    go_ret2
    exact ⟨rfl, HQ0.out⟩
  · show Calls Try.prog 50 #[.string s, .int .i64 a, .pointer (some ⟨c, 0, none⟩)] W _
    have e1 : ((a : Int) == (s.size : Int)) = false := by rw [beq_eq_false_iff_ne]; omega
    go_enter Try.func50, Try.ntmps50
    go_wp2
    go_ret2
    exact ⟨rfl, HQ.out⟩
  · show Calls Try.prog 50 #[.string s, .int .i64 a, .pointer (some ⟨c, 0, none⟩)] W _
    have e1 : ((a : Int) == (s.size : Int)) = false := by rw [beq_eq_false_iff_ne]; omega
    go_enter Try.func50, Try.ntmps50
    go_wp2
    go_ret2
    exact ⟨rfl, HQ1.out⟩

theorem boolV_cons (c : UInt8) (r : List UInt8) : boolV (c :: r) 0 = decide (c.toNat = 1) := by
  unfold boolV
  have : (c = 1) ↔ c.toNat = 1 := by rw [← UInt8.toNat_inj]; rfl
  simp [this]
theorem boolS_cons (c : UInt8) (r : List UInt8) : boolS (c :: r) 0 = if c.toNat ≤ 1 then (r, 0) else (c :: r, 3) := rfl

set_option maxHeartbeats 400000 in
theorem bool_any (p : Value) (l : List UInt8) (f : Int) (w : World) (h : PR p l f w) :
    Calls Try.prog 19 #[p] w fun e w' => e = .returned (.bool (boolV l f)) ∧ RdTo p (boolS l f) w w' := by
  have HC := keep (take_any p l f w (w.alloc (.cells #[.bool false] 4)) w.heap.size 50 #[.pointer (some ⟨w.heap.size, 0, none⟩)] (.bool false) (.bool (boolV l f)) (boolS l f) 4
    (enters Try.func50 (by kernel_rfl) rfl) h (below_alloc1 _ _) (Nat.le_refl _) (heap_alloc_new w _) (fun h0 => by unfold boolV boolS; rw [if_neg h0]; simp [h0])
    (by
      rintro rfl b s a rfl rfl hs hn ha
      have hst := fun W' (hr : RdAt b s a 0 W') (hh : W'.heap = (w.alloc (.cells #[.bool false] 4)).heap) => boolStep b w.heap.size s a 4 W' hr hs (by rw [hh]; exact heap_alloc_new w _) hn
      by_cases h1 : a = s.size
      · have hl : s.data.toList.drop a = [] := by rw [List.drop_eq_nil_iff, ← size_list]; omega
        rw [hl]
        exact ⟨0, 2, fun W' hr hh => (hst W' hr hh).1 h1, .inr ⟨by decide, rfl⟩⟩
      · have h2 : a < s.size := by omega
        obtain ⟨c, hl, hc⟩ := drop_bt s h2
        rw [hl, boolV_cons, boolS_cons]
        by_cases h3 : 1 < bt s a
        · rw [if_neg (by omega), show decide (c.toNat = 1) = false by simp; omega]
          exact ⟨0, 3, fun W' hr hh => (hst W' hr hh).2.1 h2 h3, .inr ⟨by decide, rfl⟩⟩
        · rw [if_pos (by omega)]
          have := bt_bd s a
          by_cases h4 : bt s a = 0
          · rw [show decide (c.toNat = 1) = false by simp; omega]
            exact ⟨_, 0, fun W' hr hh => (hst W' hr hh).2.2.1 h2 h4, .inl ⟨rfl, _, rfl, h2, rfl⟩⟩
          · rw [show decide (c.toNat = 1) = true by simp; omega]
            exact ⟨_, 0, fun W' hr hh => (hst W' hr hh).2.2.2 h2 (by omega), .inl ⟨rfl, _, rfl, h2, rfl⟩⟩))
  clear h
  go_enter Try.func19, Try.ntmps19
  go_wp2_with fail
  refine HC.out.mono ?_
  rintro e w' ⟨rfl, q, hR⟩
  have HR := keep hR
  clear hR
  go_wp2_with fail
  go_ret
  exact ⟨rfl, HR.out⟩
end Go.Proofs.Ytafeahjhdjcimaa
