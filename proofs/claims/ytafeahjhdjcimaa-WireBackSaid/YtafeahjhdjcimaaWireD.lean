/-
  The program's Raw, Upto and Text.
-/
import Derived.Test.YtafeahjhdjcimaaWireC
namespace Go.Proofs.Ytafeahjhdjcimaa
open Go.RowKit Go.Joins

theorem extract_list (s : ByteArray) (a b : Nat) : (s.extract a b).data.toList = (s.data.toList.drop a).take (b - a) := by
  rw [← Lib.extract_toList, ByteArray.toList_eq]
theorem extract_str {s : ByteArray} {l : List UInt8} {a b : Nat} (h : (s.data.toList.drop a).take (b - a) = l) : s.extract a b = str l := str_of ((extract_list s a b).trans h)

set_option maxHeartbeats 400000 in
theorem rawStep (b c d : Nat) (s : ByteArray) (a : Nat) (n : Int) (t : TypeId) (W : World) (hr : RdAt b s a 0 W) (hs : s.size ≤ 1000000) (hd : W.cell? ⟨d, 0, none⟩ = some (.int .i64 n)) (hc : W.heap[c]? = some (.cells #[.string ⟨#[]⟩] t (0, 0))) (hn : b ≠ c) (hdc : d ≠ c)
    (hn0 : -9223372036854775808 ≤ n) (hn1 : n ≤ 9223372036854775807) :
    (n < 0 → Calls Try.prog 51 (#[.string s, .int .i64 a] ++ #[.pointer (some ⟨d, 0, none⟩), .pointer (some ⟨c, 0, none⟩)]) W (StepTo 0 1 (StepQ b c s a (.string ⟨#[]⟩) t W))) ∧
    (0 ≤ n → (s.size : Int) - a < n → Calls Try.prog 51 (#[.string s, .int .i64 a] ++ #[.pointer (some ⟨d, 0, none⟩), .pointer (some ⟨c, 0, none⟩)]) W (StepTo 0 2 (StepQ b c s a (.string ⟨#[]⟩) t W))) ∧
    (∀ k : Nat, n = k → a + k ≤ s.size → Calls Try.prog 51 (#[.string s, .int .i64 a] ++ #[.pointer (some ⟨d, 0, none⟩), .pointer (some ⟨c, 0, none⟩)]) W (StepTo ((a + k : Nat) : Int) 0 (StepQ b c s a (.string (s.extract a (a + k))) t W))) := by
  have ha := hr.le
  have HQ : ∀ k : Nat, Keep (StepQ b c s a (.string (s.extract a (a + k))) t W (W.setCell ⟨c, 0, none⟩ (.string (s.extract a (a + k))))) := fun k => keep (StepQ.store hr hc hn)
  have HQ0 := keep (StepQ.still hr hc)
  have cv := cell_of_one hc
  have cf := free_of_one hc
  clear hr hc hn
  refine ⟨fun h => ?_, fun h h1 => ?_, fun k h h1 => ?_⟩
  · show Calls Try.prog 51 #[.string s, .int .i64 a, .pointer (some ⟨d, 0, none⟩), .pointer (some ⟨c, 0, none⟩)] W _
    go_enter Try.func51, Try.ntmps51
    go_wp2
    go_ret2
    exact ⟨rfl, HQ0.out⟩
  · show Calls Try.prog 51 #[.string s, .int .i64 a, .pointer (some ⟨d, 0, none⟩), .pointer (some ⟨c, 0, none⟩)] W _
    go_enter Try.func51, Try.ntmps51
    go_wp2
    go_ret2
    exact ⟨rfl, HQ0.out⟩
  · show Calls Try.prog 51 #[.string s, .int .i64 a, .pointer (some ⟨d, 0, none⟩), .pointer (some ⟨c, 0, none⟩)] W _
    subst h
    have HK := HQ k
    clear HQ
    have e : ((a : Int) + (k : Int)).toNat = a + k := by omega
    go_enter Try.func51, Try.ntmps51
    go_wp2
    go_ret2
    exact ⟨rfl, HK.out⟩

theorem heap_two (w : World) (o1 o2 : Obj) : ((w.alloc o1).alloc o2).heap[w.heap.size + 1]? = some o2 := by
  have := heap_alloc_new (w.alloc o1) o2
  rw [show (w.alloc o1).heap.size = w.heap.size + 1 from by simp] at this
  exact this
theorem cell_two (w : World) (v : Value) (t : TypeId) (o2 : Obj) : ((w.alloc (.cells #[v] t)).alloc o2).cell? ⟨w.heap.size, 0, none⟩ = some v := by
  rw [World.cell?_of_block (w := w.alloc (.cells #[v] t)) (Below.heap_alloc _ _ _ (by simp))]
  exact cell_new1 w v t

theorem rawV_cases (n : Int) (l : List UInt8) (f : Int) (h0 : f ≠ 0) : rawV n l f = [] ∧ rawS n l f = (l, f) := by
  unfold rawV rawS; rw [if_neg (fun c => h0 c.1), if_neg h0]; exact ⟨rfl, rfl⟩

set_option maxHeartbeats 400000 in
theorem raw_any (p : Value) (n : Int) (l : List UInt8) (f : Int) (w : World) (h : PR p l f w) (hn0 : -9223372036854775808 ≤ n) (hn1 : n ≤ 9223372036854775807) :
    Calls Try.prog 21 #[p, .int .i64 n] w fun e w' => e = .returned (.string (str (rawV n l f))) ∧ RdTo p (rawS n l f) w w' := by
  have HC := keep (take_any p l f w ((w.alloc (.cells #[.int .i64 n] 3)).alloc (.cells #[.string ⟨#[]⟩] 9)) (w.heap.size + 1) 51 #[.pointer (some ⟨w.heap.size, 0, none⟩), .pointer (some ⟨w.heap.size + 1, 0, none⟩)] (.string ⟨#[]⟩) (.string (str (rawV n l f))) (rawS n l f) 9
    (enters Try.func51 (by kernel_rfl) rfl) h (below_alloc2 _ _ _) (by omega) (heap_two _ _ _) (fun h0 => by obtain ⟨e1, e2⟩ := rawV_cases n l f h0; rw [e1, e2]; exact ⟨rfl, rfl⟩)
    (by
      rintro rfl b s a rfl rfl hs hn ha
      have hbw : b ≠ w.heap.size + 1 := hn
      have hst := fun W' (hr : RdAt b s a 0 W') (hh : W'.heap = ((w.alloc (.cells #[.int .i64 n] 3)).alloc (.cells #[.string ⟨#[]⟩] 9)).heap) => rawStep b (w.heap.size + 1) w.heap.size s a n 9 W' hr hs
        (by rw [World.cell?_of_block (w := (w.alloc (.cells #[.int .i64 n] 3)).alloc (.cells #[.string ⟨#[]⟩] 9)) (by rw [hh])]; exact cell_two _ _ _ _) (by rw [hh]; exact heap_two _ _ _) hn (by omega) hn0 hn1
      have hL : (s.data.toList.drop a).length = s.size - a := by rw [List.length_drop, ← size_list]
      by_cases h1 : n < 0
      · have e1 : rawV n (s.data.toList.drop a) 0 = [] := by unfold rawV; rw [if_neg (by omega)]
        have e2 : rawS n (s.data.toList.drop a) 0 = (s.data.toList.drop a, 1) := by unfold rawS; rw [if_pos rfl, if_pos h1]
        rw [e1, e2]
        exact ⟨0, 1, fun W' hr hh => (hst W' hr hh).1 h1, .inr ⟨by decide, rfl⟩⟩
      · by_cases h2 : n ≤ (s.data.toList.drop a).length
        · obtain ⟨k, rfl⟩ := Int.eq_ofNat_of_zero_le (show 0 ≤ n by omega)
          have e1 : rawV k (s.data.toList.drop a) 0 = (s.data.toList.drop a).take k := by unfold rawV; rw [if_pos ⟨rfl, by omega, h2⟩, Int.toNat_natCast]
          have e2 : rawS k (s.data.toList.drop a) 0 = (s.data.toList.drop (a + k), 0) := by unfold rawS; rw [if_pos rfl, if_neg h1, if_pos h2, Int.toNat_natCast, List.drop_drop]
          rw [e1, e2]
          have hk : a + k ≤ s.size := by omega
          have e3 : s.extract a (a + k) = str ((s.data.toList.drop a).take k) := extract_str (by rw [Nat.add_sub_cancel_left])
          rw [← e3]
          exact ⟨_, 0, fun W' hr hh => (hst W' hr hh).2.2 k rfl hk, .inl ⟨rfl, _, rfl, hk, rfl⟩⟩
        · have e1 : rawV n (s.data.toList.drop a) 0 = [] := by unfold rawV; rw [if_neg (fun c => h2 c.2.2)]
          have e2 : rawS n (s.data.toList.drop a) 0 = (s.data.toList.drop a, 2) := by unfold rawS; rw [if_pos rfl, if_neg h1, if_neg h2]
          rw [e1, e2]
          exact ⟨0, 2, fun W' hr hh => (hst W' hr hh).2.1 (by omega) (by omega), .inr ⟨by decide, rfl⟩⟩))
  clear h hn0 hn1
  go_enter Try.func21, Try.ntmps21
  go_wp2_with fail
  refine HC.out.mono ?_
  rintro e w' ⟨rfl, q, hR⟩
  have HR := keep hR
  clear hR
  go_wp2_with fail
  go_ret
  exact ⟨rfl, HR.out⟩

/-! ### Upto -/
set_option maxHeartbeats 400000 in
theorem uptoStep (b c d : Nat) (s : ByteArray) (a : Nat) (m : Int) (t : TypeId) (W : World) (hr : RdAt b s a 0 W) (hs : s.size ≤ 1000000) (hd : W.cell? ⟨d, 0, none⟩ = some (.int .i64 m)) (hc : W.heap[c]? = some (.cells #[.int .i64 0] t (0, 0))) (hn : b ≠ c)
    (hn0 : -9223372036854775808 ≤ m) (hn1 : m ≤ 9223372036854775807) (u : Int) (nx ft : Int) (hu : ((getV s a).1 : Int) = u) (hnx : ((getV s a).2.1 : Int) = nx) (hft : ((getV s a).2.2 : Int) = ft) :
    (ft ≠ 0 → Calls Try.prog 58 (#[.string s, .int .i64 a] ++ #[.pointer (some ⟨d, 0, none⟩), .pointer (some ⟨c, 0, none⟩)]) W (StepTo 0 ft (StepQ b c s a (.int .i64 0) t W))) ∧
    (ft = 0 → m < 0 → Calls Try.prog 58 (#[.string s, .int .i64 a] ++ #[.pointer (some ⟨d, 0, none⟩), .pointer (some ⟨c, 0, none⟩)]) W (StepTo 0 6 (StepQ b c s a (.int .i64 0) t W))) ∧
    (ft = 0 → 0 ≤ m → m < u → Calls Try.prog 58 (#[.string s, .int .i64 a] ++ #[.pointer (some ⟨d, 0, none⟩), .pointer (some ⟨c, 0, none⟩)]) W (StepTo 0 6 (StepQ b c s a (.int .i64 0) t W))) ∧
    (ft = 0 → 0 ≤ u → u ≤ m → Calls Try.prog 58 (#[.string s, .int .i64 a] ++ #[.pointer (some ⟨d, 0, none⟩), .pointer (some ⟨c, 0, none⟩)]) W (StepTo nx 0 (StepQ b c s a (.int .i64 u) t W))) := by
  have hg := get_in s a W hs hr.le
  unfold tup3 at hg
  rw [hu, hnx, hft] at hg
  have HG := keep hg
  have HQ := keep (StepQ.store (v := .int .i64 u) hr hc hn)
  have HQ0 := keep (StepQ.still hr hc)
  have cv := cell_of_one hc
  have cf := free_of_one hc
  have HW : Keep (0 ≤ m → IntKind.u64.wrap m = m) := ⟨fun h => by rw [IntKind.wrap_u64]; omega⟩
  have HI : Keep (0 ≤ u → u ≤ m → IntKind.i64.wrap u = u) := ⟨fun h1 h2 => by rw [IntKind.wrap_i64]; omega⟩
  clear hr hc hn hg hu hnx hft hn0 hn1 hs
  refine ⟨fun h => ?_, fun h h1 => ?_, fun h h1 h2 => ?_, fun h h1 h2 => ?_⟩
  · show Calls Try.prog 58 #[.string s, .int .i64 a, .pointer (some ⟨d, 0, none⟩), .pointer (some ⟨c, 0, none⟩)] W _
    have e1 : (ft != 0) = true := by simpa using h
    clear h
    go_enter Try.func58, Try.ntmps58
    go_wp2_with fail
    refine HG.out.mono ?_
    rintro e w' ⟨rfl, rfl⟩
    go_wp2_with fail
    go_ret2
    exact ⟨rfl, HQ0.out⟩
  · show Calls Try.prog 58 #[.string s, .int .i64 a, .pointer (some ⟨d, 0, none⟩), .pointer (some ⟨c, 0, none⟩)] W _
    subst h
    go_enter Try.func58, Try.ntmps58
    go_wp2_with fail
    refine HG.out.mono ?_
    rintro e w' ⟨rfl, rfl⟩
    go_wp2_with fail
    go_ret2
    exact ⟨rfl, HQ0.out⟩
  · show Calls Try.prog 58 #[.string s, .int .i64 a, .pointer (some ⟨d, 0, none⟩), .pointer (some ⟨c, 0, none⟩)] W _
    subst h
    have hw := HW.out h1
    go_enter Try.func58, Try.ntmps58
    go_wp2_with fail
    refine HG.out.mono ?_
    rintro e w' ⟨rfl, rfl⟩
    go_wp2_with fail
    go_ret2
    exact ⟨rfl, HQ0.out⟩
  · show Calls Try.prog 58 #[.string s, .int .i64 a, .pointer (some ⟨d, 0, none⟩), .pointer (some ⟨c, 0, none⟩)] W _
    subst h
    have h3 : 0 ≤ m := by omega
    have hw := HW.out h3
    have hi := HI.out h1 h2
    go_enter Try.func58, Try.ntmps58
    go_wp2_with fail
    refine HG.out.mono ?_
    rintro e w' ⟨rfl, rfl⟩
    go_wp2_with fail
    go_ret2
    exact ⟨rfl, HQ.out⟩

set_option maxHeartbeats 400000 in
theorem upto_any (p : Value) (m : Int) (l : List UInt8) (f : Int) (w : World) (h : PR p l f w) (hn0 : -9223372036854775808 ≤ m) (hn1 : m ≤ 9223372036854775807) :
    Calls Try.prog 42 #[p, .int .i64 m] w fun e w' => e = .returned (.int .i64 (uptoV m l f)) ∧ RdTo p (uptoS m l f) w w' := by
  have HC := keep (take_any p l f w ((w.alloc (.cells #[.int .i64 m] 3)).alloc (.cells #[.int .i64 0] 3)) (w.heap.size + 1) 58 #[.pointer (some ⟨w.heap.size, 0, none⟩), .pointer (some ⟨w.heap.size + 1, 0, none⟩)] (.int .i64 0) (.int .i64 (uptoV m l f)) (uptoS m l f) 3
    (enters Try.func58 (by kernel_rfl) rfl) h (below_alloc2 _ _ _) (by omega) (heap_two _ _ _) (fun h0 => by unfold uptoV uptoS; rw [if_neg (fun c => h0 c.1), if_neg h0]; exact ⟨rfl, rfl⟩)
    (by
      rintro rfl b s a rfl rfl hs hn ha
      have hst := fun W' (hr : RdAt b s a 0 W') (hh : W'.heap = ((w.alloc (.cells #[.int .i64 m] 3)).alloc (.cells #[.int .i64 0] 3)).heap) => uptoStep b (w.heap.size + 1) w.heap.size s a m 3 W' hr hs
        (by rw [World.cell?_of_block (w := (w.alloc (.cells #[.int .i64 m] 3)).alloc (.cells #[.int .i64 0] 3)) (by rw [hh])]; exact cell_two _ _ _ _) (by rw [hh]; exact heap_two _ _ _) hn hn0 hn1 _ _ _ rfl rfl rfl
      rw [getV_head] at hst
      have hl := head_le (s := s) ha
      have hdr := head_drop s a
      have hbd := headU_bdI (s.data.toList.drop a)
      by_cases hE : headE (s.data.toList.drop a) = 0
      · rw [if_pos hE] at hst
        have hl := hl hE
        by_cases h1 : (headU (s.data.toList.drop a) : Int) ≤ m
        · have e1 : uptoV m (s.data.toList.drop a) 0 = headU (s.data.toList.drop a) := by unfold uptoV; rw [if_pos ⟨rfl, hE, h1⟩]
          have e2 : uptoS m (s.data.toList.drop a) 0 = (headL (s.data.toList.drop a), 0) := by unfold uptoS; rw [if_pos rfl, if_pos hE, if_pos h1]
          rw [e1, e2]
          exact ⟨_, 0, fun W' hr hh => (hst W' hr hh).2.2.2 rfl hbd.1 h1, .inl ⟨rfl, _, rfl, hl, by rw [hdr]⟩⟩
        · have e1 : uptoV m (s.data.toList.drop a) 0 = 0 := by unfold uptoV; rw [if_neg (fun c => h1 c.2.2)]
          have e2 : uptoS m (s.data.toList.drop a) 0 = (s.data.toList.drop a, 6) := by unfold uptoS; rw [if_pos rfl, if_pos hE, if_neg h1]
          rw [e1, e2]
          refine ⟨0, 6, fun W' hr hh => ?_, .inr ⟨by decide, rfl⟩⟩
          by_cases h2 : m < 0
          · exact (hst W' hr hh).2.1 rfl h2
          · exact (hst W' hr hh).2.2.1 rfl (by omega) (by show m < (headU (s.data.toList.drop a) : Int); omega)
      · rw [if_neg hE] at hst
        have e1 : uptoV m (s.data.toList.drop a) 0 = 0 := by unfold uptoV; rw [if_neg (fun c => hE c.2.1)]
        have e2 : uptoS m (s.data.toList.drop a) 0 = (s.data.toList.drop a, (headE (s.data.toList.drop a) : Int)) := by unfold uptoS; rw [if_pos rfl, if_neg hE]
        rw [e1, e2]
        have hE' : (headE (s.data.toList.drop a) : Int) ≠ 0 := by omega
        exact ⟨0, _, fun W' hr hh => (hst W' hr hh).1 hE', .inr ⟨hE', rfl⟩⟩))
  clear h hn0 hn1
  go_enter Try.func42, Try.ntmps42
  go_wp2_with fail
  refine HC.out.mono ?_
  rintro e w' ⟨rfl, q, hR⟩
  have HR := keep hR
  clear hR
  go_wp2_with fail
  go_ret
  exact ⟨rfl, HR.out⟩

/-! ### Text -/
theorem text_any (p : Value) (m : Int) (l : List UInt8) (f : Int) (w : World) (h : PR p l f w) (hn0 : -9223372036854775808 ≤ m) (hn1 : m ≤ 9223372036854775807) :
    Calls Try.prog 20 #[p, .int .i64 m] w fun e w' => e = .returned (.string (str (textV m l f))) ∧ RdTo p (textS m l f) w w' := by
  have HC := keep (upto_any p m l f w h hn0 hn1)
  have HB := keep (uptoV_bd m l f hn1)
  clear h hn0 hn1
  unfold textV textS
  generalize uptoV m l f = n at *
  generalize uptoS m l f = x at *
  go_enter Try.func20, Try.ntmps20
  go_wp2_with fail
  refine HC.out.mono ?_
  rintro e w1 ⟨rfl, hR⟩
  have HR := keep hR
  clear hR
  go_wp2_with fail
  refine (raw_any p n x.1 x.2 w1 HR.out.1 (by have := HB.out; omega) HB.out.2).mono ?_
  rintro e w2 ⟨rfl, hR⟩
  have HR2 := keep hR
  clear hR
  go_wp2_with fail
  go_ret
  exact ⟨rfl, HR2.out.1, HR.out.2.trans HR2.out.2⟩
end Go.Proofs.Ytafeahjhdjcimaa
