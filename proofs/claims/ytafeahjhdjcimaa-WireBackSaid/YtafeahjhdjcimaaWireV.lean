/-
  A list of ints, written; the document's bytes of ints, texts, bools and lists; a part that is written by both.
-/
import Derived.Test.YtafeahjhdjcimaaWireW
import Derived.Test.YtafeahjhdjcimaaWireR
namespace Go.Proofs.Ytafeahjhdjcimaa
open Go.RowKit Go.Joins

theorem refnum (u : Int) (w : World) (h0 : 0 ≤ u) (h1 : u < 18446744073709551616) : Calls Try.prog 29 #[.int .u64 u] w fun e w' => e = .returned (.string (str (num u.toNat))) ∧ Below w.heap.size w w' :=
  (refNum_any 10 u w h0 (by omega) h1).mono fun _ _ ⟨_, he, hs, hb⟩ => ⟨by rw [he, str_of hs], hb⟩

theorem refint (n : Int) (w : World) (h0 : -9223372036854775808 ≤ n) (h1 : n ≤ 9223372036854775807) : Calls Try.prog 30 #[.int .i64 n] w fun e w' => e = .returned (.string (str (intB n))) ∧ Below w.heap.size w w' := by
  have HZ := keep (refZig_any n w h0 h1)
  have hz := zig_bd h0 h1
  have HC := keep (refnum (zig n) w hz.1 hz.2)
  clear h0 h1 hz
  unfold intB
  generalize zig n = z at *
  go_enter Try.func30, Try.ntmps30
  go_wp2_with fail
  refine HZ.out.mono ?_
  rintro e w' ⟨rfl, rfl⟩
  go_wp2_with fail
  refine HC.out.mono ?_
  rintro e w1 ⟨rfl, hb⟩
  have HB := keep hb
  clear hb
  go_wp2_with fail
  go_ret
  exact ⟨rfl, HB.out⟩

theorem refbool (x : Bool) (w : World) : Calls Try.prog 31 #[.bool x] w fun e w' => e = .returned (.string (str (boolB x))) ∧ w = w' := by
  cases x
  all_goals
    go_enter Try.func31, Try.ntmps31
    go_wp2_with fail
    go_ret
    exact ⟨rfl, rfl⟩

theorem str_cat (l : List UInt8) (s : ByteArray) : str l ++ s = str (l ++ s.data.toList) := by rw [cat_data]; rfl

theorem reftext (s : ByteArray) (w : World) (hs : s.size ≤ 1000000) : Calls Try.prog 32 #[.string s] w fun e w' => e = .returned (.string (str (textB s))) ∧ Below w.heap.size w w' := by
  have HC := keep (refnum (s.size : Int) w (by omega) (by omega))
  have hw : IntKind.u64.wrap (s.size : Int) = s.size := by rw [IntKind.wrap_u64]; omega
  rw [Int.toNat_natCast] at HC
  have hl : (str (num s.size)).size ≤ 11 := by rw [str_size]; exact (num_len _).2
  have HE : Keep (str (num s.size) ++ s = str (textB s)) := ⟨str_cat _ _⟩
  generalize str (num s.size) = t at *
  go_enter Try.func32, Try.ntmps32
  go_wp2_with fail
  refine HC.out.mono ?_
  rintro e w1 ⟨rfl, hb⟩
  have HB := keep hb
  clear hb
  go_wp2_with fail
  go_ret
  exact ⟨ret_str HE.out, HB.out⟩

/-- A list's bytes. -/
def intsB (xs : List Int) : List UInt8 := num xs.length ++ xs.flatMap intB
def intsK (xs : List Int) (k : Nat) : List UInt8 := num xs.length ++ (xs.take k).flatMap intB
theorem intsK_zero (xs : List Int) : intsK xs 0 = num xs.length := by simp [intsK]
theorem intsK_all (xs : List Int) : intsK xs xs.length = intsB xs := by simp [intsK, intsB]
theorem intsK_step (xs : List Int) {k : Nat} (h : k < xs.length) : intsK xs (k + 1) = intsK xs k ++ intB (xs.getD k 0) := by
  unfold intsK
  rw [List.take_succ_eq_append_getElem h, List.flatMap_append, List.append_assoc]
  simp [List.getD, h]
theorem intsK_len (xs : List Int) : ∀ k, k ≤ xs.length → (intsK xs k).length ≤ 11 + 11 * k
  | 0, _ => by rw [intsK_zero]; exact (num_len _).2
  | k + 1, h => by
    rw [intsK_step xs (by omega), List.length_append]
    have := intsK_len xs k (by omega)
    have := intB_len (xs.getD k 0)
    omega
theorem getD_all {xs : List Int} {P : Int → Prop} (h : ∀ z ∈ xs, P z) {k : Nat} (hk : k < xs.length) : P (xs.getD k 0) := by
  simp only [List.getD, List.getElem?_eq_getElem hk, Option.getD_some]
  exact h _ (List.getElem_mem hk)

set_option maxHeartbeats 800000 in
theorem refints (v : Value) (xs : List Int) (w : World) (h : IntRow w.heap.size w v xs) (hs : ∀ z ∈ xs, -9223372036854775808 ≤ z ∧ z ≤ 9223372036854775807) (hn : xs.length ≤ 1000) :
    Calls Try.prog 35 #[v] w fun e w' => e = .returned (.string (str (intsB xs))) ∧ Below w.heap.size w w' := by
  have HC := keep (refnum (xs.length : Int) w (by omega) (by omega))
  rw [Int.toNat_natCast] at HC
  have HS := keep hs
  have HL := keep (intsK_len xs)
  have hw : IntKind.u64.wrap (xs.length : Int) = xs.length := by rw [IntKind.wrap_u64]; omega
  rcases h.out with ⟨rfl, o, cap, rfl⟩ | ⟨b, off, cap, rfl, hb, hc⟩
  · have HE : Keep (intsB [] = num 0) := ⟨by simp [intsB]⟩
    clear h hs hn
    simp only [List.length_nil] at HC hw
    rw [HE.out]
    go_enter Try.func35, Try.ntmps35
    go_wp2_with fail
    refine HC.out.mono ?_
    rintro e w1 ⟨rfl, hb⟩
    have HB := keep hb
    clear hb
    go_wp2_with fail
    refine wp_loop_rounds 1 ?_
    rw [rounds_succ]
    go_wp2_with fail
    go_ret
    exact ⟨rfl, HB.out⟩
  · have HCC := keep hc
    have HST := keep (fun k => intsK_step xs (k := k))
    have HA := keep (intsK_all xs)
    have H0 := keep (intsK_zero xs)
    have HGD := keep (fun k => getD_all hs (k := k))
    obtain ⟨n, hnn⟩ : ∃ n, n = xs.length := ⟨_, rfl⟩
    rw [← hnn] at HC HCC HL HA H0 hn hw ⊢
    have HGD' : Keep (∀ k, k < n → -9223372036854775808 ≤ xs.getD k 0 ∧ xs.getD k 0 ≤ 9223372036854775807) := ⟨fun k hk => HGD.out k (by omega)⟩
    have HST' : Keep (∀ k, k < n → intsK xs (k + 1) = intsK xs k ++ intB (xs.getD k 0)) := ⟨fun k hk => HST.out k (by omega)⟩
    clear h hs hc HGD HST hnn HS
    go_enter Try.func35, Try.ntmps35
    go_wp2_with fail
    refine HC.out.mono ?_
    rintro e w1 ⟨rfl, hB⟩
    have HB := keep hB
    clear hB
    go_wp2_with fail
    go_loopw [3, 4] (fun s i wr => ∃ k : Nat, i = .int .i64 k ∧ s = .string (str (intsK xs k)) ∧ k ≤ n ∧ Keep (Below w.heap.size w wr)) (fun _ i _ => n - (intOf i).toNat)
    case atStart => exact ⟨0, rfl, by rw [H0.out], Nat.zero_le _, HB⟩
    case round =>
      obtain ⟨k, rfl, rfl, hk, HB2⟩ := hrel
      by_cases hlt : k < n
      · have hcell := (HB2.out.cell (p := ⟨b, off + k, none⟩) hb).trans (HCC.out k hlt)
        have hsz : (str (intsK xs k)).size ≤ 100000 := by rw [str_size]; have := HL.out k hk; omega
        have hg := HGD'.out k hlt
        have HI := keep (refint (xs.getD k 0) wr hg.1 hg.2)
        have hsz2 : (str (intB (xs.getD k 0))).size ≤ 11 := by rw [str_size]; exact intB_len _
        have HE : Keep (str (intsK xs k) ++ str (intB (xs.getD k 0)) = str (intsK xs (k + 1))) := ⟨by rw [HST'.out k hlt, str_cat, str_data]⟩
        clear hg
        generalize xs.getD k 0 = z at *
        generalize str (intB z) = t at *
        generalize str (intsK xs k) = s at *
        generalize hs' : str (intsK xs (k + 1)) = s' at *
        have HS' := keep hs'
        clear hs'
        have hltI : (k : Int) < n := by omega
        go_wp2_with fail
        refine HI.out.mono ?_
        rintro e w2 ⟨rfl, hB⟩
        have HB3 := keep (HB2.out.trans (hB.mono HB2.out.size))
        clear hB
        go_wp2_with fail
        go_roundw
        case rel => exact ⟨k + 1, by go_num, by rw [HE.out, HS'.out], by omega, HB3⟩
        case measure => simp [intOf]; omega
      · obtain rfl : k = n := by omega
        rw [HA.out]
        go_wp2_with fail
        go_ret
        exact ⟨rfl, HB2.out⟩

set_option maxHeartbeats 800000 in
theorem ints_w (p : Value) (b B : Nat) (l : List UInt8) (v : Value) (xs : List Int) (w : World) (h : PW p b l w) (hx : IntRow B w v xs) (hBb : B ≤ b) (hB : B ≤ w.heap.size) (hs : ∀ z ∈ xs, -9223372036854775808 ≤ z ∧ z ≤ 9223372036854775807) (hn : xs.length ≤ 1000) (hz : l.length + 12000 ≤ 1000000) :
    Calls Try.prog 34 #[p, v] w fun e w' => e = .returned (.tuple #[]) ∧ WrTo p b (app p l (intsB xs)) w w' := by
  have HC := keep (num_w p b l (xs.length : Int) w h (by omega) (by omega) (by omega))
  rw [Int.toNat_natCast] at HC
  have HL := keep (intsK_len xs)
  have HAL := keep (h.app_len l)
  have HAA := keep (h.app_app l)
  have hw : IntKind.u64.wrap (xs.length : Int) = xs.length := by rw [IntKind.wrap_u64]; omega
  rcases hx.out with ⟨rfl, o, cap, rfl⟩ | ⟨g, off, cap, rfl, hb, hc⟩
  · have HE : Keep (intsB [] = num 0) := ⟨by simp [intsB]⟩
    clear h hx hs hn
    simp only [List.length_nil] at HC hw
    rw [HE.out]
    go_enter Try.func34, Try.ntmps34
    go_wp2_with fail
    refine HC.out.mono ?_
    rintro e w1 ⟨rfl, hb⟩
    have HB := keep hb
    clear hb
    go_wp2_with fail
    refine wp_loop_rounds 1 ?_
    rw [rounds_succ]
    go_wp2_with fail
    go_end0
    exact ⟨rfl, HB.out⟩
  · have HCC := keep hc
    have HST := keep (fun k => intsK_step xs (k := k))
    have HA := keep (intsK_all xs)
    have H0 := keep (intsK_zero xs)
    have HGD := keep (fun k => getD_all hs (k := k))
    obtain ⟨n, hnn⟩ : ∃ n, n = xs.length := ⟨_, rfl⟩
    rw [← hnn] at HC HCC HL HA H0 hn hw ⊢
    have HGD' : Keep (∀ k, k < n → -9223372036854775808 ≤ xs.getD k 0 ∧ xs.getD k 0 ≤ 9223372036854775807) := ⟨fun k hk => HGD.out k (by omega)⟩
    have HST' : Keep (∀ k, k < n → intsK xs (k + 1) = intsK xs k ++ intB (xs.getD k 0)) := ⟨fun k hk => HST.out k (by omega)⟩
    clear h hs hx hc HGD HST hnn
    go_enter Try.func34, Try.ntmps34
    go_wp2_with fail
    refine HC.out.mono ?_
    rintro e w1 ⟨rfl, hB1⟩
    have HB := keep hB1
    clear hB1
    go_wp2_with fail
    go_loopw [13] (fun i wr => ∃ k : Nat, i = .int .i64 k ∧ k ≤ n ∧ Keep (WrTo p b (app p l (intsK xs k)) w wr)) (fun i _ => n - (intOf i).toNat)
    case atStart => exact ⟨0, rfl, Nat.zero_le _, ⟨by rw [H0.out]; exact HB.out⟩⟩
    case round =>
      obtain ⟨k, rfl, hk, HB2⟩ := hrel
      by_cases hlt : k < n
      · have hcell := ((HB2.out.2.below hBb hB).cell (p := ⟨g, off + k, none⟩) hb).trans (HCC.out k hlt)
        have hg := HGD'.out k hlt
        have HI := keep (int_w p b _ (xs.getD k 0) wr HB2.out.1 (by have := HAL.out (intsK xs k); have := HL.out k hk; omega) hg.1 hg.2)
        have HE : Keep (app p (app p l (intsK xs k)) (intB (xs.getD k 0)) = app p l (intsK xs (k + 1))) := ⟨by rw [HST'.out k hlt, HAA.out]⟩
        clear hg
        generalize xs.getD k 0 = z at *
        have hltI : (k : Int) < n := by omega
        go_wp2_with fail
        refine HI.out.mono ?_
        rintro e w2 ⟨rfl, hB2⟩
        rw [HE.out] at hB2
        have HB3 : Keep (WrTo p b (app p l (intsK xs (k + 1))) w w2) := ⟨hB2.1, HB2.out.2.trans hB2.2⟩
        clear hB2
        go_wp2_with fail
        go_roundw
        case rel => exact ⟨k + 1, by go_num, by omega, HB3⟩
        case measure => simp [intOf]; omega
      · obtain rfl : k = n := by omega
        go_wp2_with fail
        go_end0
        exact ⟨rfl, by rw [← HA.out]; exact HB2.out⟩

/-! ### write -/
/-- A part's bytes. -/
def partB (a : Pt) : List UInt8 :=
  if a.K = 0 then num a.U.toNat else if a.K = 1 then intB a.N else if a.K = 2 then boolB a.B else if a.K = 3 then textB a.S else if a.K = 4 then a.S.data.toList else if a.K = 5 then intsB a.L else []

/-- What write answers. -/
def WriteTo (p : Value) (b : Nat) (l t : List UInt8) (w : World) (e : Ending) (w' : World) : Prop := e = .returned (.string (str t)) ∧ WrTo p b (app p l t) w w'

theorem box_heap (w : World) (cs : Array Value) (t : TypeId) : (w.alloc (.cells cs t)).heap[w.heap.size]? = some (.cells cs t (0, 0)) := heap_alloc_new w _

theorem wrote_box {p : Value} {b : Nat} {l : List UInt8} {w w' : World} {cs : Array Value} (h : WrTo p b l (w.alloc (.cells cs 33)) w') (hb : b ≠ w.heap.size) (i : Nat) : w'.cell? ⟨w.heap.size, i, none⟩ = cs[i]? :=
  cell_of_block (h.2.other (box_heap w cs _) (fun e => hb e.symm) (by decide)) i

set_option maxHeartbeats 800000 in
theorem write_num (p : Value) (b : Nat) (l : List UInt8) (a : Pt) (w : World) (h : PW p b l w) (hb : b ≠ w.heap.size) (hz : l.length + 20000 ≤ 1000000) (hu : 0 ≤ a.U ∧ a.U < 18446744073709551616) (hK : a.K = 0) :
    Calls Try.prog 9 #[p, a.agg] w (WriteTo p b l (num a.U.toNat) w) := by
  obtain ⟨K, U, N, Bb, S, v, L⟩ := a
  obtain rfl : K = 0 := hK
  simp only at hu ⊢
  have HC := keep (num_w p b l U (w.alloc (.cells #[.int .i64 0, .int .u64 U, .int .i64 N, .bool Bb, .string S, v] 33)) (h.kept (below_alloc1 _ _)) (by omega) hu.1 hu.2)
  have HR := keep (fun w' => refnum U w' hu.1 hu.2)
  have HB := keep hb
  clear h hb hu hz
  unfold Pt.agg
  go_enter Try.func9, Try.ntmps9
  go_wp2_with fail
  refine HC.out.mono ?_
  rintro e w1 ⟨rfl, hW⟩
  have c1 := wrote_box hW HB.out 1
  have HW := keep hW
  clear hW
  simp only [List.getElem?_toArray, List.getElem?_cons_succ, List.getElem?_cons_zero] at c1
  go_wp2_with fail
  refine (HR.out w1).mono ?_
  rintro e w2 ⟨rfl, hB⟩
  have HB2 := keep hB
  clear hB
  go_wp2_with fail
  go_ret
  exact ⟨rfl, HW.out.1.kept HB2.out, ((WKept.of (below_alloc1 _ _)).trans HW.out.2).trans (WKept.of HB2.out)⟩

set_option maxHeartbeats 800000 in
theorem write_int (p : Value) (b : Nat) (l : List UInt8) (a : Pt) (w : World) (h : PW p b l w) (hb : b ≠ w.heap.size) (hz : l.length + 20000 ≤ 1000000) (hu : -9223372036854775808 ≤ a.N ∧ a.N ≤ 9223372036854775807) (hK : a.K = 1) :
    Calls Try.prog 9 #[p, a.agg] w (WriteTo p b l (intB a.N) w) := by
  obtain ⟨K, U, N, Bb, S, v, L⟩ := a
  obtain rfl : K = 1 := hK
  simp only at hu ⊢
  have HC := keep (int_w p b l N (w.alloc (.cells #[.int .i64 1, .int .u64 U, .int .i64 N, .bool Bb, .string S, v] 33)) (h.kept (below_alloc1 _ _)) (by omega) hu.1 hu.2)
  have HR := keep (fun w' => refint N w' hu.1 hu.2)
  have HB := keep hb
  clear h hb hu hz
  unfold Pt.agg
  go_enter Try.func9, Try.ntmps9
  go_wp2_with fail
  refine HC.out.mono ?_
  rintro e w1 ⟨rfl, hW⟩
  have c1 := wrote_box hW HB.out 2
  have HW := keep hW
  clear hW
  simp only [List.getElem?_toArray, List.getElem?_cons_succ, List.getElem?_cons_zero] at c1
  go_wp2_with fail
  refine (HR.out w1).mono ?_
  rintro e w2 ⟨rfl, hB⟩
  have HB2 := keep hB
  clear hB
  go_wp2_with fail
  go_ret
  exact ⟨rfl, HW.out.1.kept HB2.out, ((WKept.of (below_alloc1 _ _)).trans HW.out.2).trans (WKept.of HB2.out)⟩

set_option maxHeartbeats 800000 in
theorem write_bool (p : Value) (b : Nat) (l : List UInt8) (a : Pt) (w : World) (h : PW p b l w) (hb : b ≠ w.heap.size) (hz : l.length + 20000 ≤ 1000000) (hK : a.K = 2) :
    Calls Try.prog 9 #[p, a.agg] w (WriteTo p b l (boolB a.B) w) := by
  obtain ⟨K, U, N, Bb, S, v, L⟩ := a
  obtain rfl : K = 2 := hK
  simp only
  have HC := keep (bool_w p b l Bb (w.alloc (.cells #[.int .i64 2, .int .u64 U, .int .i64 N, .bool Bb, .string S, v] 33)) (h.kept (below_alloc1 _ _)) (by omega))
  have HR := keep (fun w' => refbool Bb w')
  have HB := keep hb
  clear h hb hz
  unfold Pt.agg
  go_enter Try.func9, Try.ntmps9
  go_wp2_with fail
  refine HC.out.mono ?_
  rintro e w1 ⟨rfl, hW⟩
  have c1 := wrote_box hW HB.out 3
  have HW := keep hW
  clear hW
  simp only [List.getElem?_toArray, List.getElem?_cons_succ, List.getElem?_cons_zero] at c1
  go_wp2_with fail
  refine (HR.out w1).mono ?_
  rintro e w2 ⟨rfl, rfl⟩
  go_wp2_with fail
  go_ret
  exact ⟨rfl, HW.out.1, (WKept.of (below_alloc1 _ _)).trans HW.out.2⟩

set_option maxHeartbeats 800000 in
theorem write_text (p : Value) (b : Nat) (l : List UInt8) (a : Pt) (w : World) (h : PW p b l w) (hb : b ≠ w.heap.size) (hz : l.length + 20000 ≤ 1000000) (hs : a.S.size ≤ 200) (hK : a.K = 3) :
    Calls Try.prog 9 #[p, a.agg] w (WriteTo p b l (textB a.S) w) := by
  obtain ⟨K, U, N, Bb, S, v, L⟩ := a
  obtain rfl : K = 3 := hK
  simp only at hs ⊢
  have HC := keep (text_w p b l S (w.alloc (.cells #[.int .i64 3, .int .u64 U, .int .i64 N, .bool Bb, .string S, v] 33)) (h.kept (below_alloc1 _ _)) (by omega))
  have HR := keep (fun w' => reftext S w' (by omega))
  have HB := keep hb
  clear h hb hz
  unfold Pt.agg
  go_enter Try.func9, Try.ntmps9
  go_wp2_with fail
  refine HC.out.mono ?_
  rintro e w1 ⟨rfl, hW⟩
  have c1 := wrote_box hW HB.out 4
  have HW := keep hW
  clear hW
  simp only [List.getElem?_toArray, List.getElem?_cons_succ, List.getElem?_cons_zero] at c1
  go_wp2_with fail
  refine (HR.out w1).mono ?_
  rintro e w2 ⟨rfl, hB⟩
  have HB2 := keep hB
  clear hB
  go_wp2_with fail
  go_ret
  exact ⟨rfl, HW.out.1.kept HB2.out, ((WKept.of (below_alloc1 _ _)).trans HW.out.2).trans (WKept.of HB2.out)⟩

set_option maxHeartbeats 800000 in
theorem write_raw (p : Value) (b : Nat) (l : List UInt8) (a : Pt) (w : World) (h : PW p b l w) (hb : b ≠ w.heap.size) (hz : l.length + 20000 ≤ 1000000) (hs : a.S.size ≤ 200) (hK : a.K = 4) :
    Calls Try.prog 9 #[p, a.agg] w (WriteTo p b l a.S.data.toList w) := by
  obtain ⟨K, U, N, Bb, S, v, L⟩ := a
  obtain rfl : K = 4 := hK
  simp only at hs ⊢
  have HC := keep (raw_w p b l S (w.alloc (.cells #[.int .i64 4, .int .u64 U, .int .i64 N, .bool Bb, .string S, v] 33)) (h.kept (below_alloc1 _ _)) (by omega))
  have HB := keep hb
  clear h hb hz
  unfold Pt.agg
  go_enter Try.func9, Try.ntmps9
  go_wp2_with fail
  refine HC.out.mono ?_
  rintro e w1 ⟨rfl, hW⟩
  have c1 := wrote_box hW HB.out 4
  have HW := keep hW
  clear hW
  simp only [List.getElem?_toArray, List.getElem?_cons_succ, List.getElem?_cons_zero] at c1
  go_wp2_with fail
  go_ret
  exact ⟨ret_str (str_eta S).symm, HW.out.1, (WKept.of (below_alloc1 _ _)).trans HW.out.2⟩

set_option maxHeartbeats 800000 in
theorem write_ints (p : Value) (b B : Nat) (l : List UInt8) (a : Pt) (w : World) (h : PW p b l w) (hb : b ≠ w.heap.size) (hBb : B ≤ b) (hB : B ≤ w.heap.size) (hz : l.length + 20000 ≤ 1000000) (hx : IntRow B w a.v a.L) (hs : ∀ z ∈ a.L, -9223372036854775808 ≤ z ∧ z ≤ 9223372036854775807) (hn : a.L.length ≤ 1000) (hK : a.K = 5) :
    Calls Try.prog 9 #[p, a.agg] w (WriteTo p b l (intsB a.L) w) := by
  obtain ⟨K, U, N, Bb, S, v, L⟩ := a
  obtain rfl : K = 5 := hK
  simp only at hx hs hn ⊢
  have HBW : Below B w (w.alloc (.cells #[.int .i64 5, .int .u64 U, .int .i64 N, .bool Bb, .string S, v] 33)) := (below_alloc1 _ _).mono hB
  have HC := keep (ints_w p b B l v L (w.alloc (.cells #[.int .i64 5, .int .u64 U, .int .i64 N, .bool Bb, .string S, v] 33)) (h.kept (below_alloc1 _ _)) (hx.below HBW) hBb (by simp; omega) hs hn (by omega))
  have HR := keep (fun w' (hw' : IntRow w'.heap.size w' v L) => refints v L w' hw' hs hn)
  have HB := keep hb
  have HX := keep (hx.below HBW)
  have HBS : Keep (B ≤ (w.alloc (.cells #[.int .i64 5, .int .u64 U, .int .i64 N, .bool Bb, .string S, v] 33)).heap.size) := ⟨by simp; omega⟩
  clear h hb hz hx HBW hs hn
  unfold Pt.agg
  go_enter Try.func9, Try.ntmps9
  go_wp2_with fail
  refine HC.out.mono ?_
  rintro e w1 ⟨rfl, hW⟩
  have c1 := wrote_box hW HB.out 5
  have HX1 := keep ((HX.out.below (hW.2.below hBb HBS.out)).mono (Nat.le_trans HBS.out hW.2.size))
  have HW := keep hW
  clear hW
  simp only [List.getElem?_toArray, List.getElem?_cons_succ, List.getElem?_cons_zero] at c1
  go_wp2_with fail
  refine (HR.out w1 HX1.out).mono ?_
  rintro e w2 ⟨rfl, hB⟩
  have HB2 := keep hB
  clear hB
  go_wp2_with fail
  go_ret
  exact ⟨rfl, HW.out.1.kept HB2.out, ((WKept.of (below_alloc1 _ _)).trans HW.out.2).trans (WKept.of HB2.out)⟩

set_option maxHeartbeats 800000 in
theorem write_none (p : Value) (b : Nat) (l : List UInt8) (a : Pt) (w : World) (h : PW p b l w) (hK : a.K < 0 ∨ 5 < a.K) :
    Calls Try.prog 9 #[p, a.agg] w (WriteTo p b l [] w) := by
  obtain ⟨K, U, N, Bb, S, v, L⟩ := a
  simp only at hK ⊢
  have H := keep (h.kept (below_alloc1 w (.cells #[.int .i64 K, .int .u64 U, .int .i64 N, .bool Bb, .string S, v] 33)))
  have HA := keep (h.app_nil l)
  have e0 : (K == 0) = false := by simp; omega
  have e1 : (K == 1) = false := by simp; omega
  have e2 : (K == 2) = false := by simp; omega
  have e3 : (K == 3) = false := by simp; omega
  have e4 : (K == 4) = false := by simp; omega
  have e5 : (K == 5) = false := by simp; omega
  clear h hK
  unfold Pt.agg
  go_enter Try.func9, Try.ntmps9
  go_wp2_with fail
  go_ret
  exact ⟨rfl, by rw [HA.out]; exact H.out, WKept.of (below_alloc1 _ _)⟩

/-- A part that is short enough, written. -/
theorem write_any (p : Value) (b B : Nat) (l : List UInt8) (a : Pt) (w : World) (h : PW p b l w) (hb : b ≠ w.heap.size) (hBb : B ≤ b) (hB : B ≤ w.heap.size) (hz : l.length + 20000 ≤ 1000000) (ha : PtOk B w a) (hs : a.S.size ≤ 200) (hn : a.L.length ≤ 60) :
    Calls Try.prog 9 #[p, a.agg] w (WriteTo p b l (partB a) w) := by
  unfold partB
  by_cases k0 : a.K = 0
  · rw [if_pos k0]; exact write_num p b l a w h hb hz ha.u k0
  rw [if_neg k0]
  by_cases k1 : a.K = 1
  · rw [if_pos k1]; exact write_int p b l a w h hb hz ha.n k1
  rw [if_neg k1]
  by_cases k2 : a.K = 2
  · rw [if_pos k2]; exact write_bool p b l a w h hb hz k2
  rw [if_neg k2]
  by_cases k3 : a.K = 3
  · rw [if_pos k3]; exact write_text p b l a w h hb hz hs k3
  rw [if_neg k3]
  by_cases k4 : a.K = 4
  · rw [if_pos k4]; exact write_raw p b l a w h hb hz hs k4
  rw [if_neg k4]
  by_cases k5 : a.K = 5
  · rw [if_pos k5]; exact write_ints p b B l a w h hb hBb hB hz ha.l ha.ls (by omega) k5
  rw [if_neg k5]
  exact write_none p b l a w h (by omega)

theorem partB_len (a : Pt) (hs : a.S.size ≤ 200) (hn : a.L.length ≤ 60) : (partB a).length ≤ 700 := by
  have hl := size_list a.S
  unfold partB
  split
  · have := num_len a.U.toNat; omega
  split
  · have := intB_len a.N; omega
  split
  · cases a.B <;> simp [boolB]
  split
  · have := num_len a.S.size; unfold textB; rw [List.length_append]; omega
  split
  · omega
  split
  · have := intsK_len a.L a.L.length (Nat.le_refl _); rw [intsK_all] at this; omega
  · simp
end Go.Proofs.Ytafeahjhdjcimaa
