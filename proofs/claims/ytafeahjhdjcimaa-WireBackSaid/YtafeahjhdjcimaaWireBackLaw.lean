/-
  For every list of parts and every string, retracelaw03.WireBack answers true, and what it is given reads as before. No condition.
-/
import Derived.Test.YtafeahjhdjcimaaRows
import Derived.Test.YtafeahjhdjcimaaWireQ
import Derived.Test.YtafeahjhdjcimaaWireN
import Derived.Test.YtafeahjhdjcimaaPlanY
namespace Go.Proofs.Ytafeahjhdjcimaa.wireBack
open Go.ChangeShapes Go.WideShapes Go.ChangeAt Go.RowKit Go.Joins
open Go.ChangeMaps (open_string shut_string)

theorem own : ownKnob Try.prog.godebug = none := by kernel_rfl

/-- The bytes of the first k parts. -/
def cat (ps : Nat → Pt) : Nat → List UInt8
  | 0 => []
  | k + 1 => cat ps k ++ partB (ps k)
theorem cat_len (n : Nat) (ps : Nat → Pt) (h : Short n ps) : ∀ k, k ≤ n → (cat ps k).length ≤ 700 * k
  | 0, _ => by simp [cat]
  | k + 1, hk => by
    have := cat_len n ps h k (by omega)
    have := partB_len (ps k) (h.2 k (by omega)).1 (h.2 k (by omega)).2
    rw [cat, List.length_append]; omega

/-- The writer at the head of a round. -/
structure At (p : Value) (b : Nat) (l : List UInt8) (w wr : World) : Prop where
  pw : PW p b l wr
  below : Below w.heap.size w wr
  lt : b < wr.heap.size

theorem At.step {p : Value} {b : Nat} {l l' : List UInt8} {w wr w1 : World} (h : At p b l w wr) (hb : WrTo p b l' wr w1) (hB : w.heap.size ≤ b) : At p b l' w w1 :=
  ⟨hb.1, h.below.trans (hb.2.below hB h.below.size), Nat.lt_of_lt_of_le h.lt hb.2.size⟩
theorem At.to {p : Value} {b : Nat} {l : List UInt8} {w wr w1 : World} (h : At p b l w wr) (hb : Below wr.heap.size wr w1) : At p b l w w1 :=
  ⟨h.pw.kept hb, h.below.trans (hb.mono h.below.size), Nat.lt_of_lt_of_le h.lt hb.size⟩
theorem full {w w' : World} (h : WKept (w.heap.size + 1) w w') : Below w.heap.size w w' := h.below (by omega) (Nat.le_refl _)

/-- The six cells of a part, as the walk spells them. -/
theorem six_of {w : World} {b off k : Nat} {a : Pt} (h : PtCells w b off k a) : w.cell? ⟨b, off + k * 6, none⟩ = some (.int .i64 a.K) ∧ w.cell? ⟨b, off + k * 6 + 1, none⟩ = some (.int .u64 a.U) ∧ w.cell? ⟨b, off + k * 6 + 2, none⟩ = some (.int .i64 a.N) ∧ w.cell? ⟨b, off + k * 6 + 3, none⟩ = some (.bool a.B) ∧ w.cell? ⟨b, off + k * 6 + 4, none⟩ = some (.string a.S) ∧ w.cell? ⟨b, off + k * 6 + 5, none⟩ = some a.v :=
  ⟨h.c0, h.c1, h.c2, h.c3, h.c4, h.c5⟩


theorem cat_prefix (ps : Nat → Pt) (m : Nat) : ∀ j, ∃ s, cat ps (m + j) = cat ps m ++ s
  | 0 => ⟨[], by simp⟩
  | j + 1 => by
    obtain ⟨s, hs⟩ := cat_prefix ps m j
    exact ⟨s ++ partB (ps (m + j)), by rw [← Nat.add_assoc, cat, hs, List.append_assoc]⟩
/-- What is left behind the first k parts. -/
def rest (ps : Nat → Pt) (n : Nat) (more : List UInt8) (k : Nat) : List UInt8 := (cat ps n ++ more).drop (cat ps k).length
theorem rest_zero (ps : Nat → Pt) (n : Nat) (more : List UInt8) : rest ps n more 0 = cat ps n ++ more := rfl
theorem rest_all (ps : Nat → Pt) (n : Nat) (more : List UInt8) : rest ps n more n = more := by unfold rest; exact List.drop_left
theorem rest_step (ps : Nat → Pt) (n : Nat) (more : List UInt8) {k : Nat} (h : k < n) : rest ps n more k = partB (ps k) ++ rest ps n more (k + 1) := by
  obtain ⟨s, hs⟩ := cat_prefix ps (k + 1) (n - (k + 1))
  rw [show k + 1 + (n - (k + 1)) = n by omega] at hs
  unfold rest
  rw [hs, List.append_assoc, List.drop_left, cat, List.append_assoc, List.drop_left]

/-- The reader at the head of a round. -/
structure At2 (p : Value) (l : List UInt8) (w wr : World) : Prop where
  rd : PR p l 0 wr
  below : Below w.heap.size w wr
theorem At2.step {p : Value} {l l' : List UInt8} {w wr w1 w2 : World} (h : At2 p l w wr) (hb : Below wr.heap.size wr w1) (hr : RdTo p (l', 0) w1 w2) (hp : ∀ k, blk p = some k → w.heap.size ≤ k) : At2 p l' w w2 :=
  ⟨hr.1, (h.below.trans (hb.mono h.below.size)).trans (hr.2.below hp (Nat.le_trans h.below.size hb.size))⟩
theorem At2.to {p : Value} {l : List UInt8} {w wr w1 : World} (h : At2 p l w wr) (hb : Below wr.heap.size wr w1) : At2 p l w w1 :=
  ⟨h.rd.kept (p := .pointer none) (Kept.of hb) (fun _ e => by cases e), h.below.trans (hb.mono h.below.size)⟩

/-- The six cells of a box. -/
def Six (w : World) (b : Nat) (K U N : Int) (B : Bool) (S : ByteArray) (v : Value) : Prop :=
  w.cell? ⟨b, 0, none⟩ = some (.int .i64 K) ∧ w.cell? ⟨b, 1, none⟩ = some (.int .u64 U) ∧ w.cell? ⟨b, 2, none⟩ = some (.int .i64 N) ∧ w.cell? ⟨b, 3, none⟩ = some (.bool B) ∧ w.cell? ⟨b, 4, none⟩ = some (.string S) ∧ w.cell? ⟨b, 5, none⟩ = some v
theorem Six.new (w : World) (K U N : Int) (B : Bool) (S : ByteArray) (v : Value) (t : TypeId) : Six (w.alloc (.cells #[.int .i64 K, .int .u64 U, .int .i64 N, .bool B, .string S, v] t)) w.heap.size K U N B S v :=
  ⟨cell_of_block (heap_alloc_new w _) 0, cell_of_block (heap_alloc_new w _) 1, cell_of_block (heap_alloc_new w _) 2, cell_of_block (heap_alloc_new w _) 3, cell_of_block (heap_alloc_new w _) 4, cell_of_block (heap_alloc_new w _) 5⟩
theorem Six.below {w w' : World} {b : Nat} {K U N : Int} {B : Bool} {S : ByteArray} {v : Value} (h : Six w b K U N B S v) (hb : Below w.heap.size w w') : Six w' b K U N B S v :=
  ⟨(hb.cell (p := ⟨b, 0, none⟩) (World.block_lt_of_cell? _ _ h.1)).trans h.1, (hb.cell (p := ⟨b, 1, none⟩) (World.block_lt_of_cell? _ _ h.2.1)).trans h.2.1, (hb.cell (p := ⟨b, 2, none⟩) (World.block_lt_of_cell? _ _ h.2.2.1)).trans h.2.2.1, (hb.cell (p := ⟨b, 3, none⟩) (World.block_lt_of_cell? _ _ h.2.2.2.1)).trans h.2.2.2.1, (hb.cell (p := ⟨b, 4, none⟩) (World.block_lt_of_cell? _ _ h.2.2.2.2.1)).trans h.2.2.2.2.1, (hb.cell (p := ⟨b, 5, none⟩) (World.block_lt_of_cell? _ _ h.2.2.2.2.2)).trans h.2.2.2.2.2⟩
theorem Six.kept {w w' : World} {b : Nat} {K U N : Int} {B : Bool} {S : ByteArray} {v p : Value} (h : Six w b K U N B S v) (hk : Kept p w w') (hn : blk p ≠ some b) : Six w' b K U N B S v :=
  ⟨hk.cell (q := ⟨b, 0, none⟩) h.1 hn, hk.cell (q := ⟨b, 1, none⟩) h.2.1 hn, hk.cell (q := ⟨b, 2, none⟩) h.2.2.1 hn, hk.cell (q := ⟨b, 3, none⟩) h.2.2.2.1 hn, hk.cell (q := ⟨b, 4, none⟩) h.2.2.2.2.1 hn, hk.cell (q := ⟨b, 5, none⟩) h.2.2.2.2.2 hn⟩

set_option maxRecDepth 100000 in
set_option maxHeartbeats 8000000 in
theorem walk_none (o : Option Addr) (cap : Nat) (ps : Nat → Pt) (a1 : ByteArray) (w : World) (h : Parts w.heap.size w (.slice o 0 cap) 0 ps) (h0 : (a1.size : Int) ≤ 200) :
    Calls Try.prog 5 #[.slice o 0 cap, .string a1] w fun e w' => e = .returned (.bool true) ∧ Below w.heap.size w w' := by
  have HLONG := keep (long_any _ _ 0 ps w h)
  clear h
  go_enter Try.func5, Try.ntmps5
  go_wp2_with fail
  refine HLONG.out.mono ?_
  rintro e w' ⟨x, rfl, hx, rfl⟩
  cases x
  · have HSH := keep (hx rfl)
    clear hx
    go_wp2_with fail
    have HAT0 : Keep (At (.pointer (some ⟨w.heap.size, 0, none⟩)) w.heap.size [] w (w.alloc (.cells #[.slice none 0 0] 28))) := ⟨⟨⟨.inr ⟨rfl, _, heap_alloc_new w _, World.ownsRow_nil _ _ _ _⟩⟩, below_alloc1 w _, by simp⟩⟩
    have HCL := keep (cat_len _ ps HSH.out)
    have HAT := HAT0
    generalize w.alloc (.cells #[.slice none 0 0] 28) = wr at *
    clear HAT0
    rw [show ([] : List UInt8) = cat ps 0 from rfl] at HAT
    refine wp_loop_rounds 1 ?_
    rw [rounds_succ]
    have HBY := keep (bytes_w (.pointer (some ⟨w.heap.size, 0, none⟩)) w.heap.size (cat ps 0) wr HAT.out.pw)
    have hz1 : (str (cat ps 0)).size ≤ 100000 := by
      rw [str_size]
      have := HCL.out 0 (by omega)
      have := HSH.out.1
      omega
    have HDT : Keep ((str (cat ps 0) ++ a1).data.toList = rest ps 0 a1.data.toList 0) := ⟨by rw [str_cat, str_data, rest_zero]⟩
    generalize str (cat ps 0) = s0 at *
    obtain ⟨s1, hs1⟩ : ∃ s1, s1 = s0 ++ a1 := ⟨_, rfl⟩
    have hz2 : s1.size ≤ 1000000 := by
      have e : s1.size = s0.size + a1.size := by rw [hs1]; exact ByteArray.size_append
      omega
    rw [← hs1] at HDT
    have HS1 := keep hs1
    clear hs1
    go_wp2_with fail
    refine HBY.out.mono ?_
    rintro e w' ⟨rfl, rfl⟩
    go_wp2_with fail
    rw [← HS1.out]
    refine (open_any s1 wr hz2).mono ?_
    rintro e w4 ⟨rfl, hr, hb4⟩
    rw [HDT.out] at hr
    have HA2 : Keep (At2 (.pointer (some ⟨wr.heap.size, 0, none⟩)) (rest ps 0 a1.data.toList 0) w w4) := ⟨⟨hr, HAT.out.below.trans (hb4.mono HAT.out.below.size)⟩⟩
    have HBP : Keep (∀ k, blk (.pointer (some ⟨wr.heap.size, 0, none⟩)) = some k → w.heap.size ≤ k) := ⟨fun k e => by have := HAT.out.below.size; simp [blk] at e; omega⟩
    clear hr hb4
    generalize wr.heap.size = B1 at *
    go_wp2_with fail
    refine wp_loop_rounds 1 ?_
    rw [rounds_succ]
    have HL : Keep (Calls Try.prog 13 #[.pointer (some ⟨B1, 0, none⟩)] w4 fun e w' => e = .returned (.int .i64 a1.size) ∧ Below w4.heap.size w4 w') := ⟨by
      have := left_any _ _ 0 w4 HA2.out.rd
      rw [rest_all, ← size_list] at this
      exact this⟩
    go_wp2_with fail
    refine HL.out.mono ?_
    rintro e w6 ⟨rfl, hb⟩
    have HA6 := keep (HA2.out.to hb)
    clear hb
    go_wp2_with fail
    refine (err_any _ _ 0 w6 HA6.out.rd).mono ?_
    rintro e w' ⟨rfl, rfl⟩
    go_wp2_with fail
    refine (live_any w6).mono ?_
    rintro e w7 ⟨rfl, hb3⟩
    have HB7 := keep (HA6.out.below.trans (hb3.mono HA6.out.below.size))
    clear hb3
    go_wp2_with fail
    go_ret
    exact ⟨rfl, HB7.out⟩
  · clear hx
    go_wp2_with fail
    refine (live_any w).mono ?_
    rintro e w1 ⟨rfl, hb⟩
    have HB := keep hb
    clear hb
    go_wp2_with fail
    go_ret
    exact ⟨rfl, HB.out⟩

set_option maxRecDepth 100000 in
set_option maxHeartbeats 8000000 in
theorem walk_more (v : Value) (n : Nat) (ps : Nat → Pt) (a1 : ByteArray) (w : World) (h : Parts w.heap.size w v n ps) (h0 : (200 : Int) < (a1.size : Int)) :
    Calls Try.prog 5 #[v, .string a1] w fun e w' => e = .returned (.bool true) ∧ Below w.heap.size w w' := by
  have HLONG := keep (long_any _ _ n ps w h)
  clear h
  go_enter Try.func5, Try.ntmps5
  go_wp2_with fail
  refine HLONG.out.mono ?_
  rintro e w' ⟨x, rfl, hx, rfl⟩
  cases x
  all_goals
    clear hx
    go_wp2_with fail
    refine (live_any w).mono ?_
    rintro e w1 ⟨rfl, hb⟩
    have HB := keep hb
    clear hb
    go_wp2_with fail
    go_ret
    exact ⟨rfl, HB.out⟩

set_option maxRecDepth 100000 in
set_option maxHeartbeats 8000000 in
theorem walk_some (b off n cap : Nat) (ps : Nat → Pt) (a1 : ByteArray) (w : World) (h : Parts w.heap.size w (.slice (some ⟨b, off, none⟩) n cap) n ps) (h0 : (a1.size : Int) ≤ 200) (hb : b < w.heap.size) (hc : ∀ i, i < n → PtCells w b off i (ps i) ∧ PtOk w.heap.size w (ps i)) :
    Calls Try.prog 5 #[.slice (some ⟨b, off, none⟩) n cap, .string a1] w fun e w' => e = .returned (.bool true) ∧ Below w.heap.size w w' := by
  have HLONG := keep (long_any _ _ n ps w h)
  have HC := keep hc
  have hmI : (n : Int) ≤ 9223372036854775807 := by have := h.room; omega
  clear h hc
  go_enter Try.func5, Try.ntmps5
  go_wp2_with fail
  refine HLONG.out.mono ?_
  rintro e w' ⟨x, rfl, hx, rfl⟩
  cases x
  · have HSH := keep (hx rfl)
    clear hx
    go_wp2_with fail
    have HAT0 : Keep (At (.pointer (some ⟨w.heap.size, 0, none⟩)) w.heap.size [] w (w.alloc (.cells #[.slice none 0 0] 28))) := ⟨⟨⟨.inr ⟨rfl, _, heap_alloc_new w _, World.ownsRow_nil _ _ _ _⟩⟩, below_alloc1 w _, by simp⟩⟩
    have HCL := keep (cat_len _ ps HSH.out)
    go_loopw [6] (fun i wr => ∃ k : Nat, i = .int .i64 k ∧ k ≤ n ∧ Keep (At (.pointer (some ⟨w.heap.size, 0, none⟩)) w.heap.size (cat ps k) w wr)) (fun i _ => n - (intOf i).toNat)
    case atStart => exact ⟨0, rfl, Nat.zero_le _, HAT0⟩
    case round =>
      obtain ⟨k, rfl, hk, HAT⟩ := hrel
      by_cases hlt : k < n
      · obtain ⟨hcs, hok⟩ := HC.out k hlt
        have hsh := HSH.out.2 k hlt
        have h40 := HSH.out.1
        have hcl := HCL.out k hk
        have HW := keep (write_any (.pointer (some ⟨w.heap.size, 0, none⟩)) w.heap.size w.heap.size (cat ps k) (ps k) wr HAT.out.pw (by have := HAT.out.lt; omega) (Nat.le_refl _) HAT.out.below.size (by omega) (hok.below HAT.out.below) hsh.1 hsh.2)
        obtain ⟨c0, c1, c2, c3, c4, c5⟩ := six_of (hcs.below HAT.out.below hb)
        obtain ⟨so, sc, hv⟩ := hok.l.form
        have HA : Keep (app (.pointer (some ⟨w.heap.size, 0, none⟩)) (cat ps k) (partB (ps k)) = cat ps (k + 1)) := ⟨rfl⟩
        unfold Pt.agg WriteTo at HW
        rw [hv] at c5 HW
        rw [HA.out] at HW
        clear hcs hok hv hsh hcl h40 HA
        generalize hcat : cat ps (k + 1) = l1 at *
        generalize str (partB (ps k)) = t0 at *
        generalize (ps k).L.length = sl at *
        generalize (ps k).K = K at *
        generalize (ps k).U = U at *
        generalize (ps k).N = N at *
        generalize (ps k).B = Bl at *
        generalize (ps k).S = S at *
        have HCAT := keep hcat
        clear hcat
        have hltI : (k : Int) < n := by omega
        go_wp2_with fail
        refine HW.out.mono ?_
        rintro e w2 ⟨rfl, hW⟩
        have HAT2 := keep (HAT.out.step hW (Nat.le_refl _))
        clear hW c0 c1 c2 c3 c4 c5
        go_wp2_with fail
        go_roundw
        case rel => exact ⟨k + 1, by go_num, by omega, by rw [HCAT.out]; exact HAT2⟩
        case measure => simp [intOf]; omega
      · obtain rfl : k = n := by omega
        have HBY := keep (bytes_w (.pointer (some ⟨w.heap.size, 0, none⟩)) w.heap.size (cat ps k) wr HAT.out.pw)
        have hz1 : (str (cat ps k)).size ≤ 100000 := by
          rw [str_size]
          have := HCL.out k (by omega)
          have := HSH.out.1
          omega
        have HDT : Keep ((str (cat ps k) ++ a1).data.toList = rest ps k a1.data.toList 0) := ⟨by rw [str_cat, str_data, rest_zero]⟩
        generalize str (cat ps k) = s0 at *
        obtain ⟨s1, hs1⟩ : ∃ s1, s1 = s0 ++ a1 := ⟨_, rfl⟩
        have hz2 : s1.size ≤ 1000000 := by
          have e : s1.size = s0.size + a1.size := by rw [hs1]; exact ByteArray.size_append
          omega
        rw [← hs1] at HDT
        have HS1 := keep hs1
        clear hs1
        go_wp2_with fail
        refine HBY.out.mono ?_
        rintro e w' ⟨rfl, rfl⟩
        go_wp2_with fail
        rw [← HS1.out]
        refine (open_any s1 wr hz2).mono ?_
        rintro e w4 ⟨rfl, hr, hb4⟩
        rw [HDT.out] at hr
        have HA2 : Keep (At2 (.pointer (some ⟨wr.heap.size, 0, none⟩)) (rest ps k a1.data.toList 0) w w4) := ⟨⟨hr, HAT.out.below.trans (hb4.mono HAT.out.below.size)⟩⟩
        have HBP : Keep (∀ k, blk (.pointer (some ⟨wr.heap.size, 0, none⟩)) = some k → w.heap.size ≤ k) := ⟨fun k e => by have := HAT.out.below.size; simp [blk] at e; omega⟩
        clear hr hb4
        generalize wr.heap.size = B1 at *
        go_wp2_with fail
        go_loopw [8] (fun i wr => ∃ j : Nat, i = .int .i64 j ∧ j ≤ k ∧ Keep (At2 (.pointer (some ⟨B1, 0, none⟩)) (rest ps k a1.data.toList j) w wr)) (fun i _ => k - (intOf i).toNat)
        case atStart => exact ⟨0, rfl, Nat.zero_le _, HA2⟩
        case round =>
          obtain ⟨j, rfl, hj, HA2⟩ := hrel
          by_cases hlt : j < k
          · obtain ⟨hcs, hok⟩ := HC.out j hlt
            have hsh := HSH.out.2 j hlt
            obtain ⟨c0, c1, c2, c3, c4, c5⟩ := six_of (hcs.below HA2.out.below hb)
            obtain ⟨so, sc, hv⟩ := hok.l.form
            have hrest := rest_step ps k a1.data.toList hlt
            have hokb := hok.below HA2.out.below
            generalize rest ps k a1.data.toList j = l0 at *
            generalize hl2 : rest ps k a1.data.toList (j + 1) = l2 at *
            have HL2 := keep hl2
            generalize ps j = pt at *
            obtain ⟨K, U, N, Bl, S, v, L⟩ := pt
            simp only at c0 c1 c2 c3 c4 c5 hv hsh
            subst hv
            have HREST := keep hrest
            have HOK := keep hokb
            have HSHJ := keep hsh
            have hltI : (j : Int) < k := by omega
            clear hcs hok hsh hrest hokb hl2
            obtain ⟨B2, hB2⟩ : ∃ B2, B2 = wr.heap.size := ⟨_, rfl⟩
            have HSX : Keep (∀ (p : Value) W, Kept p (wr.alloc (.cells #[.int .i64 K, .int .u64 U, .int .i64 N, .bool Bl, .string S, .slice so L.length sc] 33)).drew W → blk p ≠ some B2 → Six W B2 K U N Bl S (.slice so L.length sc)) := ⟨fun p W hW hn => Six.kept (w := (wr.alloc (.cells #[.int .i64 K, .int .u64 U, .int .i64 N, .bool Bl, .string S, .slice so L.length sc] 33)).drew) (by rw [hB2]; exact Six.new wr K U N Bl S _ _) hW hn⟩
            have HBW := keep (below_alloc1 wr (.cells #[.int .i64 K, .int .u64 U, .int .i64 N, .bool Bl, .string S, .slice so L.length sc] 33)).drew
            have HN2 : Keep (blk (.pointer (some ⟨B1, 0, none⟩)) ≠ some B2) := ⟨fun e => by have := HA2.out.rd.blk_lt _ e; omega⟩
            have HPR : Keep (PR (.pointer (some ⟨B1, 0, none⟩)) l0 0 (wr.alloc (.cells #[.int .i64 K, .int .u64 U, .int .i64 N, .bool Bl, .string S, .slice so L.length sc] 33)).drew) := ⟨(HA2.out.rd.alloc _).same rfl⟩
            by_cases k0 : K = 0
            · subst k0
              have HCT : Keep (∀ W, PR (.pointer (some ⟨B1, 0, none⟩)) l0 0 W → Calls Try.prog 17 #[(.pointer (some ⟨B1, 0, none⟩))] W fun e w' => e = .returned (.int .u64 U) ∧ RdTo (.pointer (some ⟨B1, 0, none⟩)) (l2, 0) W w') := ⟨fun W h => by
                have hu := HOK.out.u
                simp only at hu
                have := num_any _ l0 0 W h
                rw [HREST.out, show partB ⟨0, U, N, Bl, S, .slice so L.length sc, L⟩ = num U.toNat from rfl, (back_num (u := U.toNat) (by omega) l2).1, (back_num (u := U.toNat) (by omega) l2).2, Int.toNat_of_nonneg hu.1] at this
                exact this⟩
              go_wp2_with fail
              rw [← hB2]
              have HB2 := keep hB2
              clear hB2 c0 c1 c2 c3 c4 c5
              generalize hW1 : wr.alloc (.cells #[.int .i64 0, .int .u64 U, .int .i64 N, .bool Bl, .string S, .slice so L.length sc] 33) = W1 at *
              clear hW1
              refine PlanGo.regionQ (fun w' => w'.cell? ⟨B2, 0, none⟩ = some (.int .i64 0) ∧ w'.cell? ⟨B2, 1, none⟩ = some (.int .u64 U) ∧ w'.cell? ⟨B2, 2, none⟩ = some (.int .i64 N) ∧ w'.cell? ⟨B2, 3, none⟩ = some (.bool Bl) ∧ w'.cell? ⟨B2, 4, none⟩ = some (.string S) ∧ w'.cell? ⟨B2, 5, none⟩ = some (.slice so L.length sc)) [0, 1, 2, 3, 4, 6, 7, 5, 8, 9, 10, 11, 12, 13, 14, 15, 17, 18, 16, 19, 20, 21, 22, 23, 24, 25, 26, 27, 29, 30, 28, 31, 32, 33, 34, 35, 36, 37, 38, 39, 40, 41, 42, 44, 45, 43, 46, 47, 48, 49, 50, 51, 52, 53, 54, 55, 56, 57, 59, 60, 58, 61, 62, 63, 64, 65, 66, 67, 68, 69, 70, 71, 72, 74, 75, 73, 76, 77, 78, 79] (by kernel_rfl) (by kernel_rfl) (fun _ _ d _ _ h => by cases d <;> exact h) rfl (by kernel_rfl) (HSX.out (.pointer none) _ (Kept.refl _ _) (by simp [blk])) ?_
              intro Q0 hQ0 wd ewd
              subst ewd
              refine PlanGo.takeI (a' := ?_) (some 47) (.pointer (some ⟨B2, 0, none⟩)) (by kernel_rfl) (by kernel_rfl) (by kernel_rfl) (by kernel_rfl) (fun W hW => (by kernel_rfl)) ?_ ?_; rotate_left; focus (simp only [Act.put, List.setIfInBounds_toArray, List.set_cons_zero, List.set_cons_succ]; rfl)
              refine PlanGo.takeI (a' := ?_) (some 48) (.int .i64 0) (by kernel_rfl) (by kernel_rfl) (by kernel_rfl) (by kernel_rfl) (fun W hW => yl_int (x := .tmp 47) (by kernel_rfl) (by kernel_rfl) hW.1) ?_ ?_; rotate_left; focus (simp only [Act.put, List.setIfInBounds_toArray, List.set_cons_zero, List.set_cons_succ]; rfl)
              refine PlanGo.takeI (a' := ?_) (some 49) (.bool true) (by kernel_rfl) (by kernel_rfl) (by kernel_rfl) (by kernel_rfl) (fun W hW => (by kernel_rfl)) ?_ ?_; rotate_left; focus (simp only [Act.put, List.setIfInBounds_toArray, List.set_cons_zero, List.set_cons_succ]; rfl)
              refine PlanGo.takeI (a' := ?_) (some 50) (.bool true) (by kernel_rfl) (by kernel_rfl) (by kernel_rfl) (by kernel_rfl) (fun W hW => (by kernel_rfl)) ?_ ?_; rotate_left; focus (simp only [Act.put, List.setIfInBounds_toArray, List.set_cons_zero, List.set_cons_succ]; rfl)
              refine PlanGo.takeI (a' := ?_) (some 51) (.pointer (some ⟨B1, 0, none⟩)) (by kernel_rfl) (by kernel_rfl) (by kernel_rfl) (by kernel_rfl) (fun W hW => (by kernel_rfl)) ?_ ?_; rotate_left; focus (simp only [Act.put, List.setIfInBounds_toArray, List.set_cons_zero, List.set_cons_succ]; rfl)
              refine PlanGo.takeI (a' := ?_) (some 53) (.pointer (some ⟨B2, 1, none⟩)) (by kernel_rfl) (by kernel_rfl) (by kernel_rfl) (by kernel_rfl) (fun W hW => (by kernel_rfl)) ?_ ?_; rotate_left; focus (simp only [Act.put, List.setIfInBounds_toArray, List.set_cons_zero, List.set_cons_succ]; rfl)
              refine PlanGo.takeI (a' := ?_) (some 54) (.int .u64 U) (by kernel_rfl) (by kernel_rfl) (by kernel_rfl) (by kernel_rfl) (fun W hW => yl_u64 (x := .tmp 53) (by kernel_rfl) (by kernel_rfl) hW.2.1) ?_ ?_; rotate_left; focus (simp only [Act.put, List.setIfInBounds_toArray, List.set_cons_zero, List.set_cons_succ]; rfl)
              refine PlanGo.callI (some 52) 17 #[(.pointer (some ⟨B1, 0, none⟩))] (by kernel_rfl) (by kernel_rfl) (by kernel_rfl) (by kernel_rfl) (fun W => by kernel_rfl) (HCT.out _ HPR.out) ?_
              rintro e w2 ⟨rfl, hR⟩
              have HA3 := keep (HA2.out.step HBW.out hR HBP.out)
              refine ⟨_, rfl, HSX.out _ w2 hR.2 HN2.out, ?_⟩
              clear hR
              refine PlanGo.eq (a' := ?_) ?_ ?_; rotate_left; focus (simp only [Act.put, List.setIfInBounds_toArray, List.set_cons_zero, List.set_cons_succ]; rfl)
              refine PlanGo.takeI (a' := ?_) (some 55) (.bool false) (by kernel_rfl) (by kernel_rfl) (by kernel_rfl) (by kernel_rfl) (fun W hW => yn_u64 (x := .tmp 52) (y := .tmp 54) (m := U) (by kernel_rfl) (by kernel_rfl) (by kernel_rfl)) ?_ ?_; rotate_left; focus (simp only [Act.put, List.setIfInBounds_toArray, List.set_cons_zero, List.set_cons_succ]; rfl)
              refine PlanGo.takeI (a' := ?_) (some 56) (.bool false) (by kernel_rfl) (by kernel_rfl) (by kernel_rfl) (by kernel_rfl) (fun W hW => (by kernel_rfl)) ?_ ?_; rotate_left; focus (simp only [Act.put, List.setIfInBounds_toArray, List.set_cons_zero, List.set_cons_succ]; rfl)
              refine PlanGo.takeI (a' := ?_) (some 57) (.bool false) (by kernel_rfl) (by kernel_rfl) (by kernel_rfl) (by kernel_rfl) (fun W hW => (by kernel_rfl)) ?_ ?_; rotate_left; focus (simp only [Act.put, List.setIfInBounds_toArray, List.set_cons_zero, List.set_cons_succ]; rfl)
              refine PlanGo.takeI (a' := ?_) (some 58) (.pointer (some ⟨B2, 0, none⟩)) (by kernel_rfl) (by kernel_rfl) (by kernel_rfl) (by kernel_rfl) (fun W hW => (by kernel_rfl)) ?_ ?_; rotate_left; focus (simp only [Act.put, List.setIfInBounds_toArray, List.set_cons_zero, List.set_cons_succ]; rfl)
              refine PlanGo.takeI (a' := ?_) (some 59) (.int .i64 0) (by kernel_rfl) (by kernel_rfl) (by kernel_rfl) (by kernel_rfl) (fun W hW => yl_int (x := .tmp 58) (by kernel_rfl) (by kernel_rfl) hW.1) ?_ ?_; rotate_left; focus (simp only [Act.put, List.setIfInBounds_toArray, List.set_cons_zero, List.set_cons_succ]; rfl)
              refine PlanGo.takeI (a' := ?_) (some 60) (.bool false) (by kernel_rfl) (by kernel_rfl) (by kernel_rfl) (by kernel_rfl) (fun W hW => (by kernel_rfl)) ?_ ?_; rotate_left; focus (simp only [Act.put, List.setIfInBounds_toArray, List.set_cons_zero, List.set_cons_succ]; rfl)
              refine PlanGo.takeI (a' := ?_) (some 61) (.bool false) (by kernel_rfl) (by kernel_rfl) (by kernel_rfl) (by kernel_rfl) (fun W hW => (by kernel_rfl)) ?_ ?_; rotate_left; focus (simp only [Act.put, List.setIfInBounds_toArray, List.set_cons_zero, List.set_cons_succ]; rfl)
              refine PlanGo.skipI (a' := ?_) (some 62) (by kernel_rfl) (by kernel_rfl) (by kernel_rfl) ?_ ?_; rotate_left; focus (simp only [Act.put, List.setIfInBounds_toArray, List.set_cons_zero, List.set_cons_succ]; rfl)
              refine PlanGo.skipI (a' := ?_) (some 64) (by kernel_rfl) (by kernel_rfl) (by kernel_rfl) ?_ ?_; rotate_left; focus (simp only [Act.put, List.setIfInBounds_toArray, List.set_cons_zero, List.set_cons_succ]; rfl)
              refine PlanGo.skipI (a' := ?_) (some 65) (by kernel_rfl) (by kernel_rfl) (by kernel_rfl) ?_ ?_; rotate_left; focus (simp only [Act.put, List.setIfInBounds_toArray, List.set_cons_zero, List.set_cons_succ]; rfl)
              refine PlanGo.skipI (a' := ?_) (some 63) (by kernel_rfl) (by kernel_rfl) (by kernel_rfl) ?_ ?_; rotate_left; focus (simp only [Act.put, List.setIfInBounds_toArray, List.set_cons_zero, List.set_cons_succ]; rfl)
              refine PlanGo.skipI (a' := ?_) (some 66) (by kernel_rfl) (by kernel_rfl) (by kernel_rfl) ?_ ?_; rotate_left; focus (simp only [Act.put, List.setIfInBounds_toArray, List.set_cons_zero, List.set_cons_succ]; rfl)
              refine PlanGo.takeI (a' := ?_) (some 67) (.bool false) (by kernel_rfl) (by kernel_rfl) (by kernel_rfl) (by kernel_rfl) (fun W hW => (by kernel_rfl)) ?_ ?_; rotate_left; focus (simp only [Act.put, List.setIfInBounds_toArray, List.set_cons_zero, List.set_cons_succ]; rfl)
              refine PlanGo.takeI (a' := ?_) (some 68) (.bool false) (by kernel_rfl) (by kernel_rfl) (by kernel_rfl) (by kernel_rfl) (fun W hW => (by kernel_rfl)) ?_ ?_; rotate_left; focus (simp only [Act.put, List.setIfInBounds_toArray, List.set_cons_zero, List.set_cons_succ]; rfl)
              refine PlanGo.takeI (a' := ?_) (some 69) (.bool false) (by kernel_rfl) (by kernel_rfl) (by kernel_rfl) (by kernel_rfl) (fun W hW => (by kernel_rfl)) ?_ ?_; rotate_left; focus (simp only [Act.put, List.setIfInBounds_toArray, List.set_cons_zero, List.set_cons_succ]; rfl)
              refine PlanGo.takeI (a' := ?_) (some 70) (.pointer (some ⟨B2, 0, none⟩)) (by kernel_rfl) (by kernel_rfl) (by kernel_rfl) (by kernel_rfl) (fun W hW => (by kernel_rfl)) ?_ ?_; rotate_left; focus (simp only [Act.put, List.setIfInBounds_toArray, List.set_cons_zero, List.set_cons_succ]; rfl)
              refine PlanGo.takeI (a' := ?_) (some 71) (.int .i64 0) (by kernel_rfl) (by kernel_rfl) (by kernel_rfl) (by kernel_rfl) (fun W hW => yl_int (x := .tmp 70) (by kernel_rfl) (by kernel_rfl) hW.1) ?_ ?_; rotate_left; focus (simp only [Act.put, List.setIfInBounds_toArray, List.set_cons_zero, List.set_cons_succ]; rfl)
              refine PlanGo.takeI (a' := ?_) (some 72) (.bool false) (by kernel_rfl) (by kernel_rfl) (by kernel_rfl) (by kernel_rfl) (fun W hW => (by kernel_rfl)) ?_ ?_; rotate_left; focus (simp only [Act.put, List.setIfInBounds_toArray, List.set_cons_zero, List.set_cons_succ]; rfl)
              refine PlanGo.takeI (a' := ?_) (some 73) (.bool false) (by kernel_rfl) (by kernel_rfl) (by kernel_rfl) (by kernel_rfl) (fun W hW => (by kernel_rfl)) ?_ ?_; rotate_left; focus (simp only [Act.put, List.setIfInBounds_toArray, List.set_cons_zero, List.set_cons_succ]; rfl)
              refine PlanGo.skipI (a' := ?_) (some 74) (by kernel_rfl) (by kernel_rfl) (by kernel_rfl) ?_ ?_; rotate_left; focus (simp only [Act.put, List.setIfInBounds_toArray, List.set_cons_zero, List.set_cons_succ]; rfl)
              refine PlanGo.skipI (a' := ?_) (some 76) (by kernel_rfl) (by kernel_rfl) (by kernel_rfl) ?_ ?_; rotate_left; focus (simp only [Act.put, List.setIfInBounds_toArray, List.set_cons_zero, List.set_cons_succ]; rfl)
              refine PlanGo.skipI (a' := ?_) (some 77) (by kernel_rfl) (by kernel_rfl) (by kernel_rfl) ?_ ?_; rotate_left; focus (simp only [Act.put, List.setIfInBounds_toArray, List.set_cons_zero, List.set_cons_succ]; rfl)
              refine PlanGo.skipI (a' := ?_) (some 75) (by kernel_rfl) (by kernel_rfl) (by kernel_rfl) ?_ ?_; rotate_left; focus (simp only [Act.put, List.setIfInBounds_toArray, List.set_cons_zero, List.set_cons_succ]; rfl)
              refine PlanGo.skipI (a' := ?_) (some 78) (by kernel_rfl) (by kernel_rfl) (by kernel_rfl) ?_ ?_; rotate_left; focus (simp only [Act.put, List.setIfInBounds_toArray, List.set_cons_zero, List.set_cons_succ]; rfl)
              refine PlanGo.takeI (a' := ?_) (some 79) (.bool false) (by kernel_rfl) (by kernel_rfl) (by kernel_rfl) (by kernel_rfl) (fun W hW => (by kernel_rfl)) ?_ ?_; rotate_left; focus (simp only [Act.put, List.setIfInBounds_toArray, List.set_cons_zero, List.set_cons_succ]; rfl)
              refine PlanGo.takeI (a' := ?_) (some 80) (.bool false) (by kernel_rfl) (by kernel_rfl) (by kernel_rfl) (by kernel_rfl) (fun W hW => (by kernel_rfl)) ?_ ?_; rotate_left; focus (simp only [Act.put, List.setIfInBounds_toArray, List.set_cons_zero, List.set_cons_succ]; rfl)
              refine PlanGo.takeI (a' := ?_) (some 81) (.bool false) (by kernel_rfl) (by kernel_rfl) (by kernel_rfl) (by kernel_rfl) (fun W hW => (by kernel_rfl)) ?_ ?_; rotate_left; focus (simp only [Act.put, List.setIfInBounds_toArray, List.set_cons_zero, List.set_cons_succ]; rfl)
              refine PlanGo.takeI (a' := ?_) (some 82) (.pointer (some ⟨B2, 0, none⟩)) (by kernel_rfl) (by kernel_rfl) (by kernel_rfl) (by kernel_rfl) (fun W hW => (by kernel_rfl)) ?_ ?_; rotate_left; focus (simp only [Act.put, List.setIfInBounds_toArray, List.set_cons_zero, List.set_cons_succ]; rfl)
              refine PlanGo.takeI (a' := ?_) (some 83) (.int .i64 0) (by kernel_rfl) (by kernel_rfl) (by kernel_rfl) (by kernel_rfl) (fun W hW => yl_int (x := .tmp 82) (by kernel_rfl) (by kernel_rfl) hW.1) ?_ ?_; rotate_left; focus (simp only [Act.put, List.setIfInBounds_toArray, List.set_cons_zero, List.set_cons_succ]; rfl)
              refine PlanGo.takeI (a' := ?_) (some 84) (.bool false) (by kernel_rfl) (by kernel_rfl) (by kernel_rfl) (by kernel_rfl) (fun W hW => (by kernel_rfl)) ?_ ?_; rotate_left; focus (simp only [Act.put, List.setIfInBounds_toArray, List.set_cons_zero, List.set_cons_succ]; rfl)
              refine PlanGo.takeI (a' := ?_) (some 85) (.bool false) (by kernel_rfl) (by kernel_rfl) (by kernel_rfl) (by kernel_rfl) (fun W hW => (by kernel_rfl)) ?_ ?_; rotate_left; focus (simp only [Act.put, List.setIfInBounds_toArray, List.set_cons_zero, List.set_cons_succ]; rfl)
              refine PlanGo.skipI (a' := ?_) (some 86) (by kernel_rfl) (by kernel_rfl) (by kernel_rfl) ?_ ?_; rotate_left; focus (simp only [Act.put, List.setIfInBounds_toArray, List.set_cons_zero, List.set_cons_succ]; rfl)
              refine PlanGo.skipI (a' := ?_) (some 87) (by kernel_rfl) (by kernel_rfl) (by kernel_rfl) ?_ ?_; rotate_left; focus (simp only [Act.put, List.setIfInBounds_toArray, List.set_cons_zero, List.set_cons_succ]; rfl)
              refine PlanGo.skipI (a' := ?_) (some 88) (by kernel_rfl) (by kernel_rfl) (by kernel_rfl) ?_ ?_; rotate_left; focus (simp only [Act.put, List.setIfInBounds_toArray, List.set_cons_zero, List.set_cons_succ]; rfl)
              refine PlanGo.skipI (a' := ?_) (some 89) (by kernel_rfl) (by kernel_rfl) (by kernel_rfl) ?_ ?_; rotate_left; focus (simp only [Act.put, List.setIfInBounds_toArray, List.set_cons_zero, List.set_cons_succ]; rfl)
              refine PlanGo.skipI (a' := ?_) (some 91) (by kernel_rfl) (by kernel_rfl) (by kernel_rfl) ?_ ?_; rotate_left; focus (simp only [Act.put, List.setIfInBounds_toArray, List.set_cons_zero, List.set_cons_succ]; rfl)
              refine PlanGo.skipI (a' := ?_) (some 92) (by kernel_rfl) (by kernel_rfl) (by kernel_rfl) ?_ ?_; rotate_left; focus (simp only [Act.put, List.setIfInBounds_toArray, List.set_cons_zero, List.set_cons_succ]; rfl)
              refine PlanGo.skipI (a' := ?_) (some 90) (by kernel_rfl) (by kernel_rfl) (by kernel_rfl) ?_ ?_; rotate_left; focus (simp only [Act.put, List.setIfInBounds_toArray, List.set_cons_zero, List.set_cons_succ]; rfl)
              refine PlanGo.skipI (a' := ?_) (some 93) (by kernel_rfl) (by kernel_rfl) (by kernel_rfl) ?_ ?_; rotate_left; focus (simp only [Act.put, List.setIfInBounds_toArray, List.set_cons_zero, List.set_cons_succ]; rfl)
              refine PlanGo.takeI (a' := ?_) (some 94) (.bool false) (by kernel_rfl) (by kernel_rfl) (by kernel_rfl) (by kernel_rfl) (fun W hW => (by kernel_rfl)) ?_ ?_; rotate_left; focus (simp only [Act.put, List.setIfInBounds_toArray, List.set_cons_zero, List.set_cons_succ]; rfl)
              refine PlanGo.takeI (a' := ?_) (some 95) (.bool false) (by kernel_rfl) (by kernel_rfl) (by kernel_rfl) (by kernel_rfl) (fun W hW => (by kernel_rfl)) ?_ ?_; rotate_left; focus (simp only [Act.put, List.setIfInBounds_toArray, List.set_cons_zero, List.set_cons_succ]; rfl)
              refine PlanGo.takeI (a' := ?_) (some 96) (.bool false) (by kernel_rfl) (by kernel_rfl) (by kernel_rfl) (by kernel_rfl) (fun W hW => (by kernel_rfl)) ?_ ?_; rotate_left; focus (simp only [Act.put, List.setIfInBounds_toArray, List.set_cons_zero, List.set_cons_succ]; rfl)
              refine PlanGo.takeI (a' := ?_) (some 97) (.pointer (some ⟨B2, 0, none⟩)) (by kernel_rfl) (by kernel_rfl) (by kernel_rfl) (by kernel_rfl) (fun W hW => (by kernel_rfl)) ?_ ?_; rotate_left; focus (simp only [Act.put, List.setIfInBounds_toArray, List.set_cons_zero, List.set_cons_succ]; rfl)
              refine PlanGo.takeI (a' := ?_) (some 98) (.int .i64 0) (by kernel_rfl) (by kernel_rfl) (by kernel_rfl) (by kernel_rfl) (fun W hW => yl_int (x := .tmp 97) (by kernel_rfl) (by kernel_rfl) hW.1) ?_ ?_; rotate_left; focus (simp only [Act.put, List.setIfInBounds_toArray, List.set_cons_zero, List.set_cons_succ]; rfl)
              refine PlanGo.takeI (a' := ?_) (some 99) (.bool false) (by kernel_rfl) (by kernel_rfl) (by kernel_rfl) (by kernel_rfl) (fun W hW => (by kernel_rfl)) ?_ ?_; rotate_left; focus (simp only [Act.put, List.setIfInBounds_toArray, List.set_cons_zero, List.set_cons_succ]; rfl)
              refine PlanGo.takeI (a' := ?_) (some 100) (.bool false) (by kernel_rfl) (by kernel_rfl) (by kernel_rfl) (by kernel_rfl) (fun W hW => (by kernel_rfl)) ?_ ?_; rotate_left; focus (simp only [Act.put, List.setIfInBounds_toArray, List.set_cons_zero, List.set_cons_succ]; rfl)
              refine PlanGo.skipI (a' := ?_) (some 101) (by kernel_rfl) (by kernel_rfl) (by kernel_rfl) ?_ ?_; rotate_left; focus (simp only [Act.put, List.setIfInBounds_toArray, List.set_cons_zero, List.set_cons_succ]; rfl)
              refine PlanGo.skipI (a' := ?_) (some 102) (by kernel_rfl) (by kernel_rfl) (by kernel_rfl) ?_ ?_; rotate_left; focus (simp only [Act.put, List.setIfInBounds_toArray, List.set_cons_zero, List.set_cons_succ]; rfl)
              refine PlanGo.skipI (a' := ?_) (some 103) (by kernel_rfl) (by kernel_rfl) (by kernel_rfl) ?_ ?_; rotate_left; focus (simp only [Act.put, List.setIfInBounds_toArray, List.set_cons_zero, List.set_cons_succ]; rfl)
              refine PlanGo.skipI (a' := ?_) (some 104) (by kernel_rfl) (by kernel_rfl) (by kernel_rfl) ?_ ?_; rotate_left; focus (simp only [Act.put, List.setIfInBounds_toArray, List.set_cons_zero, List.set_cons_succ]; rfl)
              refine PlanGo.skipI (a' := ?_) (some 106) (by kernel_rfl) (by kernel_rfl) (by kernel_rfl) ?_ ?_; rotate_left; focus (simp only [Act.put, List.setIfInBounds_toArray, List.set_cons_zero, List.set_cons_succ]; rfl)
              refine PlanGo.skipI (a' := ?_) (some 107) (by kernel_rfl) (by kernel_rfl) (by kernel_rfl) ?_ ?_; rotate_left; focus (simp only [Act.put, List.setIfInBounds_toArray, List.set_cons_zero, List.set_cons_succ]; rfl)
              refine PlanGo.skipI (a' := ?_) (some 105) (by kernel_rfl) (by kernel_rfl) (by kernel_rfl) ?_ ?_; rotate_left; focus (simp only [Act.put, List.setIfInBounds_toArray, List.set_cons_zero, List.set_cons_succ]; rfl)
              refine PlanGo.skipI (a' := ?_) (some 108) (by kernel_rfl) (by kernel_rfl) (by kernel_rfl) ?_ ?_; rotate_left; focus (simp only [Act.put, List.setIfInBounds_toArray, List.set_cons_zero, List.set_cons_succ]; rfl)
              refine PlanGo.takeI (a' := ?_) (some 109) (.bool false) (by kernel_rfl) (by kernel_rfl) (by kernel_rfl) (by kernel_rfl) (fun W hW => (by kernel_rfl)) ?_ ?_; rotate_left; focus (simp only [Act.put, List.setIfInBounds_toArray, List.set_cons_zero, List.set_cons_succ]; rfl)
              refine PlanGo.takeI (a' := ?_) (some 110) (.bool false) (by kernel_rfl) (by kernel_rfl) (by kernel_rfl) (by kernel_rfl) (fun W hW => (by kernel_rfl)) ?_ ?_; rotate_left; focus (simp only [Act.put, List.setIfInBounds_toArray, List.set_cons_zero, List.set_cons_succ]; rfl)
              refine PlanGo.takeI (a' := ?_) (some 111) (.bool false) (by kernel_rfl) (by kernel_rfl) (by kernel_rfl) (by kernel_rfl) (fun W hW => (by kernel_rfl)) ?_ ?_; rotate_left; focus (simp only [Act.put, List.setIfInBounds_toArray, List.set_cons_zero, List.set_cons_succ]; rfl)
              refine PlanGo.takeI (a' := ?_) (some 112) (.pointer (some ⟨B2, 0, none⟩)) (by kernel_rfl) (by kernel_rfl) (by kernel_rfl) (by kernel_rfl) (fun W hW => (by kernel_rfl)) ?_ ?_; rotate_left; focus (simp only [Act.put, List.setIfInBounds_toArray, List.set_cons_zero, List.set_cons_succ]; rfl)
              refine PlanGo.takeI (a' := ?_) (some 113) (.int .i64 0) (by kernel_rfl) (by kernel_rfl) (by kernel_rfl) (by kernel_rfl) (fun W hW => yl_int (x := .tmp 112) (by kernel_rfl) (by kernel_rfl) hW.1) ?_ ?_; rotate_left; focus (simp only [Act.put, List.setIfInBounds_toArray, List.set_cons_zero, List.set_cons_succ]; rfl)
              refine PlanGo.takeI (a' := ?_) (some 114) (.bool false) (by kernel_rfl) (by kernel_rfl) (by kernel_rfl) (by kernel_rfl) (fun W hW => (by kernel_rfl)) ?_ ?_; rotate_left; focus (simp only [Act.put, List.setIfInBounds_toArray, List.set_cons_zero, List.set_cons_succ]; rfl)
              refine PlanGo.takeI (a' := ?_) (some 115) (.bool false) (by kernel_rfl) (by kernel_rfl) (by kernel_rfl) (by kernel_rfl) (fun W hW => (by kernel_rfl)) ?_ ?_; rotate_left; focus (simp only [Act.put, List.setIfInBounds_toArray, List.set_cons_zero, List.set_cons_succ]; rfl)
              refine PlanGo.skipI (a' := ?_) (some 116) (by kernel_rfl) (by kernel_rfl) (by kernel_rfl) ?_ ?_; rotate_left; focus (simp only [Act.put, List.setIfInBounds_toArray, List.set_cons_zero, List.set_cons_succ]; rfl)
              refine PlanGo.skipI (a' := ?_) (some 117) (by kernel_rfl) (by kernel_rfl) (by kernel_rfl) ?_ ?_; rotate_left; focus (simp only [Act.put, List.setIfInBounds_toArray, List.set_cons_zero, List.set_cons_succ]; rfl)
              refine PlanGo.skipI (a' := ?_) (some 118) (by kernel_rfl) (by kernel_rfl) (by kernel_rfl) ?_ ?_; rotate_left; focus (simp only [Act.put, List.setIfInBounds_toArray, List.set_cons_zero, List.set_cons_succ]; rfl)
              refine PlanGo.skipI (a' := ?_) (some 119) (by kernel_rfl) (by kernel_rfl) (by kernel_rfl) ?_ ?_; rotate_left; focus (simp only [Act.put, List.setIfInBounds_toArray, List.set_cons_zero, List.set_cons_succ]; rfl)
              refine PlanGo.skipI (a' := ?_) (some 121) (by kernel_rfl) (by kernel_rfl) (by kernel_rfl) ?_ ?_; rotate_left; focus (simp only [Act.put, List.setIfInBounds_toArray, List.set_cons_zero, List.set_cons_succ]; rfl)
              refine PlanGo.skipI (a' := ?_) (some 122) (by kernel_rfl) (by kernel_rfl) (by kernel_rfl) ?_ ?_; rotate_left; focus (simp only [Act.put, List.setIfInBounds_toArray, List.set_cons_zero, List.set_cons_succ]; rfl)
              refine PlanGo.skipI (a' := ?_) (some 120) (by kernel_rfl) (by kernel_rfl) (by kernel_rfl) ?_ ?_; rotate_left; focus (simp only [Act.put, List.setIfInBounds_toArray, List.set_cons_zero, List.set_cons_succ]; rfl)
              refine PlanGo.skipI (a' := ?_) (some 123) (by kernel_rfl) (by kernel_rfl) (by kernel_rfl) ?_ ?_; rotate_left; focus (simp only [Act.put, List.setIfInBounds_toArray, List.set_cons_zero, List.set_cons_succ]; rfl)
              refine PlanGo.skipI (a' := ?_) (some 124) (by kernel_rfl) (by kernel_rfl) (by kernel_rfl) ?_ ?_; rotate_left; focus (simp only [Act.put, List.setIfInBounds_toArray, List.set_cons_zero, List.set_cons_succ]; rfl)
              refine PlanGo.takeI (a' := ?_) (some 125) (.bool false) (by kernel_rfl) (by kernel_rfl) (by kernel_rfl) (by kernel_rfl) (fun W hW => (by kernel_rfl)) ?_ ?_; rotate_left; focus (simp only [Act.put, List.setIfInBounds_toArray, List.set_cons_zero, List.set_cons_succ]; rfl)
              refine PlanGo.takeI (a' := ?_) (some 126) (.bool false) (by kernel_rfl) (by kernel_rfl) (by kernel_rfl) (by kernel_rfl) (fun W hW => (by kernel_rfl)) ?_ ?_; rotate_left; focus (simp only [Act.put, List.setIfInBounds_toArray, List.set_cons_zero, List.set_cons_succ]; rfl)
              refine PlanGo.done (hQ0.out _ _ ?_)
              clear hQ0 Q0
              go_wp2_with fail
              go_roundw
              case rel => exact ⟨j + 1, by go_num, by omega, by rw [HL2.out]; exact HA3⟩
              case measure => simp [intOf]; omega
            by_cases k1 : K = 1
            · subst k1
              have HCT : Keep (∀ W, PR (.pointer (some ⟨B1, 0, none⟩)) l0 0 W → Calls Try.prog 18 #[(.pointer (some ⟨B1, 0, none⟩))] W fun e w' => e = .returned (.int .i64 N) ∧ RdTo (.pointer (some ⟨B1, 0, none⟩)) (l2, 0) W w') := ⟨fun W h => by
                have hu := HOK.out.n
                simp only at hu
                have := int_any _ l0 0 W h
                rw [HREST.out, show partB ⟨1, U, N, Bl, S, .slice so L.length sc, L⟩ = intB N from rfl, (back_int hu.1 hu.2 l2).1, (back_int hu.1 hu.2 l2).2] at this
                exact this⟩
              go_wp2_with fail
              rw [← hB2]
              have HB2 := keep hB2
              clear hB2 c0 c1 c2 c3 c4 c5
              generalize hW1 : wr.alloc (.cells #[.int .i64 1, .int .u64 U, .int .i64 N, .bool Bl, .string S, .slice so L.length sc] 33) = W1 at *
              clear hW1
              refine PlanGo.regionQ (fun w' => w'.cell? ⟨B2, 0, none⟩ = some (.int .i64 1) ∧ w'.cell? ⟨B2, 1, none⟩ = some (.int .u64 U) ∧ w'.cell? ⟨B2, 2, none⟩ = some (.int .i64 N) ∧ w'.cell? ⟨B2, 3, none⟩ = some (.bool Bl) ∧ w'.cell? ⟨B2, 4, none⟩ = some (.string S) ∧ w'.cell? ⟨B2, 5, none⟩ = some (.slice so L.length sc)) [0, 1, 2, 3, 4, 6, 7, 5, 8, 9, 10, 11, 12, 13, 14, 15, 17, 18, 16, 19, 20, 21, 22, 23, 24, 25, 26, 27, 29, 30, 28, 31, 32, 33, 34, 35, 36, 37, 38, 39, 40, 41, 42, 44, 45, 43, 46, 47, 48, 49, 50, 51, 52, 53, 54, 55, 56, 57, 59, 60, 58, 61, 62, 63, 64, 65, 66, 67, 68, 69, 70, 71, 72, 74, 75, 73, 76, 77, 78, 79] (by kernel_rfl) (by kernel_rfl) (fun _ _ d _ _ h => by cases d <;> exact h) rfl (by kernel_rfl) (HSX.out (.pointer none) _ (Kept.refl _ _) (by simp [blk])) ?_
              intro Q0 hQ0 wd ewd
              subst ewd
              refine PlanGo.takeI (a' := ?_) (some 47) (.pointer (some ⟨B2, 0, none⟩)) (by kernel_rfl) (by kernel_rfl) (by kernel_rfl) (by kernel_rfl) (fun W hW => (by kernel_rfl)) ?_ ?_; rotate_left; focus (simp only [Act.put, List.setIfInBounds_toArray, List.set_cons_zero, List.set_cons_succ]; rfl)
              refine PlanGo.takeI (a' := ?_) (some 48) (.int .i64 1) (by kernel_rfl) (by kernel_rfl) (by kernel_rfl) (by kernel_rfl) (fun W hW => yl_int (x := .tmp 47) (by kernel_rfl) (by kernel_rfl) hW.1) ?_ ?_; rotate_left; focus (simp only [Act.put, List.setIfInBounds_toArray, List.set_cons_zero, List.set_cons_succ]; rfl)
              refine PlanGo.takeI (a' := ?_) (some 49) (.bool false) (by kernel_rfl) (by kernel_rfl) (by kernel_rfl) (by kernel_rfl) (fun W hW => (by kernel_rfl)) ?_ ?_; rotate_left; focus (simp only [Act.put, List.setIfInBounds_toArray, List.set_cons_zero, List.set_cons_succ]; rfl)
              refine PlanGo.takeI (a' := ?_) (some 50) (.bool false) (by kernel_rfl) (by kernel_rfl) (by kernel_rfl) (by kernel_rfl) (fun W hW => (by kernel_rfl)) ?_ ?_; rotate_left; focus (simp only [Act.put, List.setIfInBounds_toArray, List.set_cons_zero, List.set_cons_succ]; rfl)
              refine PlanGo.skipI (a' := ?_) (some 51) (by kernel_rfl) (by kernel_rfl) (by kernel_rfl) ?_ ?_; rotate_left; focus (simp only [Act.put, List.setIfInBounds_toArray, List.set_cons_zero, List.set_cons_succ]; rfl)
              refine PlanGo.skipI (a' := ?_) (some 53) (by kernel_rfl) (by kernel_rfl) (by kernel_rfl) ?_ ?_; rotate_left; focus (simp only [Act.put, List.setIfInBounds_toArray, List.set_cons_zero, List.set_cons_succ]; rfl)
              refine PlanGo.skipI (a' := ?_) (some 54) (by kernel_rfl) (by kernel_rfl) (by kernel_rfl) ?_ ?_; rotate_left; focus (simp only [Act.put, List.setIfInBounds_toArray, List.set_cons_zero, List.set_cons_succ]; rfl)
              refine PlanGo.skipI (a' := ?_) (some 52) (by kernel_rfl) (by kernel_rfl) (by kernel_rfl) ?_ ?_; rotate_left; focus (simp only [Act.put, List.setIfInBounds_toArray, List.set_cons_zero, List.set_cons_succ]; rfl)
              refine PlanGo.skipI (a' := ?_) (some 55) (by kernel_rfl) (by kernel_rfl) (by kernel_rfl) ?_ ?_; rotate_left; focus (simp only [Act.put, List.setIfInBounds_toArray, List.set_cons_zero, List.set_cons_succ]; rfl)
              refine PlanGo.takeI (a' := ?_) (some 56) (.bool false) (by kernel_rfl) (by kernel_rfl) (by kernel_rfl) (by kernel_rfl) (fun W hW => (by kernel_rfl)) ?_ ?_; rotate_left; focus (simp only [Act.put, List.setIfInBounds_toArray, List.set_cons_zero, List.set_cons_succ]; rfl)
              refine PlanGo.takeI (a' := ?_) (some 57) (.bool false) (by kernel_rfl) (by kernel_rfl) (by kernel_rfl) (by kernel_rfl) (fun W hW => (by kernel_rfl)) ?_ ?_; rotate_left; focus (simp only [Act.put, List.setIfInBounds_toArray, List.set_cons_zero, List.set_cons_succ]; rfl)
              refine PlanGo.takeI (a' := ?_) (some 58) (.pointer (some ⟨B2, 0, none⟩)) (by kernel_rfl) (by kernel_rfl) (by kernel_rfl) (by kernel_rfl) (fun W hW => (by kernel_rfl)) ?_ ?_; rotate_left; focus (simp only [Act.put, List.setIfInBounds_toArray, List.set_cons_zero, List.set_cons_succ]; rfl)
              refine PlanGo.takeI (a' := ?_) (some 59) (.int .i64 1) (by kernel_rfl) (by kernel_rfl) (by kernel_rfl) (by kernel_rfl) (fun W hW => yl_int (x := .tmp 58) (by kernel_rfl) (by kernel_rfl) hW.1) ?_ ?_; rotate_left; focus (simp only [Act.put, List.setIfInBounds_toArray, List.set_cons_zero, List.set_cons_succ]; rfl)
              refine PlanGo.takeI (a' := ?_) (some 60) (.bool true) (by kernel_rfl) (by kernel_rfl) (by kernel_rfl) (by kernel_rfl) (fun W hW => (by kernel_rfl)) ?_ ?_; rotate_left; focus (simp only [Act.put, List.setIfInBounds_toArray, List.set_cons_zero, List.set_cons_succ]; rfl)
              refine PlanGo.takeI (a' := ?_) (some 61) (.bool true) (by kernel_rfl) (by kernel_rfl) (by kernel_rfl) (by kernel_rfl) (fun W hW => (by kernel_rfl)) ?_ ?_; rotate_left; focus (simp only [Act.put, List.setIfInBounds_toArray, List.set_cons_zero, List.set_cons_succ]; rfl)
              refine PlanGo.takeI (a' := ?_) (some 62) (.pointer (some ⟨B1, 0, none⟩)) (by kernel_rfl) (by kernel_rfl) (by kernel_rfl) (by kernel_rfl) (fun W hW => (by kernel_rfl)) ?_ ?_; rotate_left; focus (simp only [Act.put, List.setIfInBounds_toArray, List.set_cons_zero, List.set_cons_succ]; rfl)
              refine PlanGo.takeI (a' := ?_) (some 64) (.pointer (some ⟨B2, 2, none⟩)) (by kernel_rfl) (by kernel_rfl) (by kernel_rfl) (by kernel_rfl) (fun W hW => (by kernel_rfl)) ?_ ?_; rotate_left; focus (simp only [Act.put, List.setIfInBounds_toArray, List.set_cons_zero, List.set_cons_succ]; rfl)
              refine PlanGo.takeI (a' := ?_) (some 65) (.int .i64 N) (by kernel_rfl) (by kernel_rfl) (by kernel_rfl) (by kernel_rfl) (fun W hW => yl_int (x := .tmp 64) (by kernel_rfl) (by kernel_rfl) hW.2.2.1) ?_ ?_; rotate_left; focus (simp only [Act.put, List.setIfInBounds_toArray, List.set_cons_zero, List.set_cons_succ]; rfl)
              refine PlanGo.callI (some 63) 18 #[(.pointer (some ⟨B1, 0, none⟩))] (by kernel_rfl) (by kernel_rfl) (by kernel_rfl) (by kernel_rfl) (fun W => by kernel_rfl) (HCT.out _ HPR.out) ?_
              rintro e w2 ⟨rfl, hR⟩
              have HA3 := keep (HA2.out.step HBW.out hR HBP.out)
              refine ⟨_, rfl, HSX.out _ w2 hR.2 HN2.out, ?_⟩
              clear hR
              refine PlanGo.eq (a' := ?_) ?_ ?_; rotate_left; focus (simp only [Act.put, List.setIfInBounds_toArray, List.set_cons_zero, List.set_cons_succ]; rfl)
              refine PlanGo.takeI (a' := ?_) (some 66) (.bool false) (by kernel_rfl) (by kernel_rfl) (by kernel_rfl) (by kernel_rfl) (fun W hW => yn_int (x := .tmp 63) (y := .tmp 65) (m := N) (by kernel_rfl) (by kernel_rfl) (by kernel_rfl)) ?_ ?_; rotate_left; focus (simp only [Act.put, List.setIfInBounds_toArray, List.set_cons_zero, List.set_cons_succ]; rfl)
              refine PlanGo.takeI (a' := ?_) (some 67) (.bool false) (by kernel_rfl) (by kernel_rfl) (by kernel_rfl) (by kernel_rfl) (fun W hW => (by kernel_rfl)) ?_ ?_; rotate_left; focus (simp only [Act.put, List.setIfInBounds_toArray, List.set_cons_zero, List.set_cons_succ]; rfl)
              refine PlanGo.takeI (a' := ?_) (some 68) (.bool false) (by kernel_rfl) (by kernel_rfl) (by kernel_rfl) (by kernel_rfl) (fun W hW => (by kernel_rfl)) ?_ ?_; rotate_left; focus (simp only [Act.put, List.setIfInBounds_toArray, List.set_cons_zero, List.set_cons_succ]; rfl)
              refine PlanGo.takeI (a' := ?_) (some 69) (.bool false) (by kernel_rfl) (by kernel_rfl) (by kernel_rfl) (by kernel_rfl) (fun W hW => (by kernel_rfl)) ?_ ?_; rotate_left; focus (simp only [Act.put, List.setIfInBounds_toArray, List.set_cons_zero, List.set_cons_succ]; rfl)
              refine PlanGo.takeI (a' := ?_) (some 70) (.pointer (some ⟨B2, 0, none⟩)) (by kernel_rfl) (by kernel_rfl) (by kernel_rfl) (by kernel_rfl) (fun W hW => (by kernel_rfl)) ?_ ?_; rotate_left; focus (simp only [Act.put, List.setIfInBounds_toArray, List.set_cons_zero, List.set_cons_succ]; rfl)
              refine PlanGo.takeI (a' := ?_) (some 71) (.int .i64 1) (by kernel_rfl) (by kernel_rfl) (by kernel_rfl) (by kernel_rfl) (fun W hW => yl_int (x := .tmp 70) (by kernel_rfl) (by kernel_rfl) hW.1) ?_ ?_; rotate_left; focus (simp only [Act.put, List.setIfInBounds_toArray, List.set_cons_zero, List.set_cons_succ]; rfl)
              refine PlanGo.takeI (a' := ?_) (some 72) (.bool false) (by kernel_rfl) (by kernel_rfl) (by kernel_rfl) (by kernel_rfl) (fun W hW => (by kernel_rfl)) ?_ ?_; rotate_left; focus (simp only [Act.put, List.setIfInBounds_toArray, List.set_cons_zero, List.set_cons_succ]; rfl)
              refine PlanGo.takeI (a' := ?_) (some 73) (.bool false) (by kernel_rfl) (by kernel_rfl) (by kernel_rfl) (by kernel_rfl) (fun W hW => (by kernel_rfl)) ?_ ?_; rotate_left; focus (simp only [Act.put, List.setIfInBounds_toArray, List.set_cons_zero, List.set_cons_succ]; rfl)
              refine PlanGo.skipI (a' := ?_) (some 74) (by kernel_rfl) (by kernel_rfl) (by kernel_rfl) ?_ ?_; rotate_left; focus (simp only [Act.put, List.setIfInBounds_toArray, List.set_cons_zero, List.set_cons_succ]; rfl)
              refine PlanGo.skipI (a' := ?_) (some 76) (by kernel_rfl) (by kernel_rfl) (by kernel_rfl) ?_ ?_; rotate_left; focus (simp only [Act.put, List.setIfInBounds_toArray, List.set_cons_zero, List.set_cons_succ]; rfl)
              refine PlanGo.skipI (a' := ?_) (some 77) (by kernel_rfl) (by kernel_rfl) (by kernel_rfl) ?_ ?_; rotate_left; focus (simp only [Act.put, List.setIfInBounds_toArray, List.set_cons_zero, List.set_cons_succ]; rfl)
              refine PlanGo.skipI (a' := ?_) (some 75) (by kernel_rfl) (by kernel_rfl) (by kernel_rfl) ?_ ?_; rotate_left; focus (simp only [Act.put, List.setIfInBounds_toArray, List.set_cons_zero, List.set_cons_succ]; rfl)
              refine PlanGo.skipI (a' := ?_) (some 78) (by kernel_rfl) (by kernel_rfl) (by kernel_rfl) ?_ ?_; rotate_left; focus (simp only [Act.put, List.setIfInBounds_toArray, List.set_cons_zero, List.set_cons_succ]; rfl)
              refine PlanGo.takeI (a' := ?_) (some 79) (.bool false) (by kernel_rfl) (by kernel_rfl) (by kernel_rfl) (by kernel_rfl) (fun W hW => (by kernel_rfl)) ?_ ?_; rotate_left; focus (simp only [Act.put, List.setIfInBounds_toArray, List.set_cons_zero, List.set_cons_succ]; rfl)
              refine PlanGo.takeI (a' := ?_) (some 80) (.bool false) (by kernel_rfl) (by kernel_rfl) (by kernel_rfl) (by kernel_rfl) (fun W hW => (by kernel_rfl)) ?_ ?_; rotate_left; focus (simp only [Act.put, List.setIfInBounds_toArray, List.set_cons_zero, List.set_cons_succ]; rfl)
              refine PlanGo.takeI (a' := ?_) (some 81) (.bool false) (by kernel_rfl) (by kernel_rfl) (by kernel_rfl) (by kernel_rfl) (fun W hW => (by kernel_rfl)) ?_ ?_; rotate_left; focus (simp only [Act.put, List.setIfInBounds_toArray, List.set_cons_zero, List.set_cons_succ]; rfl)
              refine PlanGo.takeI (a' := ?_) (some 82) (.pointer (some ⟨B2, 0, none⟩)) (by kernel_rfl) (by kernel_rfl) (by kernel_rfl) (by kernel_rfl) (fun W hW => (by kernel_rfl)) ?_ ?_; rotate_left; focus (simp only [Act.put, List.setIfInBounds_toArray, List.set_cons_zero, List.set_cons_succ]; rfl)
              refine PlanGo.takeI (a' := ?_) (some 83) (.int .i64 1) (by kernel_rfl) (by kernel_rfl) (by kernel_rfl) (by kernel_rfl) (fun W hW => yl_int (x := .tmp 82) (by kernel_rfl) (by kernel_rfl) hW.1) ?_ ?_; rotate_left; focus (simp only [Act.put, List.setIfInBounds_toArray, List.set_cons_zero, List.set_cons_succ]; rfl)
              refine PlanGo.takeI (a' := ?_) (some 84) (.bool false) (by kernel_rfl) (by kernel_rfl) (by kernel_rfl) (by kernel_rfl) (fun W hW => (by kernel_rfl)) ?_ ?_; rotate_left; focus (simp only [Act.put, List.setIfInBounds_toArray, List.set_cons_zero, List.set_cons_succ]; rfl)
              refine PlanGo.takeI (a' := ?_) (some 85) (.bool false) (by kernel_rfl) (by kernel_rfl) (by kernel_rfl) (by kernel_rfl) (fun W hW => (by kernel_rfl)) ?_ ?_; rotate_left; focus (simp only [Act.put, List.setIfInBounds_toArray, List.set_cons_zero, List.set_cons_succ]; rfl)
              refine PlanGo.skipI (a' := ?_) (some 86) (by kernel_rfl) (by kernel_rfl) (by kernel_rfl) ?_ ?_; rotate_left; focus (simp only [Act.put, List.setIfInBounds_toArray, List.set_cons_zero, List.set_cons_succ]; rfl)
              refine PlanGo.skipI (a' := ?_) (some 87) (by kernel_rfl) (by kernel_rfl) (by kernel_rfl) ?_ ?_; rotate_left; focus (simp only [Act.put, List.setIfInBounds_toArray, List.set_cons_zero, List.set_cons_succ]; rfl)
              refine PlanGo.skipI (a' := ?_) (some 88) (by kernel_rfl) (by kernel_rfl) (by kernel_rfl) ?_ ?_; rotate_left; focus (simp only [Act.put, List.setIfInBounds_toArray, List.set_cons_zero, List.set_cons_succ]; rfl)
              refine PlanGo.skipI (a' := ?_) (some 89) (by kernel_rfl) (by kernel_rfl) (by kernel_rfl) ?_ ?_; rotate_left; focus (simp only [Act.put, List.setIfInBounds_toArray, List.set_cons_zero, List.set_cons_succ]; rfl)
              refine PlanGo.skipI (a' := ?_) (some 91) (by kernel_rfl) (by kernel_rfl) (by kernel_rfl) ?_ ?_; rotate_left; focus (simp only [Act.put, List.setIfInBounds_toArray, List.set_cons_zero, List.set_cons_succ]; rfl)
              refine PlanGo.skipI (a' := ?_) (some 92) (by kernel_rfl) (by kernel_rfl) (by kernel_rfl) ?_ ?_; rotate_left; focus (simp only [Act.put, List.setIfInBounds_toArray, List.set_cons_zero, List.set_cons_succ]; rfl)
              refine PlanGo.skipI (a' := ?_) (some 90) (by kernel_rfl) (by kernel_rfl) (by kernel_rfl) ?_ ?_; rotate_left; focus (simp only [Act.put, List.setIfInBounds_toArray, List.set_cons_zero, List.set_cons_succ]; rfl)
              refine PlanGo.skipI (a' := ?_) (some 93) (by kernel_rfl) (by kernel_rfl) (by kernel_rfl) ?_ ?_; rotate_left; focus (simp only [Act.put, List.setIfInBounds_toArray, List.set_cons_zero, List.set_cons_succ]; rfl)
              refine PlanGo.takeI (a' := ?_) (some 94) (.bool false) (by kernel_rfl) (by kernel_rfl) (by kernel_rfl) (by kernel_rfl) (fun W hW => (by kernel_rfl)) ?_ ?_; rotate_left; focus (simp only [Act.put, List.setIfInBounds_toArray, List.set_cons_zero, List.set_cons_succ]; rfl)
              refine PlanGo.takeI (a' := ?_) (some 95) (.bool false) (by kernel_rfl) (by kernel_rfl) (by kernel_rfl) (by kernel_rfl) (fun W hW => (by kernel_rfl)) ?_ ?_; rotate_left; focus (simp only [Act.put, List.setIfInBounds_toArray, List.set_cons_zero, List.set_cons_succ]; rfl)
              refine PlanGo.takeI (a' := ?_) (some 96) (.bool false) (by kernel_rfl) (by kernel_rfl) (by kernel_rfl) (by kernel_rfl) (fun W hW => (by kernel_rfl)) ?_ ?_; rotate_left; focus (simp only [Act.put, List.setIfInBounds_toArray, List.set_cons_zero, List.set_cons_succ]; rfl)
              refine PlanGo.takeI (a' := ?_) (some 97) (.pointer (some ⟨B2, 0, none⟩)) (by kernel_rfl) (by kernel_rfl) (by kernel_rfl) (by kernel_rfl) (fun W hW => (by kernel_rfl)) ?_ ?_; rotate_left; focus (simp only [Act.put, List.setIfInBounds_toArray, List.set_cons_zero, List.set_cons_succ]; rfl)
              refine PlanGo.takeI (a' := ?_) (some 98) (.int .i64 1) (by kernel_rfl) (by kernel_rfl) (by kernel_rfl) (by kernel_rfl) (fun W hW => yl_int (x := .tmp 97) (by kernel_rfl) (by kernel_rfl) hW.1) ?_ ?_; rotate_left; focus (simp only [Act.put, List.setIfInBounds_toArray, List.set_cons_zero, List.set_cons_succ]; rfl)
              refine PlanGo.takeI (a' := ?_) (some 99) (.bool false) (by kernel_rfl) (by kernel_rfl) (by kernel_rfl) (by kernel_rfl) (fun W hW => (by kernel_rfl)) ?_ ?_; rotate_left; focus (simp only [Act.put, List.setIfInBounds_toArray, List.set_cons_zero, List.set_cons_succ]; rfl)
              refine PlanGo.takeI (a' := ?_) (some 100) (.bool false) (by kernel_rfl) (by kernel_rfl) (by kernel_rfl) (by kernel_rfl) (fun W hW => (by kernel_rfl)) ?_ ?_; rotate_left; focus (simp only [Act.put, List.setIfInBounds_toArray, List.set_cons_zero, List.set_cons_succ]; rfl)
              refine PlanGo.skipI (a' := ?_) (some 101) (by kernel_rfl) (by kernel_rfl) (by kernel_rfl) ?_ ?_; rotate_left; focus (simp only [Act.put, List.setIfInBounds_toArray, List.set_cons_zero, List.set_cons_succ]; rfl)
              refine PlanGo.skipI (a' := ?_) (some 102) (by kernel_rfl) (by kernel_rfl) (by kernel_rfl) ?_ ?_; rotate_left; focus (simp only [Act.put, List.setIfInBounds_toArray, List.set_cons_zero, List.set_cons_succ]; rfl)
              refine PlanGo.skipI (a' := ?_) (some 103) (by kernel_rfl) (by kernel_rfl) (by kernel_rfl) ?_ ?_; rotate_left; focus (simp only [Act.put, List.setIfInBounds_toArray, List.set_cons_zero, List.set_cons_succ]; rfl)
              refine PlanGo.skipI (a' := ?_) (some 104) (by kernel_rfl) (by kernel_rfl) (by kernel_rfl) ?_ ?_; rotate_left; focus (simp only [Act.put, List.setIfInBounds_toArray, List.set_cons_zero, List.set_cons_succ]; rfl)
              refine PlanGo.skipI (a' := ?_) (some 106) (by kernel_rfl) (by kernel_rfl) (by kernel_rfl) ?_ ?_; rotate_left; focus (simp only [Act.put, List.setIfInBounds_toArray, List.set_cons_zero, List.set_cons_succ]; rfl)
              refine PlanGo.skipI (a' := ?_) (some 107) (by kernel_rfl) (by kernel_rfl) (by kernel_rfl) ?_ ?_; rotate_left; focus (simp only [Act.put, List.setIfInBounds_toArray, List.set_cons_zero, List.set_cons_succ]; rfl)
              refine PlanGo.skipI (a' := ?_) (some 105) (by kernel_rfl) (by kernel_rfl) (by kernel_rfl) ?_ ?_; rotate_left; focus (simp only [Act.put, List.setIfInBounds_toArray, List.set_cons_zero, List.set_cons_succ]; rfl)
              refine PlanGo.skipI (a' := ?_) (some 108) (by kernel_rfl) (by kernel_rfl) (by kernel_rfl) ?_ ?_; rotate_left; focus (simp only [Act.put, List.setIfInBounds_toArray, List.set_cons_zero, List.set_cons_succ]; rfl)
              refine PlanGo.takeI (a' := ?_) (some 109) (.bool false) (by kernel_rfl) (by kernel_rfl) (by kernel_rfl) (by kernel_rfl) (fun W hW => (by kernel_rfl)) ?_ ?_; rotate_left; focus (simp only [Act.put, List.setIfInBounds_toArray, List.set_cons_zero, List.set_cons_succ]; rfl)
              refine PlanGo.takeI (a' := ?_) (some 110) (.bool false) (by kernel_rfl) (by kernel_rfl) (by kernel_rfl) (by kernel_rfl) (fun W hW => (by kernel_rfl)) ?_ ?_; rotate_left; focus (simp only [Act.put, List.setIfInBounds_toArray, List.set_cons_zero, List.set_cons_succ]; rfl)
              refine PlanGo.takeI (a' := ?_) (some 111) (.bool false) (by kernel_rfl) (by kernel_rfl) (by kernel_rfl) (by kernel_rfl) (fun W hW => (by kernel_rfl)) ?_ ?_; rotate_left; focus (simp only [Act.put, List.setIfInBounds_toArray, List.set_cons_zero, List.set_cons_succ]; rfl)
              refine PlanGo.takeI (a' := ?_) (some 112) (.pointer (some ⟨B2, 0, none⟩)) (by kernel_rfl) (by kernel_rfl) (by kernel_rfl) (by kernel_rfl) (fun W hW => (by kernel_rfl)) ?_ ?_; rotate_left; focus (simp only [Act.put, List.setIfInBounds_toArray, List.set_cons_zero, List.set_cons_succ]; rfl)
              refine PlanGo.takeI (a' := ?_) (some 113) (.int .i64 1) (by kernel_rfl) (by kernel_rfl) (by kernel_rfl) (by kernel_rfl) (fun W hW => yl_int (x := .tmp 112) (by kernel_rfl) (by kernel_rfl) hW.1) ?_ ?_; rotate_left; focus (simp only [Act.put, List.setIfInBounds_toArray, List.set_cons_zero, List.set_cons_succ]; rfl)
              refine PlanGo.takeI (a' := ?_) (some 114) (.bool false) (by kernel_rfl) (by kernel_rfl) (by kernel_rfl) (by kernel_rfl) (fun W hW => (by kernel_rfl)) ?_ ?_; rotate_left; focus (simp only [Act.put, List.setIfInBounds_toArray, List.set_cons_zero, List.set_cons_succ]; rfl)
              refine PlanGo.takeI (a' := ?_) (some 115) (.bool false) (by kernel_rfl) (by kernel_rfl) (by kernel_rfl) (by kernel_rfl) (fun W hW => (by kernel_rfl)) ?_ ?_; rotate_left; focus (simp only [Act.put, List.setIfInBounds_toArray, List.set_cons_zero, List.set_cons_succ]; rfl)
              refine PlanGo.skipI (a' := ?_) (some 116) (by kernel_rfl) (by kernel_rfl) (by kernel_rfl) ?_ ?_; rotate_left; focus (simp only [Act.put, List.setIfInBounds_toArray, List.set_cons_zero, List.set_cons_succ]; rfl)
              refine PlanGo.skipI (a' := ?_) (some 117) (by kernel_rfl) (by kernel_rfl) (by kernel_rfl) ?_ ?_; rotate_left; focus (simp only [Act.put, List.setIfInBounds_toArray, List.set_cons_zero, List.set_cons_succ]; rfl)
              refine PlanGo.skipI (a' := ?_) (some 118) (by kernel_rfl) (by kernel_rfl) (by kernel_rfl) ?_ ?_; rotate_left; focus (simp only [Act.put, List.setIfInBounds_toArray, List.set_cons_zero, List.set_cons_succ]; rfl)
              refine PlanGo.skipI (a' := ?_) (some 119) (by kernel_rfl) (by kernel_rfl) (by kernel_rfl) ?_ ?_; rotate_left; focus (simp only [Act.put, List.setIfInBounds_toArray, List.set_cons_zero, List.set_cons_succ]; rfl)
              refine PlanGo.skipI (a' := ?_) (some 121) (by kernel_rfl) (by kernel_rfl) (by kernel_rfl) ?_ ?_; rotate_left; focus (simp only [Act.put, List.setIfInBounds_toArray, List.set_cons_zero, List.set_cons_succ]; rfl)
              refine PlanGo.skipI (a' := ?_) (some 122) (by kernel_rfl) (by kernel_rfl) (by kernel_rfl) ?_ ?_; rotate_left; focus (simp only [Act.put, List.setIfInBounds_toArray, List.set_cons_zero, List.set_cons_succ]; rfl)
              refine PlanGo.skipI (a' := ?_) (some 120) (by kernel_rfl) (by kernel_rfl) (by kernel_rfl) ?_ ?_; rotate_left; focus (simp only [Act.put, List.setIfInBounds_toArray, List.set_cons_zero, List.set_cons_succ]; rfl)
              refine PlanGo.skipI (a' := ?_) (some 123) (by kernel_rfl) (by kernel_rfl) (by kernel_rfl) ?_ ?_; rotate_left; focus (simp only [Act.put, List.setIfInBounds_toArray, List.set_cons_zero, List.set_cons_succ]; rfl)
              refine PlanGo.skipI (a' := ?_) (some 124) (by kernel_rfl) (by kernel_rfl) (by kernel_rfl) ?_ ?_; rotate_left; focus (simp only [Act.put, List.setIfInBounds_toArray, List.set_cons_zero, List.set_cons_succ]; rfl)
              refine PlanGo.takeI (a' := ?_) (some 125) (.bool false) (by kernel_rfl) (by kernel_rfl) (by kernel_rfl) (by kernel_rfl) (fun W hW => (by kernel_rfl)) ?_ ?_; rotate_left; focus (simp only [Act.put, List.setIfInBounds_toArray, List.set_cons_zero, List.set_cons_succ]; rfl)
              refine PlanGo.takeI (a' := ?_) (some 126) (.bool false) (by kernel_rfl) (by kernel_rfl) (by kernel_rfl) (by kernel_rfl) (fun W hW => (by kernel_rfl)) ?_ ?_; rotate_left; focus (simp only [Act.put, List.setIfInBounds_toArray, List.set_cons_zero, List.set_cons_succ]; rfl)
              refine PlanGo.done (hQ0.out _ _ ?_)
              clear hQ0 Q0
              go_wp2_with fail
              go_roundw
              case rel => exact ⟨j + 1, by go_num, by omega, by rw [HL2.out]; exact HA3⟩
              case measure => simp [intOf]; omega
            by_cases k2 : K = 2
            · subst k2
              have HCT : Keep (∀ W, PR (.pointer (some ⟨B1, 0, none⟩)) l0 0 W → Calls Try.prog 19 #[(.pointer (some ⟨B1, 0, none⟩))] W fun e w' => e = .returned (.bool Bl) ∧ RdTo (.pointer (some ⟨B1, 0, none⟩)) (l2, 0) W w') := ⟨fun W h => by
                have := bool_any _ l0 0 W h
                rw [HREST.out, show partB ⟨2, U, N, Bl, S, .slice so L.length sc, L⟩ = boolB Bl from rfl, (back_bool Bl l2).1, (back_bool Bl l2).2] at this
                exact this⟩
              go_wp2_with fail
              rw [← hB2]
              have HB2 := keep hB2
              clear hB2 c0 c1 c2 c3 c4 c5
              generalize hW1 : wr.alloc (.cells #[.int .i64 2, .int .u64 U, .int .i64 N, .bool Bl, .string S, .slice so L.length sc] 33) = W1 at *
              clear hW1
              refine PlanGo.regionQ (fun w' => w'.cell? ⟨B2, 0, none⟩ = some (.int .i64 2) ∧ w'.cell? ⟨B2, 1, none⟩ = some (.int .u64 U) ∧ w'.cell? ⟨B2, 2, none⟩ = some (.int .i64 N) ∧ w'.cell? ⟨B2, 3, none⟩ = some (.bool Bl) ∧ w'.cell? ⟨B2, 4, none⟩ = some (.string S) ∧ w'.cell? ⟨B2, 5, none⟩ = some (.slice so L.length sc)) [0, 1, 2, 3, 4, 6, 7, 5, 8, 9, 10, 11, 12, 13, 14, 15, 17, 18, 16, 19, 20, 21, 22, 23, 24, 25, 26, 27, 29, 30, 28, 31, 32, 33, 34, 35, 36, 37, 38, 39, 40, 41, 42, 44, 45, 43, 46, 47, 48, 49, 50, 51, 52, 53, 54, 55, 56, 57, 59, 60, 58, 61, 62, 63, 64, 65, 66, 67, 68, 69, 70, 71, 72, 74, 75, 73, 76, 77, 78, 79] (by kernel_rfl) (by kernel_rfl) (fun _ _ d _ _ h => by cases d <;> exact h) rfl (by kernel_rfl) (HSX.out (.pointer none) _ (Kept.refl _ _) (by simp [blk])) ?_
              intro Q0 hQ0 wd ewd
              subst ewd
              refine PlanGo.takeI (a' := ?_) (some 47) (.pointer (some ⟨B2, 0, none⟩)) (by kernel_rfl) (by kernel_rfl) (by kernel_rfl) (by kernel_rfl) (fun W hW => (by kernel_rfl)) ?_ ?_; rotate_left; focus (simp only [Act.put, List.setIfInBounds_toArray, List.set_cons_zero, List.set_cons_succ]; rfl)
              refine PlanGo.takeI (a' := ?_) (some 48) (.int .i64 2) (by kernel_rfl) (by kernel_rfl) (by kernel_rfl) (by kernel_rfl) (fun W hW => yl_int (x := .tmp 47) (by kernel_rfl) (by kernel_rfl) hW.1) ?_ ?_; rotate_left; focus (simp only [Act.put, List.setIfInBounds_toArray, List.set_cons_zero, List.set_cons_succ]; rfl)
              refine PlanGo.takeI (a' := ?_) (some 49) (.bool false) (by kernel_rfl) (by kernel_rfl) (by kernel_rfl) (by kernel_rfl) (fun W hW => (by kernel_rfl)) ?_ ?_; rotate_left; focus (simp only [Act.put, List.setIfInBounds_toArray, List.set_cons_zero, List.set_cons_succ]; rfl)
              refine PlanGo.takeI (a' := ?_) (some 50) (.bool false) (by kernel_rfl) (by kernel_rfl) (by kernel_rfl) (by kernel_rfl) (fun W hW => (by kernel_rfl)) ?_ ?_; rotate_left; focus (simp only [Act.put, List.setIfInBounds_toArray, List.set_cons_zero, List.set_cons_succ]; rfl)
              refine PlanGo.skipI (a' := ?_) (some 51) (by kernel_rfl) (by kernel_rfl) (by kernel_rfl) ?_ ?_; rotate_left; focus (simp only [Act.put, List.setIfInBounds_toArray, List.set_cons_zero, List.set_cons_succ]; rfl)
              refine PlanGo.skipI (a' := ?_) (some 53) (by kernel_rfl) (by kernel_rfl) (by kernel_rfl) ?_ ?_; rotate_left; focus (simp only [Act.put, List.setIfInBounds_toArray, List.set_cons_zero, List.set_cons_succ]; rfl)
              refine PlanGo.skipI (a' := ?_) (some 54) (by kernel_rfl) (by kernel_rfl) (by kernel_rfl) ?_ ?_; rotate_left; focus (simp only [Act.put, List.setIfInBounds_toArray, List.set_cons_zero, List.set_cons_succ]; rfl)
              refine PlanGo.skipI (a' := ?_) (some 52) (by kernel_rfl) (by kernel_rfl) (by kernel_rfl) ?_ ?_; rotate_left; focus (simp only [Act.put, List.setIfInBounds_toArray, List.set_cons_zero, List.set_cons_succ]; rfl)
              refine PlanGo.skipI (a' := ?_) (some 55) (by kernel_rfl) (by kernel_rfl) (by kernel_rfl) ?_ ?_; rotate_left; focus (simp only [Act.put, List.setIfInBounds_toArray, List.set_cons_zero, List.set_cons_succ]; rfl)
              refine PlanGo.takeI (a' := ?_) (some 56) (.bool false) (by kernel_rfl) (by kernel_rfl) (by kernel_rfl) (by kernel_rfl) (fun W hW => (by kernel_rfl)) ?_ ?_; rotate_left; focus (simp only [Act.put, List.setIfInBounds_toArray, List.set_cons_zero, List.set_cons_succ]; rfl)
              refine PlanGo.takeI (a' := ?_) (some 57) (.bool false) (by kernel_rfl) (by kernel_rfl) (by kernel_rfl) (by kernel_rfl) (fun W hW => (by kernel_rfl)) ?_ ?_; rotate_left; focus (simp only [Act.put, List.setIfInBounds_toArray, List.set_cons_zero, List.set_cons_succ]; rfl)
              refine PlanGo.takeI (a' := ?_) (some 58) (.pointer (some ⟨B2, 0, none⟩)) (by kernel_rfl) (by kernel_rfl) (by kernel_rfl) (by kernel_rfl) (fun W hW => (by kernel_rfl)) ?_ ?_; rotate_left; focus (simp only [Act.put, List.setIfInBounds_toArray, List.set_cons_zero, List.set_cons_succ]; rfl)
              refine PlanGo.takeI (a' := ?_) (some 59) (.int .i64 2) (by kernel_rfl) (by kernel_rfl) (by kernel_rfl) (by kernel_rfl) (fun W hW => yl_int (x := .tmp 58) (by kernel_rfl) (by kernel_rfl) hW.1) ?_ ?_; rotate_left; focus (simp only [Act.put, List.setIfInBounds_toArray, List.set_cons_zero, List.set_cons_succ]; rfl)
              refine PlanGo.takeI (a' := ?_) (some 60) (.bool false) (by kernel_rfl) (by kernel_rfl) (by kernel_rfl) (by kernel_rfl) (fun W hW => (by kernel_rfl)) ?_ ?_; rotate_left; focus (simp only [Act.put, List.setIfInBounds_toArray, List.set_cons_zero, List.set_cons_succ]; rfl)
              refine PlanGo.takeI (a' := ?_) (some 61) (.bool false) (by kernel_rfl) (by kernel_rfl) (by kernel_rfl) (by kernel_rfl) (fun W hW => (by kernel_rfl)) ?_ ?_; rotate_left; focus (simp only [Act.put, List.setIfInBounds_toArray, List.set_cons_zero, List.set_cons_succ]; rfl)
              refine PlanGo.skipI (a' := ?_) (some 62) (by kernel_rfl) (by kernel_rfl) (by kernel_rfl) ?_ ?_; rotate_left; focus (simp only [Act.put, List.setIfInBounds_toArray, List.set_cons_zero, List.set_cons_succ]; rfl)
              refine PlanGo.skipI (a' := ?_) (some 64) (by kernel_rfl) (by kernel_rfl) (by kernel_rfl) ?_ ?_; rotate_left; focus (simp only [Act.put, List.setIfInBounds_toArray, List.set_cons_zero, List.set_cons_succ]; rfl)
              refine PlanGo.skipI (a' := ?_) (some 65) (by kernel_rfl) (by kernel_rfl) (by kernel_rfl) ?_ ?_; rotate_left; focus (simp only [Act.put, List.setIfInBounds_toArray, List.set_cons_zero, List.set_cons_succ]; rfl)
              refine PlanGo.skipI (a' := ?_) (some 63) (by kernel_rfl) (by kernel_rfl) (by kernel_rfl) ?_ ?_; rotate_left; focus (simp only [Act.put, List.setIfInBounds_toArray, List.set_cons_zero, List.set_cons_succ]; rfl)
              refine PlanGo.skipI (a' := ?_) (some 66) (by kernel_rfl) (by kernel_rfl) (by kernel_rfl) ?_ ?_; rotate_left; focus (simp only [Act.put, List.setIfInBounds_toArray, List.set_cons_zero, List.set_cons_succ]; rfl)
              refine PlanGo.takeI (a' := ?_) (some 67) (.bool false) (by kernel_rfl) (by kernel_rfl) (by kernel_rfl) (by kernel_rfl) (fun W hW => (by kernel_rfl)) ?_ ?_; rotate_left; focus (simp only [Act.put, List.setIfInBounds_toArray, List.set_cons_zero, List.set_cons_succ]; rfl)
              refine PlanGo.takeI (a' := ?_) (some 68) (.bool false) (by kernel_rfl) (by kernel_rfl) (by kernel_rfl) (by kernel_rfl) (fun W hW => (by kernel_rfl)) ?_ ?_; rotate_left; focus (simp only [Act.put, List.setIfInBounds_toArray, List.set_cons_zero, List.set_cons_succ]; rfl)
              refine PlanGo.takeI (a' := ?_) (some 69) (.bool false) (by kernel_rfl) (by kernel_rfl) (by kernel_rfl) (by kernel_rfl) (fun W hW => (by kernel_rfl)) ?_ ?_; rotate_left; focus (simp only [Act.put, List.setIfInBounds_toArray, List.set_cons_zero, List.set_cons_succ]; rfl)
              refine PlanGo.takeI (a' := ?_) (some 70) (.pointer (some ⟨B2, 0, none⟩)) (by kernel_rfl) (by kernel_rfl) (by kernel_rfl) (by kernel_rfl) (fun W hW => (by kernel_rfl)) ?_ ?_; rotate_left; focus (simp only [Act.put, List.setIfInBounds_toArray, List.set_cons_zero, List.set_cons_succ]; rfl)
              refine PlanGo.takeI (a' := ?_) (some 71) (.int .i64 2) (by kernel_rfl) (by kernel_rfl) (by kernel_rfl) (by kernel_rfl) (fun W hW => yl_int (x := .tmp 70) (by kernel_rfl) (by kernel_rfl) hW.1) ?_ ?_; rotate_left; focus (simp only [Act.put, List.setIfInBounds_toArray, List.set_cons_zero, List.set_cons_succ]; rfl)
              refine PlanGo.takeI (a' := ?_) (some 72) (.bool true) (by kernel_rfl) (by kernel_rfl) (by kernel_rfl) (by kernel_rfl) (fun W hW => (by kernel_rfl)) ?_ ?_; rotate_left; focus (simp only [Act.put, List.setIfInBounds_toArray, List.set_cons_zero, List.set_cons_succ]; rfl)
              refine PlanGo.takeI (a' := ?_) (some 73) (.bool true) (by kernel_rfl) (by kernel_rfl) (by kernel_rfl) (by kernel_rfl) (fun W hW => (by kernel_rfl)) ?_ ?_; rotate_left; focus (simp only [Act.put, List.setIfInBounds_toArray, List.set_cons_zero, List.set_cons_succ]; rfl)
              refine PlanGo.takeI (a' := ?_) (some 74) (.pointer (some ⟨B1, 0, none⟩)) (by kernel_rfl) (by kernel_rfl) (by kernel_rfl) (by kernel_rfl) (fun W hW => (by kernel_rfl)) ?_ ?_; rotate_left; focus (simp only [Act.put, List.setIfInBounds_toArray, List.set_cons_zero, List.set_cons_succ]; rfl)
              refine PlanGo.takeI (a' := ?_) (some 76) (.pointer (some ⟨B2, 3, none⟩)) (by kernel_rfl) (by kernel_rfl) (by kernel_rfl) (by kernel_rfl) (fun W hW => (by kernel_rfl)) ?_ ?_; rotate_left; focus (simp only [Act.put, List.setIfInBounds_toArray, List.set_cons_zero, List.set_cons_succ]; rfl)
              refine PlanGo.takeI (a' := ?_) (some 77) (.bool Bl) (by kernel_rfl) (by kernel_rfl) (by kernel_rfl) (by kernel_rfl) (fun W hW => yl_bool (x := .tmp 76) (by kernel_rfl) (by kernel_rfl) hW.2.2.2.1) ?_ ?_; rotate_left; focus (simp only [Act.put, List.setIfInBounds_toArray, List.set_cons_zero, List.set_cons_succ]; rfl)
              refine PlanGo.callI (some 75) 19 #[(.pointer (some ⟨B1, 0, none⟩))] (by kernel_rfl) (by kernel_rfl) (by kernel_rfl) (by kernel_rfl) (fun W => by kernel_rfl) (HCT.out _ HPR.out) ?_
              rintro e w2 ⟨rfl, hR⟩
              have HA3 := keep (HA2.out.step HBW.out hR HBP.out)
              refine ⟨_, rfl, HSX.out _ w2 hR.2 HN2.out, ?_⟩
              clear hR
              refine PlanGo.eq (a' := ?_) ?_ ?_; rotate_left; focus (simp only [Act.put, List.setIfInBounds_toArray, List.set_cons_zero, List.set_cons_succ]; rfl)
              refine PlanGo.takeI (a' := ?_) (some 78) (.bool false) (by kernel_rfl) (by kernel_rfl) (by kernel_rfl) (by kernel_rfl) (fun W hW => yn_bool (x := .tmp 75) (y := .tmp 77) (m := Bl) (by kernel_rfl) (by kernel_rfl) (by kernel_rfl)) ?_ ?_; rotate_left; focus (simp only [Act.put, List.setIfInBounds_toArray, List.set_cons_zero, List.set_cons_succ]; rfl)
              refine PlanGo.takeI (a' := ?_) (some 79) (.bool false) (by kernel_rfl) (by kernel_rfl) (by kernel_rfl) (by kernel_rfl) (fun W hW => (by kernel_rfl)) ?_ ?_; rotate_left; focus (simp only [Act.put, List.setIfInBounds_toArray, List.set_cons_zero, List.set_cons_succ]; rfl)
              refine PlanGo.takeI (a' := ?_) (some 80) (.bool false) (by kernel_rfl) (by kernel_rfl) (by kernel_rfl) (by kernel_rfl) (fun W hW => (by kernel_rfl)) ?_ ?_; rotate_left; focus (simp only [Act.put, List.setIfInBounds_toArray, List.set_cons_zero, List.set_cons_succ]; rfl)
              refine PlanGo.takeI (a' := ?_) (some 81) (.bool false) (by kernel_rfl) (by kernel_rfl) (by kernel_rfl) (by kernel_rfl) (fun W hW => (by kernel_rfl)) ?_ ?_; rotate_left; focus (simp only [Act.put, List.setIfInBounds_toArray, List.set_cons_zero, List.set_cons_succ]; rfl)
              refine PlanGo.takeI (a' := ?_) (some 82) (.pointer (some ⟨B2, 0, none⟩)) (by kernel_rfl) (by kernel_rfl) (by kernel_rfl) (by kernel_rfl) (fun W hW => (by kernel_rfl)) ?_ ?_; rotate_left; focus (simp only [Act.put, List.setIfInBounds_toArray, List.set_cons_zero, List.set_cons_succ]; rfl)
              refine PlanGo.takeI (a' := ?_) (some 83) (.int .i64 2) (by kernel_rfl) (by kernel_rfl) (by kernel_rfl) (by kernel_rfl) (fun W hW => yl_int (x := .tmp 82) (by kernel_rfl) (by kernel_rfl) hW.1) ?_ ?_; rotate_left; focus (simp only [Act.put, List.setIfInBounds_toArray, List.set_cons_zero, List.set_cons_succ]; rfl)
              refine PlanGo.takeI (a' := ?_) (some 84) (.bool false) (by kernel_rfl) (by kernel_rfl) (by kernel_rfl) (by kernel_rfl) (fun W hW => (by kernel_rfl)) ?_ ?_; rotate_left; focus (simp only [Act.put, List.setIfInBounds_toArray, List.set_cons_zero, List.set_cons_succ]; rfl)
              refine PlanGo.takeI (a' := ?_) (some 85) (.bool false) (by kernel_rfl) (by kernel_rfl) (by kernel_rfl) (by kernel_rfl) (fun W hW => (by kernel_rfl)) ?_ ?_; rotate_left; focus (simp only [Act.put, List.setIfInBounds_toArray, List.set_cons_zero, List.set_cons_succ]; rfl)
              refine PlanGo.skipI (a' := ?_) (some 86) (by kernel_rfl) (by kernel_rfl) (by kernel_rfl) ?_ ?_; rotate_left; focus (simp only [Act.put, List.setIfInBounds_toArray, List.set_cons_zero, List.set_cons_succ]; rfl)
              refine PlanGo.skipI (a' := ?_) (some 87) (by kernel_rfl) (by kernel_rfl) (by kernel_rfl) ?_ ?_; rotate_left; focus (simp only [Act.put, List.setIfInBounds_toArray, List.set_cons_zero, List.set_cons_succ]; rfl)
              refine PlanGo.skipI (a' := ?_) (some 88) (by kernel_rfl) (by kernel_rfl) (by kernel_rfl) ?_ ?_; rotate_left; focus (simp only [Act.put, List.setIfInBounds_toArray, List.set_cons_zero, List.set_cons_succ]; rfl)
              refine PlanGo.skipI (a' := ?_) (some 89) (by kernel_rfl) (by kernel_rfl) (by kernel_rfl) ?_ ?_; rotate_left; focus (simp only [Act.put, List.setIfInBounds_toArray, List.set_cons_zero, List.set_cons_succ]; rfl)
              refine PlanGo.skipI (a' := ?_) (some 91) (by kernel_rfl) (by kernel_rfl) (by kernel_rfl) ?_ ?_; rotate_left; focus (simp only [Act.put, List.setIfInBounds_toArray, List.set_cons_zero, List.set_cons_succ]; rfl)
              refine PlanGo.skipI (a' := ?_) (some 92) (by kernel_rfl) (by kernel_rfl) (by kernel_rfl) ?_ ?_; rotate_left; focus (simp only [Act.put, List.setIfInBounds_toArray, List.set_cons_zero, List.set_cons_succ]; rfl)
              refine PlanGo.skipI (a' := ?_) (some 90) (by kernel_rfl) (by kernel_rfl) (by kernel_rfl) ?_ ?_; rotate_left; focus (simp only [Act.put, List.setIfInBounds_toArray, List.set_cons_zero, List.set_cons_succ]; rfl)
              refine PlanGo.skipI (a' := ?_) (some 93) (by kernel_rfl) (by kernel_rfl) (by kernel_rfl) ?_ ?_; rotate_left; focus (simp only [Act.put, List.setIfInBounds_toArray, List.set_cons_zero, List.set_cons_succ]; rfl)
              refine PlanGo.takeI (a' := ?_) (some 94) (.bool false) (by kernel_rfl) (by kernel_rfl) (by kernel_rfl) (by kernel_rfl) (fun W hW => (by kernel_rfl)) ?_ ?_; rotate_left; focus (simp only [Act.put, List.setIfInBounds_toArray, List.set_cons_zero, List.set_cons_succ]; rfl)
              refine PlanGo.takeI (a' := ?_) (some 95) (.bool false) (by kernel_rfl) (by kernel_rfl) (by kernel_rfl) (by kernel_rfl) (fun W hW => (by kernel_rfl)) ?_ ?_; rotate_left; focus (simp only [Act.put, List.setIfInBounds_toArray, List.set_cons_zero, List.set_cons_succ]; rfl)
              refine PlanGo.takeI (a' := ?_) (some 96) (.bool false) (by kernel_rfl) (by kernel_rfl) (by kernel_rfl) (by kernel_rfl) (fun W hW => (by kernel_rfl)) ?_ ?_; rotate_left; focus (simp only [Act.put, List.setIfInBounds_toArray, List.set_cons_zero, List.set_cons_succ]; rfl)
              refine PlanGo.takeI (a' := ?_) (some 97) (.pointer (some ⟨B2, 0, none⟩)) (by kernel_rfl) (by kernel_rfl) (by kernel_rfl) (by kernel_rfl) (fun W hW => (by kernel_rfl)) ?_ ?_; rotate_left; focus (simp only [Act.put, List.setIfInBounds_toArray, List.set_cons_zero, List.set_cons_succ]; rfl)
              refine PlanGo.takeI (a' := ?_) (some 98) (.int .i64 2) (by kernel_rfl) (by kernel_rfl) (by kernel_rfl) (by kernel_rfl) (fun W hW => yl_int (x := .tmp 97) (by kernel_rfl) (by kernel_rfl) hW.1) ?_ ?_; rotate_left; focus (simp only [Act.put, List.setIfInBounds_toArray, List.set_cons_zero, List.set_cons_succ]; rfl)
              refine PlanGo.takeI (a' := ?_) (some 99) (.bool false) (by kernel_rfl) (by kernel_rfl) (by kernel_rfl) (by kernel_rfl) (fun W hW => (by kernel_rfl)) ?_ ?_; rotate_left; focus (simp only [Act.put, List.setIfInBounds_toArray, List.set_cons_zero, List.set_cons_succ]; rfl)
              refine PlanGo.takeI (a' := ?_) (some 100) (.bool false) (by kernel_rfl) (by kernel_rfl) (by kernel_rfl) (by kernel_rfl) (fun W hW => (by kernel_rfl)) ?_ ?_; rotate_left; focus (simp only [Act.put, List.setIfInBounds_toArray, List.set_cons_zero, List.set_cons_succ]; rfl)
              refine PlanGo.skipI (a' := ?_) (some 101) (by kernel_rfl) (by kernel_rfl) (by kernel_rfl) ?_ ?_; rotate_left; focus (simp only [Act.put, List.setIfInBounds_toArray, List.set_cons_zero, List.set_cons_succ]; rfl)
              refine PlanGo.skipI (a' := ?_) (some 102) (by kernel_rfl) (by kernel_rfl) (by kernel_rfl) ?_ ?_; rotate_left; focus (simp only [Act.put, List.setIfInBounds_toArray, List.set_cons_zero, List.set_cons_succ]; rfl)
              refine PlanGo.skipI (a' := ?_) (some 103) (by kernel_rfl) (by kernel_rfl) (by kernel_rfl) ?_ ?_; rotate_left; focus (simp only [Act.put, List.setIfInBounds_toArray, List.set_cons_zero, List.set_cons_succ]; rfl)
              refine PlanGo.skipI (a' := ?_) (some 104) (by kernel_rfl) (by kernel_rfl) (by kernel_rfl) ?_ ?_; rotate_left; focus (simp only [Act.put, List.setIfInBounds_toArray, List.set_cons_zero, List.set_cons_succ]; rfl)
              refine PlanGo.skipI (a' := ?_) (some 106) (by kernel_rfl) (by kernel_rfl) (by kernel_rfl) ?_ ?_; rotate_left; focus (simp only [Act.put, List.setIfInBounds_toArray, List.set_cons_zero, List.set_cons_succ]; rfl)
              refine PlanGo.skipI (a' := ?_) (some 107) (by kernel_rfl) (by kernel_rfl) (by kernel_rfl) ?_ ?_; rotate_left; focus (simp only [Act.put, List.setIfInBounds_toArray, List.set_cons_zero, List.set_cons_succ]; rfl)
              refine PlanGo.skipI (a' := ?_) (some 105) (by kernel_rfl) (by kernel_rfl) (by kernel_rfl) ?_ ?_; rotate_left; focus (simp only [Act.put, List.setIfInBounds_toArray, List.set_cons_zero, List.set_cons_succ]; rfl)
              refine PlanGo.skipI (a' := ?_) (some 108) (by kernel_rfl) (by kernel_rfl) (by kernel_rfl) ?_ ?_; rotate_left; focus (simp only [Act.put, List.setIfInBounds_toArray, List.set_cons_zero, List.set_cons_succ]; rfl)
              refine PlanGo.takeI (a' := ?_) (some 109) (.bool false) (by kernel_rfl) (by kernel_rfl) (by kernel_rfl) (by kernel_rfl) (fun W hW => (by kernel_rfl)) ?_ ?_; rotate_left; focus (simp only [Act.put, List.setIfInBounds_toArray, List.set_cons_zero, List.set_cons_succ]; rfl)
              refine PlanGo.takeI (a' := ?_) (some 110) (.bool false) (by kernel_rfl) (by kernel_rfl) (by kernel_rfl) (by kernel_rfl) (fun W hW => (by kernel_rfl)) ?_ ?_; rotate_left; focus (simp only [Act.put, List.setIfInBounds_toArray, List.set_cons_zero, List.set_cons_succ]; rfl)
              refine PlanGo.takeI (a' := ?_) (some 111) (.bool false) (by kernel_rfl) (by kernel_rfl) (by kernel_rfl) (by kernel_rfl) (fun W hW => (by kernel_rfl)) ?_ ?_; rotate_left; focus (simp only [Act.put, List.setIfInBounds_toArray, List.set_cons_zero, List.set_cons_succ]; rfl)
              refine PlanGo.takeI (a' := ?_) (some 112) (.pointer (some ⟨B2, 0, none⟩)) (by kernel_rfl) (by kernel_rfl) (by kernel_rfl) (by kernel_rfl) (fun W hW => (by kernel_rfl)) ?_ ?_; rotate_left; focus (simp only [Act.put, List.setIfInBounds_toArray, List.set_cons_zero, List.set_cons_succ]; rfl)
              refine PlanGo.takeI (a' := ?_) (some 113) (.int .i64 2) (by kernel_rfl) (by kernel_rfl) (by kernel_rfl) (by kernel_rfl) (fun W hW => yl_int (x := .tmp 112) (by kernel_rfl) (by kernel_rfl) hW.1) ?_ ?_; rotate_left; focus (simp only [Act.put, List.setIfInBounds_toArray, List.set_cons_zero, List.set_cons_succ]; rfl)
              refine PlanGo.takeI (a' := ?_) (some 114) (.bool false) (by kernel_rfl) (by kernel_rfl) (by kernel_rfl) (by kernel_rfl) (fun W hW => (by kernel_rfl)) ?_ ?_; rotate_left; focus (simp only [Act.put, List.setIfInBounds_toArray, List.set_cons_zero, List.set_cons_succ]; rfl)
              refine PlanGo.takeI (a' := ?_) (some 115) (.bool false) (by kernel_rfl) (by kernel_rfl) (by kernel_rfl) (by kernel_rfl) (fun W hW => (by kernel_rfl)) ?_ ?_; rotate_left; focus (simp only [Act.put, List.setIfInBounds_toArray, List.set_cons_zero, List.set_cons_succ]; rfl)
              refine PlanGo.skipI (a' := ?_) (some 116) (by kernel_rfl) (by kernel_rfl) (by kernel_rfl) ?_ ?_; rotate_left; focus (simp only [Act.put, List.setIfInBounds_toArray, List.set_cons_zero, List.set_cons_succ]; rfl)
              refine PlanGo.skipI (a' := ?_) (some 117) (by kernel_rfl) (by kernel_rfl) (by kernel_rfl) ?_ ?_; rotate_left; focus (simp only [Act.put, List.setIfInBounds_toArray, List.set_cons_zero, List.set_cons_succ]; rfl)
              refine PlanGo.skipI (a' := ?_) (some 118) (by kernel_rfl) (by kernel_rfl) (by kernel_rfl) ?_ ?_; rotate_left; focus (simp only [Act.put, List.setIfInBounds_toArray, List.set_cons_zero, List.set_cons_succ]; rfl)
              refine PlanGo.skipI (a' := ?_) (some 119) (by kernel_rfl) (by kernel_rfl) (by kernel_rfl) ?_ ?_; rotate_left; focus (simp only [Act.put, List.setIfInBounds_toArray, List.set_cons_zero, List.set_cons_succ]; rfl)
              refine PlanGo.skipI (a' := ?_) (some 121) (by kernel_rfl) (by kernel_rfl) (by kernel_rfl) ?_ ?_; rotate_left; focus (simp only [Act.put, List.setIfInBounds_toArray, List.set_cons_zero, List.set_cons_succ]; rfl)
              refine PlanGo.skipI (a' := ?_) (some 122) (by kernel_rfl) (by kernel_rfl) (by kernel_rfl) ?_ ?_; rotate_left; focus (simp only [Act.put, List.setIfInBounds_toArray, List.set_cons_zero, List.set_cons_succ]; rfl)
              refine PlanGo.skipI (a' := ?_) (some 120) (by kernel_rfl) (by kernel_rfl) (by kernel_rfl) ?_ ?_; rotate_left; focus (simp only [Act.put, List.setIfInBounds_toArray, List.set_cons_zero, List.set_cons_succ]; rfl)
              refine PlanGo.skipI (a' := ?_) (some 123) (by kernel_rfl) (by kernel_rfl) (by kernel_rfl) ?_ ?_; rotate_left; focus (simp only [Act.put, List.setIfInBounds_toArray, List.set_cons_zero, List.set_cons_succ]; rfl)
              refine PlanGo.skipI (a' := ?_) (some 124) (by kernel_rfl) (by kernel_rfl) (by kernel_rfl) ?_ ?_; rotate_left; focus (simp only [Act.put, List.setIfInBounds_toArray, List.set_cons_zero, List.set_cons_succ]; rfl)
              refine PlanGo.takeI (a' := ?_) (some 125) (.bool false) (by kernel_rfl) (by kernel_rfl) (by kernel_rfl) (by kernel_rfl) (fun W hW => (by kernel_rfl)) ?_ ?_; rotate_left; focus (simp only [Act.put, List.setIfInBounds_toArray, List.set_cons_zero, List.set_cons_succ]; rfl)
              refine PlanGo.takeI (a' := ?_) (some 126) (.bool false) (by kernel_rfl) (by kernel_rfl) (by kernel_rfl) (by kernel_rfl) (fun W hW => (by kernel_rfl)) ?_ ?_; rotate_left; focus (simp only [Act.put, List.setIfInBounds_toArray, List.set_cons_zero, List.set_cons_succ]; rfl)
              refine PlanGo.done (hQ0.out _ _ ?_)
              clear hQ0 Q0
              go_wp2_with fail
              go_roundw
              case rel => exact ⟨j + 1, by go_num, by omega, by rw [HL2.out]; exact HA3⟩
              case measure => simp [intOf]; omega
            by_cases k3 : K = 3
            · subst k3
              have HCT : Keep (∀ W, PR (.pointer (some ⟨B1, 0, none⟩)) l0 0 W → Calls Try.prog 20 #[(.pointer (some ⟨B1, 0, none⟩)), .int .i64 S.size] W fun e w' => e = .returned (.string S) ∧ RdTo (.pointer (some ⟨B1, 0, none⟩)) (l2, 0) W w') := ⟨fun W h => by
                have hs := HSHJ.out.1
                have := text_any _ S.size l0 0 W h (by omega) (by omega)
                rw [HREST.out, show partB ⟨3, U, N, Bl, S, .slice so L.length sc, L⟩ = textB S from rfl, (back_text (s := S) (by omega) l2).1, (back_text (s := S) (by omega) l2).2, str_eta] at this
                exact this⟩
              go_wp2_with fail
              rw [← hB2]
              have HB2 := keep hB2
              clear hB2 c0 c1 c2 c3 c4 c5
              generalize hW1 : wr.alloc (.cells #[.int .i64 3, .int .u64 U, .int .i64 N, .bool Bl, .string S, .slice so L.length sc] 33) = W1 at *
              clear hW1
              refine PlanGo.regionQ (fun w' => w'.cell? ⟨B2, 0, none⟩ = some (.int .i64 3) ∧ w'.cell? ⟨B2, 1, none⟩ = some (.int .u64 U) ∧ w'.cell? ⟨B2, 2, none⟩ = some (.int .i64 N) ∧ w'.cell? ⟨B2, 3, none⟩ = some (.bool Bl) ∧ w'.cell? ⟨B2, 4, none⟩ = some (.string S) ∧ w'.cell? ⟨B2, 5, none⟩ = some (.slice so L.length sc)) [0, 1, 2, 3, 4, 6, 7, 5, 8, 9, 10, 11, 12, 13, 14, 15, 17, 18, 16, 19, 20, 21, 22, 23, 24, 25, 26, 27, 29, 30, 28, 31, 32, 33, 34, 35, 36, 37, 38, 39, 40, 41, 42, 44, 45, 43, 46, 47, 48, 49, 50, 51, 52, 53, 54, 55, 56, 57, 59, 60, 58, 61, 62, 63, 64, 65, 66, 67, 68, 69, 70, 71, 72, 74, 75, 73, 76, 77, 78, 79] (by kernel_rfl) (by kernel_rfl) (fun _ _ d _ _ h => by cases d <;> exact h) rfl (by kernel_rfl) (HSX.out (.pointer none) _ (Kept.refl _ _) (by simp [blk])) ?_
              intro Q0 hQ0 wd ewd
              subst ewd
              refine PlanGo.takeI (a' := ?_) (some 47) (.pointer (some ⟨B2, 0, none⟩)) (by kernel_rfl) (by kernel_rfl) (by kernel_rfl) (by kernel_rfl) (fun W hW => (by kernel_rfl)) ?_ ?_; rotate_left; focus (simp only [Act.put, List.setIfInBounds_toArray, List.set_cons_zero, List.set_cons_succ]; rfl)
              refine PlanGo.takeI (a' := ?_) (some 48) (.int .i64 3) (by kernel_rfl) (by kernel_rfl) (by kernel_rfl) (by kernel_rfl) (fun W hW => yl_int (x := .tmp 47) (by kernel_rfl) (by kernel_rfl) hW.1) ?_ ?_; rotate_left; focus (simp only [Act.put, List.setIfInBounds_toArray, List.set_cons_zero, List.set_cons_succ]; rfl)
              refine PlanGo.takeI (a' := ?_) (some 49) (.bool false) (by kernel_rfl) (by kernel_rfl) (by kernel_rfl) (by kernel_rfl) (fun W hW => (by kernel_rfl)) ?_ ?_; rotate_left; focus (simp only [Act.put, List.setIfInBounds_toArray, List.set_cons_zero, List.set_cons_succ]; rfl)
              refine PlanGo.takeI (a' := ?_) (some 50) (.bool false) (by kernel_rfl) (by kernel_rfl) (by kernel_rfl) (by kernel_rfl) (fun W hW => (by kernel_rfl)) ?_ ?_; rotate_left; focus (simp only [Act.put, List.setIfInBounds_toArray, List.set_cons_zero, List.set_cons_succ]; rfl)
              refine PlanGo.skipI (a' := ?_) (some 51) (by kernel_rfl) (by kernel_rfl) (by kernel_rfl) ?_ ?_; rotate_left; focus (simp only [Act.put, List.setIfInBounds_toArray, List.set_cons_zero, List.set_cons_succ]; rfl)
              refine PlanGo.skipI (a' := ?_) (some 53) (by kernel_rfl) (by kernel_rfl) (by kernel_rfl) ?_ ?_; rotate_left; focus (simp only [Act.put, List.setIfInBounds_toArray, List.set_cons_zero, List.set_cons_succ]; rfl)
              refine PlanGo.skipI (a' := ?_) (some 54) (by kernel_rfl) (by kernel_rfl) (by kernel_rfl) ?_ ?_; rotate_left; focus (simp only [Act.put, List.setIfInBounds_toArray, List.set_cons_zero, List.set_cons_succ]; rfl)
              refine PlanGo.skipI (a' := ?_) (some 52) (by kernel_rfl) (by kernel_rfl) (by kernel_rfl) ?_ ?_; rotate_left; focus (simp only [Act.put, List.setIfInBounds_toArray, List.set_cons_zero, List.set_cons_succ]; rfl)
              refine PlanGo.skipI (a' := ?_) (some 55) (by kernel_rfl) (by kernel_rfl) (by kernel_rfl) ?_ ?_; rotate_left; focus (simp only [Act.put, List.setIfInBounds_toArray, List.set_cons_zero, List.set_cons_succ]; rfl)
              refine PlanGo.takeI (a' := ?_) (some 56) (.bool false) (by kernel_rfl) (by kernel_rfl) (by kernel_rfl) (by kernel_rfl) (fun W hW => (by kernel_rfl)) ?_ ?_; rotate_left; focus (simp only [Act.put, List.setIfInBounds_toArray, List.set_cons_zero, List.set_cons_succ]; rfl)
              refine PlanGo.takeI (a' := ?_) (some 57) (.bool false) (by kernel_rfl) (by kernel_rfl) (by kernel_rfl) (by kernel_rfl) (fun W hW => (by kernel_rfl)) ?_ ?_; rotate_left; focus (simp only [Act.put, List.setIfInBounds_toArray, List.set_cons_zero, List.set_cons_succ]; rfl)
              refine PlanGo.takeI (a' := ?_) (some 58) (.pointer (some ⟨B2, 0, none⟩)) (by kernel_rfl) (by kernel_rfl) (by kernel_rfl) (by kernel_rfl) (fun W hW => (by kernel_rfl)) ?_ ?_; rotate_left; focus (simp only [Act.put, List.setIfInBounds_toArray, List.set_cons_zero, List.set_cons_succ]; rfl)
              refine PlanGo.takeI (a' := ?_) (some 59) (.int .i64 3) (by kernel_rfl) (by kernel_rfl) (by kernel_rfl) (by kernel_rfl) (fun W hW => yl_int (x := .tmp 58) (by kernel_rfl) (by kernel_rfl) hW.1) ?_ ?_; rotate_left; focus (simp only [Act.put, List.setIfInBounds_toArray, List.set_cons_zero, List.set_cons_succ]; rfl)
              refine PlanGo.takeI (a' := ?_) (some 60) (.bool false) (by kernel_rfl) (by kernel_rfl) (by kernel_rfl) (by kernel_rfl) (fun W hW => (by kernel_rfl)) ?_ ?_; rotate_left; focus (simp only [Act.put, List.setIfInBounds_toArray, List.set_cons_zero, List.set_cons_succ]; rfl)
              refine PlanGo.takeI (a' := ?_) (some 61) (.bool false) (by kernel_rfl) (by kernel_rfl) (by kernel_rfl) (by kernel_rfl) (fun W hW => (by kernel_rfl)) ?_ ?_; rotate_left; focus (simp only [Act.put, List.setIfInBounds_toArray, List.set_cons_zero, List.set_cons_succ]; rfl)
              refine PlanGo.skipI (a' := ?_) (some 62) (by kernel_rfl) (by kernel_rfl) (by kernel_rfl) ?_ ?_; rotate_left; focus (simp only [Act.put, List.setIfInBounds_toArray, List.set_cons_zero, List.set_cons_succ]; rfl)
              refine PlanGo.skipI (a' := ?_) (some 64) (by kernel_rfl) (by kernel_rfl) (by kernel_rfl) ?_ ?_; rotate_left; focus (simp only [Act.put, List.setIfInBounds_toArray, List.set_cons_zero, List.set_cons_succ]; rfl)
              refine PlanGo.skipI (a' := ?_) (some 65) (by kernel_rfl) (by kernel_rfl) (by kernel_rfl) ?_ ?_; rotate_left; focus (simp only [Act.put, List.setIfInBounds_toArray, List.set_cons_zero, List.set_cons_succ]; rfl)
              refine PlanGo.skipI (a' := ?_) (some 63) (by kernel_rfl) (by kernel_rfl) (by kernel_rfl) ?_ ?_; rotate_left; focus (simp only [Act.put, List.setIfInBounds_toArray, List.set_cons_zero, List.set_cons_succ]; rfl)
              refine PlanGo.skipI (a' := ?_) (some 66) (by kernel_rfl) (by kernel_rfl) (by kernel_rfl) ?_ ?_; rotate_left; focus (simp only [Act.put, List.setIfInBounds_toArray, List.set_cons_zero, List.set_cons_succ]; rfl)
              refine PlanGo.takeI (a' := ?_) (some 67) (.bool false) (by kernel_rfl) (by kernel_rfl) (by kernel_rfl) (by kernel_rfl) (fun W hW => (by kernel_rfl)) ?_ ?_; rotate_left; focus (simp only [Act.put, List.setIfInBounds_toArray, List.set_cons_zero, List.set_cons_succ]; rfl)
              refine PlanGo.takeI (a' := ?_) (some 68) (.bool false) (by kernel_rfl) (by kernel_rfl) (by kernel_rfl) (by kernel_rfl) (fun W hW => (by kernel_rfl)) ?_ ?_; rotate_left; focus (simp only [Act.put, List.setIfInBounds_toArray, List.set_cons_zero, List.set_cons_succ]; rfl)
              refine PlanGo.takeI (a' := ?_) (some 69) (.bool false) (by kernel_rfl) (by kernel_rfl) (by kernel_rfl) (by kernel_rfl) (fun W hW => (by kernel_rfl)) ?_ ?_; rotate_left; focus (simp only [Act.put, List.setIfInBounds_toArray, List.set_cons_zero, List.set_cons_succ]; rfl)
              refine PlanGo.takeI (a' := ?_) (some 70) (.pointer (some ⟨B2, 0, none⟩)) (by kernel_rfl) (by kernel_rfl) (by kernel_rfl) (by kernel_rfl) (fun W hW => (by kernel_rfl)) ?_ ?_; rotate_left; focus (simp only [Act.put, List.setIfInBounds_toArray, List.set_cons_zero, List.set_cons_succ]; rfl)
              refine PlanGo.takeI (a' := ?_) (some 71) (.int .i64 3) (by kernel_rfl) (by kernel_rfl) (by kernel_rfl) (by kernel_rfl) (fun W hW => yl_int (x := .tmp 70) (by kernel_rfl) (by kernel_rfl) hW.1) ?_ ?_; rotate_left; focus (simp only [Act.put, List.setIfInBounds_toArray, List.set_cons_zero, List.set_cons_succ]; rfl)
              refine PlanGo.takeI (a' := ?_) (some 72) (.bool false) (by kernel_rfl) (by kernel_rfl) (by kernel_rfl) (by kernel_rfl) (fun W hW => (by kernel_rfl)) ?_ ?_; rotate_left; focus (simp only [Act.put, List.setIfInBounds_toArray, List.set_cons_zero, List.set_cons_succ]; rfl)
              refine PlanGo.takeI (a' := ?_) (some 73) (.bool false) (by kernel_rfl) (by kernel_rfl) (by kernel_rfl) (by kernel_rfl) (fun W hW => (by kernel_rfl)) ?_ ?_; rotate_left; focus (simp only [Act.put, List.setIfInBounds_toArray, List.set_cons_zero, List.set_cons_succ]; rfl)
              refine PlanGo.skipI (a' := ?_) (some 74) (by kernel_rfl) (by kernel_rfl) (by kernel_rfl) ?_ ?_; rotate_left; focus (simp only [Act.put, List.setIfInBounds_toArray, List.set_cons_zero, List.set_cons_succ]; rfl)
              refine PlanGo.skipI (a' := ?_) (some 76) (by kernel_rfl) (by kernel_rfl) (by kernel_rfl) ?_ ?_; rotate_left; focus (simp only [Act.put, List.setIfInBounds_toArray, List.set_cons_zero, List.set_cons_succ]; rfl)
              refine PlanGo.skipI (a' := ?_) (some 77) (by kernel_rfl) (by kernel_rfl) (by kernel_rfl) ?_ ?_; rotate_left; focus (simp only [Act.put, List.setIfInBounds_toArray, List.set_cons_zero, List.set_cons_succ]; rfl)
              refine PlanGo.skipI (a' := ?_) (some 75) (by kernel_rfl) (by kernel_rfl) (by kernel_rfl) ?_ ?_; rotate_left; focus (simp only [Act.put, List.setIfInBounds_toArray, List.set_cons_zero, List.set_cons_succ]; rfl)
              refine PlanGo.skipI (a' := ?_) (some 78) (by kernel_rfl) (by kernel_rfl) (by kernel_rfl) ?_ ?_; rotate_left; focus (simp only [Act.put, List.setIfInBounds_toArray, List.set_cons_zero, List.set_cons_succ]; rfl)
              refine PlanGo.takeI (a' := ?_) (some 79) (.bool false) (by kernel_rfl) (by kernel_rfl) (by kernel_rfl) (by kernel_rfl) (fun W hW => (by kernel_rfl)) ?_ ?_; rotate_left; focus (simp only [Act.put, List.setIfInBounds_toArray, List.set_cons_zero, List.set_cons_succ]; rfl)
              refine PlanGo.takeI (a' := ?_) (some 80) (.bool false) (by kernel_rfl) (by kernel_rfl) (by kernel_rfl) (by kernel_rfl) (fun W hW => (by kernel_rfl)) ?_ ?_; rotate_left; focus (simp only [Act.put, List.setIfInBounds_toArray, List.set_cons_zero, List.set_cons_succ]; rfl)
              refine PlanGo.takeI (a' := ?_) (some 81) (.bool false) (by kernel_rfl) (by kernel_rfl) (by kernel_rfl) (by kernel_rfl) (fun W hW => (by kernel_rfl)) ?_ ?_; rotate_left; focus (simp only [Act.put, List.setIfInBounds_toArray, List.set_cons_zero, List.set_cons_succ]; rfl)
              refine PlanGo.takeI (a' := ?_) (some 82) (.pointer (some ⟨B2, 0, none⟩)) (by kernel_rfl) (by kernel_rfl) (by kernel_rfl) (by kernel_rfl) (fun W hW => (by kernel_rfl)) ?_ ?_; rotate_left; focus (simp only [Act.put, List.setIfInBounds_toArray, List.set_cons_zero, List.set_cons_succ]; rfl)
              refine PlanGo.takeI (a' := ?_) (some 83) (.int .i64 3) (by kernel_rfl) (by kernel_rfl) (by kernel_rfl) (by kernel_rfl) (fun W hW => yl_int (x := .tmp 82) (by kernel_rfl) (by kernel_rfl) hW.1) ?_ ?_; rotate_left; focus (simp only [Act.put, List.setIfInBounds_toArray, List.set_cons_zero, List.set_cons_succ]; rfl)
              refine PlanGo.takeI (a' := ?_) (some 84) (.bool true) (by kernel_rfl) (by kernel_rfl) (by kernel_rfl) (by kernel_rfl) (fun W hW => (by kernel_rfl)) ?_ ?_; rotate_left; focus (simp only [Act.put, List.setIfInBounds_toArray, List.set_cons_zero, List.set_cons_succ]; rfl)
              refine PlanGo.takeI (a' := ?_) (some 85) (.bool true) (by kernel_rfl) (by kernel_rfl) (by kernel_rfl) (by kernel_rfl) (fun W hW => (by kernel_rfl)) ?_ ?_; rotate_left; focus (simp only [Act.put, List.setIfInBounds_toArray, List.set_cons_zero, List.set_cons_succ]; rfl)
              refine PlanGo.takeI (a' := ?_) (some 86) (.pointer (some ⟨B1, 0, none⟩)) (by kernel_rfl) (by kernel_rfl) (by kernel_rfl) (by kernel_rfl) (fun W hW => (by kernel_rfl)) ?_ ?_; rotate_left; focus (simp only [Act.put, List.setIfInBounds_toArray, List.set_cons_zero, List.set_cons_succ]; rfl)
              refine PlanGo.takeI (a' := ?_) (some 87) (.pointer (some ⟨B2, 4, none⟩)) (by kernel_rfl) (by kernel_rfl) (by kernel_rfl) (by kernel_rfl) (fun W hW => (by kernel_rfl)) ?_ ?_; rotate_left; focus (simp only [Act.put, List.setIfInBounds_toArray, List.set_cons_zero, List.set_cons_succ]; rfl)
              refine PlanGo.takeI (a' := ?_) (some 88) (.string S) (by kernel_rfl) (by kernel_rfl) (by kernel_rfl) (by kernel_rfl) (fun W hW => yl_str (x := .tmp 87) (by kernel_rfl) (by kernel_rfl) hW.2.2.2.2.1) ?_ ?_; rotate_left; focus (simp only [Act.put, List.setIfInBounds_toArray, List.set_cons_zero, List.set_cons_succ]; rfl)
              refine PlanGo.takeI (a' := ?_) (some 89) (.int .i64 S.size) (by kernel_rfl) (by kernel_rfl) (by kernel_rfl) (by kernel_rfl) (fun W hW => yc_str (x := .tmp 88) (m := S) (by kernel_rfl) (by kernel_rfl)) ?_ ?_; rotate_left; focus (simp only [Act.put, List.setIfInBounds_toArray, List.set_cons_zero, List.set_cons_succ]; rfl)
              refine PlanGo.takeI (a' := ?_) (some 91) (.pointer (some ⟨B2, 4, none⟩)) (by kernel_rfl) (by kernel_rfl) (by kernel_rfl) (by kernel_rfl) (fun W hW => (by kernel_rfl)) ?_ ?_; rotate_left; focus (simp only [Act.put, List.setIfInBounds_toArray, List.set_cons_zero, List.set_cons_succ]; rfl)
              refine PlanGo.takeI (a' := ?_) (some 92) (.string S) (by kernel_rfl) (by kernel_rfl) (by kernel_rfl) (by kernel_rfl) (fun W hW => yl_str (x := .tmp 91) (by kernel_rfl) (by kernel_rfl) hW.2.2.2.2.1) ?_ ?_; rotate_left; focus (simp only [Act.put, List.setIfInBounds_toArray, List.set_cons_zero, List.set_cons_succ]; rfl)
              refine PlanGo.callI (some 90) 20 #[(.pointer (some ⟨B1, 0, none⟩)), (.int .i64 S.size)] (by kernel_rfl) (by kernel_rfl) (by kernel_rfl) (by kernel_rfl) (fun W => by kernel_rfl) (HCT.out _ HPR.out) ?_
              rintro e w2 ⟨rfl, hR⟩
              have HA3 := keep (HA2.out.step HBW.out hR HBP.out)
              refine ⟨_, rfl, HSX.out _ w2 hR.2 HN2.out, ?_⟩
              clear hR
              refine PlanGo.eq (a' := ?_) ?_ ?_; rotate_left; focus (simp only [Act.put, List.setIfInBounds_toArray, List.set_cons_zero, List.set_cons_succ]; rfl)
              refine PlanGo.takeI (a' := ?_) (some 93) (.bool false) (by kernel_rfl) (by kernel_rfl) (by kernel_rfl) (by kernel_rfl) (fun W hW => yn_str (x := .tmp 90) (y := .tmp 92) (m := S) (by kernel_rfl) (by kernel_rfl) (by kernel_rfl)) ?_ ?_; rotate_left; focus (simp only [Act.put, List.setIfInBounds_toArray, List.set_cons_zero, List.set_cons_succ]; rfl)
              refine PlanGo.takeI (a' := ?_) (some 94) (.bool false) (by kernel_rfl) (by kernel_rfl) (by kernel_rfl) (by kernel_rfl) (fun W hW => (by kernel_rfl)) ?_ ?_; rotate_left; focus (simp only [Act.put, List.setIfInBounds_toArray, List.set_cons_zero, List.set_cons_succ]; rfl)
              refine PlanGo.takeI (a' := ?_) (some 95) (.bool false) (by kernel_rfl) (by kernel_rfl) (by kernel_rfl) (by kernel_rfl) (fun W hW => (by kernel_rfl)) ?_ ?_; rotate_left; focus (simp only [Act.put, List.setIfInBounds_toArray, List.set_cons_zero, List.set_cons_succ]; rfl)
              refine PlanGo.takeI (a' := ?_) (some 96) (.bool false) (by kernel_rfl) (by kernel_rfl) (by kernel_rfl) (by kernel_rfl) (fun W hW => (by kernel_rfl)) ?_ ?_; rotate_left; focus (simp only [Act.put, List.setIfInBounds_toArray, List.set_cons_zero, List.set_cons_succ]; rfl)
              refine PlanGo.takeI (a' := ?_) (some 97) (.pointer (some ⟨B2, 0, none⟩)) (by kernel_rfl) (by kernel_rfl) (by kernel_rfl) (by kernel_rfl) (fun W hW => (by kernel_rfl)) ?_ ?_; rotate_left; focus (simp only [Act.put, List.setIfInBounds_toArray, List.set_cons_zero, List.set_cons_succ]; rfl)
              refine PlanGo.takeI (a' := ?_) (some 98) (.int .i64 3) (by kernel_rfl) (by kernel_rfl) (by kernel_rfl) (by kernel_rfl) (fun W hW => yl_int (x := .tmp 97) (by kernel_rfl) (by kernel_rfl) hW.1) ?_ ?_; rotate_left; focus (simp only [Act.put, List.setIfInBounds_toArray, List.set_cons_zero, List.set_cons_succ]; rfl)
              refine PlanGo.takeI (a' := ?_) (some 99) (.bool false) (by kernel_rfl) (by kernel_rfl) (by kernel_rfl) (by kernel_rfl) (fun W hW => (by kernel_rfl)) ?_ ?_; rotate_left; focus (simp only [Act.put, List.setIfInBounds_toArray, List.set_cons_zero, List.set_cons_succ]; rfl)
              refine PlanGo.takeI (a' := ?_) (some 100) (.bool false) (by kernel_rfl) (by kernel_rfl) (by kernel_rfl) (by kernel_rfl) (fun W hW => (by kernel_rfl)) ?_ ?_; rotate_left; focus (simp only [Act.put, List.setIfInBounds_toArray, List.set_cons_zero, List.set_cons_succ]; rfl)
              refine PlanGo.skipI (a' := ?_) (some 101) (by kernel_rfl) (by kernel_rfl) (by kernel_rfl) ?_ ?_; rotate_left; focus (simp only [Act.put, List.setIfInBounds_toArray, List.set_cons_zero, List.set_cons_succ]; rfl)
              refine PlanGo.skipI (a' := ?_) (some 102) (by kernel_rfl) (by kernel_rfl) (by kernel_rfl) ?_ ?_; rotate_left; focus (simp only [Act.put, List.setIfInBounds_toArray, List.set_cons_zero, List.set_cons_succ]; rfl)
              refine PlanGo.skipI (a' := ?_) (some 103) (by kernel_rfl) (by kernel_rfl) (by kernel_rfl) ?_ ?_; rotate_left; focus (simp only [Act.put, List.setIfInBounds_toArray, List.set_cons_zero, List.set_cons_succ]; rfl)
              refine PlanGo.skipI (a' := ?_) (some 104) (by kernel_rfl) (by kernel_rfl) (by kernel_rfl) ?_ ?_; rotate_left; focus (simp only [Act.put, List.setIfInBounds_toArray, List.set_cons_zero, List.set_cons_succ]; rfl)
              refine PlanGo.skipI (a' := ?_) (some 106) (by kernel_rfl) (by kernel_rfl) (by kernel_rfl) ?_ ?_; rotate_left; focus (simp only [Act.put, List.setIfInBounds_toArray, List.set_cons_zero, List.set_cons_succ]; rfl)
              refine PlanGo.skipI (a' := ?_) (some 107) (by kernel_rfl) (by kernel_rfl) (by kernel_rfl) ?_ ?_; rotate_left; focus (simp only [Act.put, List.setIfInBounds_toArray, List.set_cons_zero, List.set_cons_succ]; rfl)
              refine PlanGo.skipI (a' := ?_) (some 105) (by kernel_rfl) (by kernel_rfl) (by kernel_rfl) ?_ ?_; rotate_left; focus (simp only [Act.put, List.setIfInBounds_toArray, List.set_cons_zero, List.set_cons_succ]; rfl)
              refine PlanGo.skipI (a' := ?_) (some 108) (by kernel_rfl) (by kernel_rfl) (by kernel_rfl) ?_ ?_; rotate_left; focus (simp only [Act.put, List.setIfInBounds_toArray, List.set_cons_zero, List.set_cons_succ]; rfl)
              refine PlanGo.takeI (a' := ?_) (some 109) (.bool false) (by kernel_rfl) (by kernel_rfl) (by kernel_rfl) (by kernel_rfl) (fun W hW => (by kernel_rfl)) ?_ ?_; rotate_left; focus (simp only [Act.put, List.setIfInBounds_toArray, List.set_cons_zero, List.set_cons_succ]; rfl)
              refine PlanGo.takeI (a' := ?_) (some 110) (.bool false) (by kernel_rfl) (by kernel_rfl) (by kernel_rfl) (by kernel_rfl) (fun W hW => (by kernel_rfl)) ?_ ?_; rotate_left; focus (simp only [Act.put, List.setIfInBounds_toArray, List.set_cons_zero, List.set_cons_succ]; rfl)
              refine PlanGo.takeI (a' := ?_) (some 111) (.bool false) (by kernel_rfl) (by kernel_rfl) (by kernel_rfl) (by kernel_rfl) (fun W hW => (by kernel_rfl)) ?_ ?_; rotate_left; focus (simp only [Act.put, List.setIfInBounds_toArray, List.set_cons_zero, List.set_cons_succ]; rfl)
              refine PlanGo.takeI (a' := ?_) (some 112) (.pointer (some ⟨B2, 0, none⟩)) (by kernel_rfl) (by kernel_rfl) (by kernel_rfl) (by kernel_rfl) (fun W hW => (by kernel_rfl)) ?_ ?_; rotate_left; focus (simp only [Act.put, List.setIfInBounds_toArray, List.set_cons_zero, List.set_cons_succ]; rfl)
              refine PlanGo.takeI (a' := ?_) (some 113) (.int .i64 3) (by kernel_rfl) (by kernel_rfl) (by kernel_rfl) (by kernel_rfl) (fun W hW => yl_int (x := .tmp 112) (by kernel_rfl) (by kernel_rfl) hW.1) ?_ ?_; rotate_left; focus (simp only [Act.put, List.setIfInBounds_toArray, List.set_cons_zero, List.set_cons_succ]; rfl)
              refine PlanGo.takeI (a' := ?_) (some 114) (.bool false) (by kernel_rfl) (by kernel_rfl) (by kernel_rfl) (by kernel_rfl) (fun W hW => (by kernel_rfl)) ?_ ?_; rotate_left; focus (simp only [Act.put, List.setIfInBounds_toArray, List.set_cons_zero, List.set_cons_succ]; rfl)
              refine PlanGo.takeI (a' := ?_) (some 115) (.bool false) (by kernel_rfl) (by kernel_rfl) (by kernel_rfl) (by kernel_rfl) (fun W hW => (by kernel_rfl)) ?_ ?_; rotate_left; focus (simp only [Act.put, List.setIfInBounds_toArray, List.set_cons_zero, List.set_cons_succ]; rfl)
              refine PlanGo.skipI (a' := ?_) (some 116) (by kernel_rfl) (by kernel_rfl) (by kernel_rfl) ?_ ?_; rotate_left; focus (simp only [Act.put, List.setIfInBounds_toArray, List.set_cons_zero, List.set_cons_succ]; rfl)
              refine PlanGo.skipI (a' := ?_) (some 117) (by kernel_rfl) (by kernel_rfl) (by kernel_rfl) ?_ ?_; rotate_left; focus (simp only [Act.put, List.setIfInBounds_toArray, List.set_cons_zero, List.set_cons_succ]; rfl)
              refine PlanGo.skipI (a' := ?_) (some 118) (by kernel_rfl) (by kernel_rfl) (by kernel_rfl) ?_ ?_; rotate_left; focus (simp only [Act.put, List.setIfInBounds_toArray, List.set_cons_zero, List.set_cons_succ]; rfl)
              refine PlanGo.skipI (a' := ?_) (some 119) (by kernel_rfl) (by kernel_rfl) (by kernel_rfl) ?_ ?_; rotate_left; focus (simp only [Act.put, List.setIfInBounds_toArray, List.set_cons_zero, List.set_cons_succ]; rfl)
              refine PlanGo.skipI (a' := ?_) (some 121) (by kernel_rfl) (by kernel_rfl) (by kernel_rfl) ?_ ?_; rotate_left; focus (simp only [Act.put, List.setIfInBounds_toArray, List.set_cons_zero, List.set_cons_succ]; rfl)
              refine PlanGo.skipI (a' := ?_) (some 122) (by kernel_rfl) (by kernel_rfl) (by kernel_rfl) ?_ ?_; rotate_left; focus (simp only [Act.put, List.setIfInBounds_toArray, List.set_cons_zero, List.set_cons_succ]; rfl)
              refine PlanGo.skipI (a' := ?_) (some 120) (by kernel_rfl) (by kernel_rfl) (by kernel_rfl) ?_ ?_; rotate_left; focus (simp only [Act.put, List.setIfInBounds_toArray, List.set_cons_zero, List.set_cons_succ]; rfl)
              refine PlanGo.skipI (a' := ?_) (some 123) (by kernel_rfl) (by kernel_rfl) (by kernel_rfl) ?_ ?_; rotate_left; focus (simp only [Act.put, List.setIfInBounds_toArray, List.set_cons_zero, List.set_cons_succ]; rfl)
              refine PlanGo.skipI (a' := ?_) (some 124) (by kernel_rfl) (by kernel_rfl) (by kernel_rfl) ?_ ?_; rotate_left; focus (simp only [Act.put, List.setIfInBounds_toArray, List.set_cons_zero, List.set_cons_succ]; rfl)
              refine PlanGo.takeI (a' := ?_) (some 125) (.bool false) (by kernel_rfl) (by kernel_rfl) (by kernel_rfl) (by kernel_rfl) (fun W hW => (by kernel_rfl)) ?_ ?_; rotate_left; focus (simp only [Act.put, List.setIfInBounds_toArray, List.set_cons_zero, List.set_cons_succ]; rfl)
              refine PlanGo.takeI (a' := ?_) (some 126) (.bool false) (by kernel_rfl) (by kernel_rfl) (by kernel_rfl) (by kernel_rfl) (fun W hW => (by kernel_rfl)) ?_ ?_; rotate_left; focus (simp only [Act.put, List.setIfInBounds_toArray, List.set_cons_zero, List.set_cons_succ]; rfl)
              refine PlanGo.done (hQ0.out _ _ ?_)
              clear hQ0 Q0
              go_wp2_with fail
              go_roundw
              case rel => exact ⟨j + 1, by go_num, by omega, by rw [HL2.out]; exact HA3⟩
              case measure => simp [intOf]; omega
            by_cases k4 : K = 4
            · subst k4
              have HCT : Keep (∀ W, PR (.pointer (some ⟨B1, 0, none⟩)) l0 0 W → Calls Try.prog 21 #[(.pointer (some ⟨B1, 0, none⟩)), .int .i64 S.size] W fun e w' => e = .returned (.string S) ∧ RdTo (.pointer (some ⟨B1, 0, none⟩)) (l2, 0) W w') := ⟨fun W h => by
                have hs := HSHJ.out.1
                have := raw_any _ S.size l0 0 W h (by omega) (by omega)
                rw [HREST.out, show partB ⟨4, U, N, Bl, S, .slice so L.length sc, L⟩ = S.data.toList from rfl, size_list, (back_raw S.data.toList l2).1, (back_raw S.data.toList l2).2, str_eta, ← size_list] at this
                exact this⟩
              go_wp2_with fail
              rw [← hB2]
              have HB2 := keep hB2
              clear hB2 c0 c1 c2 c3 c4 c5
              generalize hW1 : wr.alloc (.cells #[.int .i64 4, .int .u64 U, .int .i64 N, .bool Bl, .string S, .slice so L.length sc] 33) = W1 at *
              clear hW1
              refine PlanGo.regionQ (fun w' => w'.cell? ⟨B2, 0, none⟩ = some (.int .i64 4) ∧ w'.cell? ⟨B2, 1, none⟩ = some (.int .u64 U) ∧ w'.cell? ⟨B2, 2, none⟩ = some (.int .i64 N) ∧ w'.cell? ⟨B2, 3, none⟩ = some (.bool Bl) ∧ w'.cell? ⟨B2, 4, none⟩ = some (.string S) ∧ w'.cell? ⟨B2, 5, none⟩ = some (.slice so L.length sc)) [0, 1, 2, 3, 4, 6, 7, 5, 8, 9, 10, 11, 12, 13, 14, 15, 17, 18, 16, 19, 20, 21, 22, 23, 24, 25, 26, 27, 29, 30, 28, 31, 32, 33, 34, 35, 36, 37, 38, 39, 40, 41, 42, 44, 45, 43, 46, 47, 48, 49, 50, 51, 52, 53, 54, 55, 56, 57, 59, 60, 58, 61, 62, 63, 64, 65, 66, 67, 68, 69, 70, 71, 72, 74, 75, 73, 76, 77, 78, 79] (by kernel_rfl) (by kernel_rfl) (fun _ _ d _ _ h => by cases d <;> exact h) rfl (by kernel_rfl) (HSX.out (.pointer none) _ (Kept.refl _ _) (by simp [blk])) ?_
              intro Q0 hQ0 wd ewd
              subst ewd
              refine PlanGo.takeI (a' := ?_) (some 47) (.pointer (some ⟨B2, 0, none⟩)) (by kernel_rfl) (by kernel_rfl) (by kernel_rfl) (by kernel_rfl) (fun W hW => (by kernel_rfl)) ?_ ?_; rotate_left; focus (simp only [Act.put, List.setIfInBounds_toArray, List.set_cons_zero, List.set_cons_succ]; rfl)
              refine PlanGo.takeI (a' := ?_) (some 48) (.int .i64 4) (by kernel_rfl) (by kernel_rfl) (by kernel_rfl) (by kernel_rfl) (fun W hW => yl_int (x := .tmp 47) (by kernel_rfl) (by kernel_rfl) hW.1) ?_ ?_; rotate_left; focus (simp only [Act.put, List.setIfInBounds_toArray, List.set_cons_zero, List.set_cons_succ]; rfl)
              refine PlanGo.takeI (a' := ?_) (some 49) (.bool false) (by kernel_rfl) (by kernel_rfl) (by kernel_rfl) (by kernel_rfl) (fun W hW => (by kernel_rfl)) ?_ ?_; rotate_left; focus (simp only [Act.put, List.setIfInBounds_toArray, List.set_cons_zero, List.set_cons_succ]; rfl)
              refine PlanGo.takeI (a' := ?_) (some 50) (.bool false) (by kernel_rfl) (by kernel_rfl) (by kernel_rfl) (by kernel_rfl) (fun W hW => (by kernel_rfl)) ?_ ?_; rotate_left; focus (simp only [Act.put, List.setIfInBounds_toArray, List.set_cons_zero, List.set_cons_succ]; rfl)
              refine PlanGo.skipI (a' := ?_) (some 51) (by kernel_rfl) (by kernel_rfl) (by kernel_rfl) ?_ ?_; rotate_left; focus (simp only [Act.put, List.setIfInBounds_toArray, List.set_cons_zero, List.set_cons_succ]; rfl)
              refine PlanGo.skipI (a' := ?_) (some 53) (by kernel_rfl) (by kernel_rfl) (by kernel_rfl) ?_ ?_; rotate_left; focus (simp only [Act.put, List.setIfInBounds_toArray, List.set_cons_zero, List.set_cons_succ]; rfl)
              refine PlanGo.skipI (a' := ?_) (some 54) (by kernel_rfl) (by kernel_rfl) (by kernel_rfl) ?_ ?_; rotate_left; focus (simp only [Act.put, List.setIfInBounds_toArray, List.set_cons_zero, List.set_cons_succ]; rfl)
              refine PlanGo.skipI (a' := ?_) (some 52) (by kernel_rfl) (by kernel_rfl) (by kernel_rfl) ?_ ?_; rotate_left; focus (simp only [Act.put, List.setIfInBounds_toArray, List.set_cons_zero, List.set_cons_succ]; rfl)
              refine PlanGo.skipI (a' := ?_) (some 55) (by kernel_rfl) (by kernel_rfl) (by kernel_rfl) ?_ ?_; rotate_left; focus (simp only [Act.put, List.setIfInBounds_toArray, List.set_cons_zero, List.set_cons_succ]; rfl)
              refine PlanGo.takeI (a' := ?_) (some 56) (.bool false) (by kernel_rfl) (by kernel_rfl) (by kernel_rfl) (by kernel_rfl) (fun W hW => (by kernel_rfl)) ?_ ?_; rotate_left; focus (simp only [Act.put, List.setIfInBounds_toArray, List.set_cons_zero, List.set_cons_succ]; rfl)
              refine PlanGo.takeI (a' := ?_) (some 57) (.bool false) (by kernel_rfl) (by kernel_rfl) (by kernel_rfl) (by kernel_rfl) (fun W hW => (by kernel_rfl)) ?_ ?_; rotate_left; focus (simp only [Act.put, List.setIfInBounds_toArray, List.set_cons_zero, List.set_cons_succ]; rfl)
              refine PlanGo.takeI (a' := ?_) (some 58) (.pointer (some ⟨B2, 0, none⟩)) (by kernel_rfl) (by kernel_rfl) (by kernel_rfl) (by kernel_rfl) (fun W hW => (by kernel_rfl)) ?_ ?_; rotate_left; focus (simp only [Act.put, List.setIfInBounds_toArray, List.set_cons_zero, List.set_cons_succ]; rfl)
              refine PlanGo.takeI (a' := ?_) (some 59) (.int .i64 4) (by kernel_rfl) (by kernel_rfl) (by kernel_rfl) (by kernel_rfl) (fun W hW => yl_int (x := .tmp 58) (by kernel_rfl) (by kernel_rfl) hW.1) ?_ ?_; rotate_left; focus (simp only [Act.put, List.setIfInBounds_toArray, List.set_cons_zero, List.set_cons_succ]; rfl)
              refine PlanGo.takeI (a' := ?_) (some 60) (.bool false) (by kernel_rfl) (by kernel_rfl) (by kernel_rfl) (by kernel_rfl) (fun W hW => (by kernel_rfl)) ?_ ?_; rotate_left; focus (simp only [Act.put, List.setIfInBounds_toArray, List.set_cons_zero, List.set_cons_succ]; rfl)
              refine PlanGo.takeI (a' := ?_) (some 61) (.bool false) (by kernel_rfl) (by kernel_rfl) (by kernel_rfl) (by kernel_rfl) (fun W hW => (by kernel_rfl)) ?_ ?_; rotate_left; focus (simp only [Act.put, List.setIfInBounds_toArray, List.set_cons_zero, List.set_cons_succ]; rfl)
              refine PlanGo.skipI (a' := ?_) (some 62) (by kernel_rfl) (by kernel_rfl) (by kernel_rfl) ?_ ?_; rotate_left; focus (simp only [Act.put, List.setIfInBounds_toArray, List.set_cons_zero, List.set_cons_succ]; rfl)
              refine PlanGo.skipI (a' := ?_) (some 64) (by kernel_rfl) (by kernel_rfl) (by kernel_rfl) ?_ ?_; rotate_left; focus (simp only [Act.put, List.setIfInBounds_toArray, List.set_cons_zero, List.set_cons_succ]; rfl)
              refine PlanGo.skipI (a' := ?_) (some 65) (by kernel_rfl) (by kernel_rfl) (by kernel_rfl) ?_ ?_; rotate_left; focus (simp only [Act.put, List.setIfInBounds_toArray, List.set_cons_zero, List.set_cons_succ]; rfl)
              refine PlanGo.skipI (a' := ?_) (some 63) (by kernel_rfl) (by kernel_rfl) (by kernel_rfl) ?_ ?_; rotate_left; focus (simp only [Act.put, List.setIfInBounds_toArray, List.set_cons_zero, List.set_cons_succ]; rfl)
              refine PlanGo.skipI (a' := ?_) (some 66) (by kernel_rfl) (by kernel_rfl) (by kernel_rfl) ?_ ?_; rotate_left; focus (simp only [Act.put, List.setIfInBounds_toArray, List.set_cons_zero, List.set_cons_succ]; rfl)
              refine PlanGo.takeI (a' := ?_) (some 67) (.bool false) (by kernel_rfl) (by kernel_rfl) (by kernel_rfl) (by kernel_rfl) (fun W hW => (by kernel_rfl)) ?_ ?_; rotate_left; focus (simp only [Act.put, List.setIfInBounds_toArray, List.set_cons_zero, List.set_cons_succ]; rfl)
              refine PlanGo.takeI (a' := ?_) (some 68) (.bool false) (by kernel_rfl) (by kernel_rfl) (by kernel_rfl) (by kernel_rfl) (fun W hW => (by kernel_rfl)) ?_ ?_; rotate_left; focus (simp only [Act.put, List.setIfInBounds_toArray, List.set_cons_zero, List.set_cons_succ]; rfl)
              refine PlanGo.takeI (a' := ?_) (some 69) (.bool false) (by kernel_rfl) (by kernel_rfl) (by kernel_rfl) (by kernel_rfl) (fun W hW => (by kernel_rfl)) ?_ ?_; rotate_left; focus (simp only [Act.put, List.setIfInBounds_toArray, List.set_cons_zero, List.set_cons_succ]; rfl)
              refine PlanGo.takeI (a' := ?_) (some 70) (.pointer (some ⟨B2, 0, none⟩)) (by kernel_rfl) (by kernel_rfl) (by kernel_rfl) (by kernel_rfl) (fun W hW => (by kernel_rfl)) ?_ ?_; rotate_left; focus (simp only [Act.put, List.setIfInBounds_toArray, List.set_cons_zero, List.set_cons_succ]; rfl)
              refine PlanGo.takeI (a' := ?_) (some 71) (.int .i64 4) (by kernel_rfl) (by kernel_rfl) (by kernel_rfl) (by kernel_rfl) (fun W hW => yl_int (x := .tmp 70) (by kernel_rfl) (by kernel_rfl) hW.1) ?_ ?_; rotate_left; focus (simp only [Act.put, List.setIfInBounds_toArray, List.set_cons_zero, List.set_cons_succ]; rfl)
              refine PlanGo.takeI (a' := ?_) (some 72) (.bool false) (by kernel_rfl) (by kernel_rfl) (by kernel_rfl) (by kernel_rfl) (fun W hW => (by kernel_rfl)) ?_ ?_; rotate_left; focus (simp only [Act.put, List.setIfInBounds_toArray, List.set_cons_zero, List.set_cons_succ]; rfl)
              refine PlanGo.takeI (a' := ?_) (some 73) (.bool false) (by kernel_rfl) (by kernel_rfl) (by kernel_rfl) (by kernel_rfl) (fun W hW => (by kernel_rfl)) ?_ ?_; rotate_left; focus (simp only [Act.put, List.setIfInBounds_toArray, List.set_cons_zero, List.set_cons_succ]; rfl)
              refine PlanGo.skipI (a' := ?_) (some 74) (by kernel_rfl) (by kernel_rfl) (by kernel_rfl) ?_ ?_; rotate_left; focus (simp only [Act.put, List.setIfInBounds_toArray, List.set_cons_zero, List.set_cons_succ]; rfl)
              refine PlanGo.skipI (a' := ?_) (some 76) (by kernel_rfl) (by kernel_rfl) (by kernel_rfl) ?_ ?_; rotate_left; focus (simp only [Act.put, List.setIfInBounds_toArray, List.set_cons_zero, List.set_cons_succ]; rfl)
              refine PlanGo.skipI (a' := ?_) (some 77) (by kernel_rfl) (by kernel_rfl) (by kernel_rfl) ?_ ?_; rotate_left; focus (simp only [Act.put, List.setIfInBounds_toArray, List.set_cons_zero, List.set_cons_succ]; rfl)
              refine PlanGo.skipI (a' := ?_) (some 75) (by kernel_rfl) (by kernel_rfl) (by kernel_rfl) ?_ ?_; rotate_left; focus (simp only [Act.put, List.setIfInBounds_toArray, List.set_cons_zero, List.set_cons_succ]; rfl)
              refine PlanGo.skipI (a' := ?_) (some 78) (by kernel_rfl) (by kernel_rfl) (by kernel_rfl) ?_ ?_; rotate_left; focus (simp only [Act.put, List.setIfInBounds_toArray, List.set_cons_zero, List.set_cons_succ]; rfl)
              refine PlanGo.takeI (a' := ?_) (some 79) (.bool false) (by kernel_rfl) (by kernel_rfl) (by kernel_rfl) (by kernel_rfl) (fun W hW => (by kernel_rfl)) ?_ ?_; rotate_left; focus (simp only [Act.put, List.setIfInBounds_toArray, List.set_cons_zero, List.set_cons_succ]; rfl)
              refine PlanGo.takeI (a' := ?_) (some 80) (.bool false) (by kernel_rfl) (by kernel_rfl) (by kernel_rfl) (by kernel_rfl) (fun W hW => (by kernel_rfl)) ?_ ?_; rotate_left; focus (simp only [Act.put, List.setIfInBounds_toArray, List.set_cons_zero, List.set_cons_succ]; rfl)
              refine PlanGo.takeI (a' := ?_) (some 81) (.bool false) (by kernel_rfl) (by kernel_rfl) (by kernel_rfl) (by kernel_rfl) (fun W hW => (by kernel_rfl)) ?_ ?_; rotate_left; focus (simp only [Act.put, List.setIfInBounds_toArray, List.set_cons_zero, List.set_cons_succ]; rfl)
              refine PlanGo.takeI (a' := ?_) (some 82) (.pointer (some ⟨B2, 0, none⟩)) (by kernel_rfl) (by kernel_rfl) (by kernel_rfl) (by kernel_rfl) (fun W hW => (by kernel_rfl)) ?_ ?_; rotate_left; focus (simp only [Act.put, List.setIfInBounds_toArray, List.set_cons_zero, List.set_cons_succ]; rfl)
              refine PlanGo.takeI (a' := ?_) (some 83) (.int .i64 4) (by kernel_rfl) (by kernel_rfl) (by kernel_rfl) (by kernel_rfl) (fun W hW => yl_int (x := .tmp 82) (by kernel_rfl) (by kernel_rfl) hW.1) ?_ ?_; rotate_left; focus (simp only [Act.put, List.setIfInBounds_toArray, List.set_cons_zero, List.set_cons_succ]; rfl)
              refine PlanGo.takeI (a' := ?_) (some 84) (.bool false) (by kernel_rfl) (by kernel_rfl) (by kernel_rfl) (by kernel_rfl) (fun W hW => (by kernel_rfl)) ?_ ?_; rotate_left; focus (simp only [Act.put, List.setIfInBounds_toArray, List.set_cons_zero, List.set_cons_succ]; rfl)
              refine PlanGo.takeI (a' := ?_) (some 85) (.bool false) (by kernel_rfl) (by kernel_rfl) (by kernel_rfl) (by kernel_rfl) (fun W hW => (by kernel_rfl)) ?_ ?_; rotate_left; focus (simp only [Act.put, List.setIfInBounds_toArray, List.set_cons_zero, List.set_cons_succ]; rfl)
              refine PlanGo.skipI (a' := ?_) (some 86) (by kernel_rfl) (by kernel_rfl) (by kernel_rfl) ?_ ?_; rotate_left; focus (simp only [Act.put, List.setIfInBounds_toArray, List.set_cons_zero, List.set_cons_succ]; rfl)
              refine PlanGo.skipI (a' := ?_) (some 87) (by kernel_rfl) (by kernel_rfl) (by kernel_rfl) ?_ ?_; rotate_left; focus (simp only [Act.put, List.setIfInBounds_toArray, List.set_cons_zero, List.set_cons_succ]; rfl)
              refine PlanGo.skipI (a' := ?_) (some 88) (by kernel_rfl) (by kernel_rfl) (by kernel_rfl) ?_ ?_; rotate_left; focus (simp only [Act.put, List.setIfInBounds_toArray, List.set_cons_zero, List.set_cons_succ]; rfl)
              refine PlanGo.skipI (a' := ?_) (some 89) (by kernel_rfl) (by kernel_rfl) (by kernel_rfl) ?_ ?_; rotate_left; focus (simp only [Act.put, List.setIfInBounds_toArray, List.set_cons_zero, List.set_cons_succ]; rfl)
              refine PlanGo.skipI (a' := ?_) (some 91) (by kernel_rfl) (by kernel_rfl) (by kernel_rfl) ?_ ?_; rotate_left; focus (simp only [Act.put, List.setIfInBounds_toArray, List.set_cons_zero, List.set_cons_succ]; rfl)
              refine PlanGo.skipI (a' := ?_) (some 92) (by kernel_rfl) (by kernel_rfl) (by kernel_rfl) ?_ ?_; rotate_left; focus (simp only [Act.put, List.setIfInBounds_toArray, List.set_cons_zero, List.set_cons_succ]; rfl)
              refine PlanGo.skipI (a' := ?_) (some 90) (by kernel_rfl) (by kernel_rfl) (by kernel_rfl) ?_ ?_; rotate_left; focus (simp only [Act.put, List.setIfInBounds_toArray, List.set_cons_zero, List.set_cons_succ]; rfl)
              refine PlanGo.skipI (a' := ?_) (some 93) (by kernel_rfl) (by kernel_rfl) (by kernel_rfl) ?_ ?_; rotate_left; focus (simp only [Act.put, List.setIfInBounds_toArray, List.set_cons_zero, List.set_cons_succ]; rfl)
              refine PlanGo.takeI (a' := ?_) (some 94) (.bool false) (by kernel_rfl) (by kernel_rfl) (by kernel_rfl) (by kernel_rfl) (fun W hW => (by kernel_rfl)) ?_ ?_; rotate_left; focus (simp only [Act.put, List.setIfInBounds_toArray, List.set_cons_zero, List.set_cons_succ]; rfl)
              refine PlanGo.takeI (a' := ?_) (some 95) (.bool false) (by kernel_rfl) (by kernel_rfl) (by kernel_rfl) (by kernel_rfl) (fun W hW => (by kernel_rfl)) ?_ ?_; rotate_left; focus (simp only [Act.put, List.setIfInBounds_toArray, List.set_cons_zero, List.set_cons_succ]; rfl)
              refine PlanGo.takeI (a' := ?_) (some 96) (.bool false) (by kernel_rfl) (by kernel_rfl) (by kernel_rfl) (by kernel_rfl) (fun W hW => (by kernel_rfl)) ?_ ?_; rotate_left; focus (simp only [Act.put, List.setIfInBounds_toArray, List.set_cons_zero, List.set_cons_succ]; rfl)
              refine PlanGo.takeI (a' := ?_) (some 97) (.pointer (some ⟨B2, 0, none⟩)) (by kernel_rfl) (by kernel_rfl) (by kernel_rfl) (by kernel_rfl) (fun W hW => (by kernel_rfl)) ?_ ?_; rotate_left; focus (simp only [Act.put, List.setIfInBounds_toArray, List.set_cons_zero, List.set_cons_succ]; rfl)
              refine PlanGo.takeI (a' := ?_) (some 98) (.int .i64 4) (by kernel_rfl) (by kernel_rfl) (by kernel_rfl) (by kernel_rfl) (fun W hW => yl_int (x := .tmp 97) (by kernel_rfl) (by kernel_rfl) hW.1) ?_ ?_; rotate_left; focus (simp only [Act.put, List.setIfInBounds_toArray, List.set_cons_zero, List.set_cons_succ]; rfl)
              refine PlanGo.takeI (a' := ?_) (some 99) (.bool true) (by kernel_rfl) (by kernel_rfl) (by kernel_rfl) (by kernel_rfl) (fun W hW => (by kernel_rfl)) ?_ ?_; rotate_left; focus (simp only [Act.put, List.setIfInBounds_toArray, List.set_cons_zero, List.set_cons_succ]; rfl)
              refine PlanGo.takeI (a' := ?_) (some 100) (.bool true) (by kernel_rfl) (by kernel_rfl) (by kernel_rfl) (by kernel_rfl) (fun W hW => (by kernel_rfl)) ?_ ?_; rotate_left; focus (simp only [Act.put, List.setIfInBounds_toArray, List.set_cons_zero, List.set_cons_succ]; rfl)
              refine PlanGo.takeI (a' := ?_) (some 101) (.pointer (some ⟨B1, 0, none⟩)) (by kernel_rfl) (by kernel_rfl) (by kernel_rfl) (by kernel_rfl) (fun W hW => (by kernel_rfl)) ?_ ?_; rotate_left; focus (simp only [Act.put, List.setIfInBounds_toArray, List.set_cons_zero, List.set_cons_succ]; rfl)
              refine PlanGo.takeI (a' := ?_) (some 102) (.pointer (some ⟨B2, 4, none⟩)) (by kernel_rfl) (by kernel_rfl) (by kernel_rfl) (by kernel_rfl) (fun W hW => (by kernel_rfl)) ?_ ?_; rotate_left; focus (simp only [Act.put, List.setIfInBounds_toArray, List.set_cons_zero, List.set_cons_succ]; rfl)
              refine PlanGo.takeI (a' := ?_) (some 103) (.string S) (by kernel_rfl) (by kernel_rfl) (by kernel_rfl) (by kernel_rfl) (fun W hW => yl_str (x := .tmp 102) (by kernel_rfl) (by kernel_rfl) hW.2.2.2.2.1) ?_ ?_; rotate_left; focus (simp only [Act.put, List.setIfInBounds_toArray, List.set_cons_zero, List.set_cons_succ]; rfl)
              refine PlanGo.takeI (a' := ?_) (some 104) (.int .i64 S.size) (by kernel_rfl) (by kernel_rfl) (by kernel_rfl) (by kernel_rfl) (fun W hW => yc_str (x := .tmp 103) (m := S) (by kernel_rfl) (by kernel_rfl)) ?_ ?_; rotate_left; focus (simp only [Act.put, List.setIfInBounds_toArray, List.set_cons_zero, List.set_cons_succ]; rfl)
              refine PlanGo.takeI (a' := ?_) (some 106) (.pointer (some ⟨B2, 4, none⟩)) (by kernel_rfl) (by kernel_rfl) (by kernel_rfl) (by kernel_rfl) (fun W hW => (by kernel_rfl)) ?_ ?_; rotate_left; focus (simp only [Act.put, List.setIfInBounds_toArray, List.set_cons_zero, List.set_cons_succ]; rfl)
              refine PlanGo.takeI (a' := ?_) (some 107) (.string S) (by kernel_rfl) (by kernel_rfl) (by kernel_rfl) (by kernel_rfl) (fun W hW => yl_str (x := .tmp 106) (by kernel_rfl) (by kernel_rfl) hW.2.2.2.2.1) ?_ ?_; rotate_left; focus (simp only [Act.put, List.setIfInBounds_toArray, List.set_cons_zero, List.set_cons_succ]; rfl)
              refine PlanGo.callI (some 105) 21 #[(.pointer (some ⟨B1, 0, none⟩)), (.int .i64 S.size)] (by kernel_rfl) (by kernel_rfl) (by kernel_rfl) (by kernel_rfl) (fun W => by kernel_rfl) (HCT.out _ HPR.out) ?_
              rintro e w2 ⟨rfl, hR⟩
              have HA3 := keep (HA2.out.step HBW.out hR HBP.out)
              refine ⟨_, rfl, HSX.out _ w2 hR.2 HN2.out, ?_⟩
              clear hR
              refine PlanGo.eq (a' := ?_) ?_ ?_; rotate_left; focus (simp only [Act.put, List.setIfInBounds_toArray, List.set_cons_zero, List.set_cons_succ]; rfl)
              refine PlanGo.takeI (a' := ?_) (some 108) (.bool false) (by kernel_rfl) (by kernel_rfl) (by kernel_rfl) (by kernel_rfl) (fun W hW => yn_str (x := .tmp 105) (y := .tmp 107) (m := S) (by kernel_rfl) (by kernel_rfl) (by kernel_rfl)) ?_ ?_; rotate_left; focus (simp only [Act.put, List.setIfInBounds_toArray, List.set_cons_zero, List.set_cons_succ]; rfl)
              refine PlanGo.takeI (a' := ?_) (some 109) (.bool false) (by kernel_rfl) (by kernel_rfl) (by kernel_rfl) (by kernel_rfl) (fun W hW => (by kernel_rfl)) ?_ ?_; rotate_left; focus (simp only [Act.put, List.setIfInBounds_toArray, List.set_cons_zero, List.set_cons_succ]; rfl)
              refine PlanGo.takeI (a' := ?_) (some 110) (.bool false) (by kernel_rfl) (by kernel_rfl) (by kernel_rfl) (by kernel_rfl) (fun W hW => (by kernel_rfl)) ?_ ?_; rotate_left; focus (simp only [Act.put, List.setIfInBounds_toArray, List.set_cons_zero, List.set_cons_succ]; rfl)
              refine PlanGo.takeI (a' := ?_) (some 111) (.bool false) (by kernel_rfl) (by kernel_rfl) (by kernel_rfl) (by kernel_rfl) (fun W hW => (by kernel_rfl)) ?_ ?_; rotate_left; focus (simp only [Act.put, List.setIfInBounds_toArray, List.set_cons_zero, List.set_cons_succ]; rfl)
              refine PlanGo.takeI (a' := ?_) (some 112) (.pointer (some ⟨B2, 0, none⟩)) (by kernel_rfl) (by kernel_rfl) (by kernel_rfl) (by kernel_rfl) (fun W hW => (by kernel_rfl)) ?_ ?_; rotate_left; focus (simp only [Act.put, List.setIfInBounds_toArray, List.set_cons_zero, List.set_cons_succ]; rfl)
              refine PlanGo.takeI (a' := ?_) (some 113) (.int .i64 4) (by kernel_rfl) (by kernel_rfl) (by kernel_rfl) (by kernel_rfl) (fun W hW => yl_int (x := .tmp 112) (by kernel_rfl) (by kernel_rfl) hW.1) ?_ ?_; rotate_left; focus (simp only [Act.put, List.setIfInBounds_toArray, List.set_cons_zero, List.set_cons_succ]; rfl)
              refine PlanGo.takeI (a' := ?_) (some 114) (.bool false) (by kernel_rfl) (by kernel_rfl) (by kernel_rfl) (by kernel_rfl) (fun W hW => (by kernel_rfl)) ?_ ?_; rotate_left; focus (simp only [Act.put, List.setIfInBounds_toArray, List.set_cons_zero, List.set_cons_succ]; rfl)
              refine PlanGo.takeI (a' := ?_) (some 115) (.bool false) (by kernel_rfl) (by kernel_rfl) (by kernel_rfl) (by kernel_rfl) (fun W hW => (by kernel_rfl)) ?_ ?_; rotate_left; focus (simp only [Act.put, List.setIfInBounds_toArray, List.set_cons_zero, List.set_cons_succ]; rfl)
              refine PlanGo.skipI (a' := ?_) (some 116) (by kernel_rfl) (by kernel_rfl) (by kernel_rfl) ?_ ?_; rotate_left; focus (simp only [Act.put, List.setIfInBounds_toArray, List.set_cons_zero, List.set_cons_succ]; rfl)
              refine PlanGo.skipI (a' := ?_) (some 117) (by kernel_rfl) (by kernel_rfl) (by kernel_rfl) ?_ ?_; rotate_left; focus (simp only [Act.put, List.setIfInBounds_toArray, List.set_cons_zero, List.set_cons_succ]; rfl)
              refine PlanGo.skipI (a' := ?_) (some 118) (by kernel_rfl) (by kernel_rfl) (by kernel_rfl) ?_ ?_; rotate_left; focus (simp only [Act.put, List.setIfInBounds_toArray, List.set_cons_zero, List.set_cons_succ]; rfl)
              refine PlanGo.skipI (a' := ?_) (some 119) (by kernel_rfl) (by kernel_rfl) (by kernel_rfl) ?_ ?_; rotate_left; focus (simp only [Act.put, List.setIfInBounds_toArray, List.set_cons_zero, List.set_cons_succ]; rfl)
              refine PlanGo.skipI (a' := ?_) (some 121) (by kernel_rfl) (by kernel_rfl) (by kernel_rfl) ?_ ?_; rotate_left; focus (simp only [Act.put, List.setIfInBounds_toArray, List.set_cons_zero, List.set_cons_succ]; rfl)
              refine PlanGo.skipI (a' := ?_) (some 122) (by kernel_rfl) (by kernel_rfl) (by kernel_rfl) ?_ ?_; rotate_left; focus (simp only [Act.put, List.setIfInBounds_toArray, List.set_cons_zero, List.set_cons_succ]; rfl)
              refine PlanGo.skipI (a' := ?_) (some 120) (by kernel_rfl) (by kernel_rfl) (by kernel_rfl) ?_ ?_; rotate_left; focus (simp only [Act.put, List.setIfInBounds_toArray, List.set_cons_zero, List.set_cons_succ]; rfl)
              refine PlanGo.skipI (a' := ?_) (some 123) (by kernel_rfl) (by kernel_rfl) (by kernel_rfl) ?_ ?_; rotate_left; focus (simp only [Act.put, List.setIfInBounds_toArray, List.set_cons_zero, List.set_cons_succ]; rfl)
              refine PlanGo.skipI (a' := ?_) (some 124) (by kernel_rfl) (by kernel_rfl) (by kernel_rfl) ?_ ?_; rotate_left; focus (simp only [Act.put, List.setIfInBounds_toArray, List.set_cons_zero, List.set_cons_succ]; rfl)
              refine PlanGo.takeI (a' := ?_) (some 125) (.bool false) (by kernel_rfl) (by kernel_rfl) (by kernel_rfl) (by kernel_rfl) (fun W hW => (by kernel_rfl)) ?_ ?_; rotate_left; focus (simp only [Act.put, List.setIfInBounds_toArray, List.set_cons_zero, List.set_cons_succ]; rfl)
              refine PlanGo.takeI (a' := ?_) (some 126) (.bool false) (by kernel_rfl) (by kernel_rfl) (by kernel_rfl) (by kernel_rfl) (fun W hW => (by kernel_rfl)) ?_ ?_; rotate_left; focus (simp only [Act.put, List.setIfInBounds_toArray, List.set_cons_zero, List.set_cons_succ]; rfl)
              refine PlanGo.done (hQ0.out _ _ ?_)
              clear hQ0 Q0
              go_wp2_with fail
              go_roundw
              case rel => exact ⟨j + 1, by go_num, by omega, by rw [HL2.out]; exact HA3⟩
              case measure => simp [intOf]; omega
            by_cases k5 : K = 5
            · subst k5
              have HCT : Keep (∀ W, PR (.pointer (some ⟨B1, 0, none⟩)) l0 0 W → Calls Try.prog 23 #[(.pointer (some ⟨B1, 0, none⟩)), .int .i64 L.length] W (IntsTo (.pointer (some ⟨B1, 0, none⟩)) L (l2, 0) W)) := ⟨fun W h => by
                have hs := HSHJ.out.2
                have := ints_any _ L.length l0 0 W h (by omega) (by omega)
                rw [HREST.out, show partB ⟨5, U, N, Bl, S, .slice so L.length sc, L⟩ = intsB L from rfl, (back_ints (xs := L) (by omega) l2 HOK.out.ls).1, (back_ints (xs := L) (by omega) l2 HOK.out.ls).2] at this
                exact this⟩
              have HROW : Keep (IntRow w.heap.size wr (.slice so L.length sc) L) := ⟨HOK.out.l⟩
              go_wp2_with fail
              rw [← hB2]
              have HB2 := keep hB2
              clear hB2 c0 c1 c2 c3 c4 c5
              generalize hW1 : wr.alloc (.cells #[.int .i64 5, .int .u64 U, .int .i64 N, .bool Bl, .string S, .slice so L.length sc] 33) = W1 at *
              clear hW1
              refine PlanGo.regionQ (fun w' => w'.cell? ⟨B2, 0, none⟩ = some (.int .i64 5) ∧ w'.cell? ⟨B2, 1, none⟩ = some (.int .u64 U) ∧ w'.cell? ⟨B2, 2, none⟩ = some (.int .i64 N) ∧ w'.cell? ⟨B2, 3, none⟩ = some (.bool Bl) ∧ w'.cell? ⟨B2, 4, none⟩ = some (.string S) ∧ w'.cell? ⟨B2, 5, none⟩ = some (.slice so L.length sc)) [0, 1, 2, 3, 4, 6, 7, 5, 8, 9, 10, 11, 12, 13, 14, 15, 17, 18, 16, 19, 20, 21, 22, 23, 24, 25, 26, 27, 29, 30, 28, 31, 32, 33, 34, 35, 36, 37, 38, 39, 40, 41, 42, 44, 45, 43, 46, 47, 48, 49, 50, 51, 52, 53, 54, 55, 56, 57, 59, 60, 58, 61, 62, 63, 64, 65, 66, 67, 68, 69, 70, 71, 72, 74, 75, 73, 76, 77, 78, 79] (by kernel_rfl) (by kernel_rfl) (fun _ _ d _ _ h => by cases d <;> exact h) rfl (by kernel_rfl) (HSX.out (.pointer none) _ (Kept.refl _ _) (by simp [blk])) ?_
              intro Q0 hQ0 wd ewd
              subst ewd
              refine PlanGo.takeI (a' := ?_) (some 47) (.pointer (some ⟨B2, 0, none⟩)) (by kernel_rfl) (by kernel_rfl) (by kernel_rfl) (by kernel_rfl) (fun W hW => (by kernel_rfl)) ?_ ?_; rotate_left; focus (simp only [Act.put, List.setIfInBounds_toArray, List.set_cons_zero, List.set_cons_succ]; rfl)
              refine PlanGo.takeI (a' := ?_) (some 48) (.int .i64 5) (by kernel_rfl) (by kernel_rfl) (by kernel_rfl) (by kernel_rfl) (fun W hW => yl_int (x := .tmp 47) (by kernel_rfl) (by kernel_rfl) hW.1) ?_ ?_; rotate_left; focus (simp only [Act.put, List.setIfInBounds_toArray, List.set_cons_zero, List.set_cons_succ]; rfl)
              refine PlanGo.takeI (a' := ?_) (some 49) (.bool false) (by kernel_rfl) (by kernel_rfl) (by kernel_rfl) (by kernel_rfl) (fun W hW => (by kernel_rfl)) ?_ ?_; rotate_left; focus (simp only [Act.put, List.setIfInBounds_toArray, List.set_cons_zero, List.set_cons_succ]; rfl)
              refine PlanGo.takeI (a' := ?_) (some 50) (.bool false) (by kernel_rfl) (by kernel_rfl) (by kernel_rfl) (by kernel_rfl) (fun W hW => (by kernel_rfl)) ?_ ?_; rotate_left; focus (simp only [Act.put, List.setIfInBounds_toArray, List.set_cons_zero, List.set_cons_succ]; rfl)
              refine PlanGo.skipI (a' := ?_) (some 51) (by kernel_rfl) (by kernel_rfl) (by kernel_rfl) ?_ ?_; rotate_left; focus (simp only [Act.put, List.setIfInBounds_toArray, List.set_cons_zero, List.set_cons_succ]; rfl)
              refine PlanGo.skipI (a' := ?_) (some 53) (by kernel_rfl) (by kernel_rfl) (by kernel_rfl) ?_ ?_; rotate_left; focus (simp only [Act.put, List.setIfInBounds_toArray, List.set_cons_zero, List.set_cons_succ]; rfl)
              refine PlanGo.skipI (a' := ?_) (some 54) (by kernel_rfl) (by kernel_rfl) (by kernel_rfl) ?_ ?_; rotate_left; focus (simp only [Act.put, List.setIfInBounds_toArray, List.set_cons_zero, List.set_cons_succ]; rfl)
              refine PlanGo.skipI (a' := ?_) (some 52) (by kernel_rfl) (by kernel_rfl) (by kernel_rfl) ?_ ?_; rotate_left; focus (simp only [Act.put, List.setIfInBounds_toArray, List.set_cons_zero, List.set_cons_succ]; rfl)
              refine PlanGo.skipI (a' := ?_) (some 55) (by kernel_rfl) (by kernel_rfl) (by kernel_rfl) ?_ ?_; rotate_left; focus (simp only [Act.put, List.setIfInBounds_toArray, List.set_cons_zero, List.set_cons_succ]; rfl)
              refine PlanGo.takeI (a' := ?_) (some 56) (.bool false) (by kernel_rfl) (by kernel_rfl) (by kernel_rfl) (by kernel_rfl) (fun W hW => (by kernel_rfl)) ?_ ?_; rotate_left; focus (simp only [Act.put, List.setIfInBounds_toArray, List.set_cons_zero, List.set_cons_succ]; rfl)
              refine PlanGo.takeI (a' := ?_) (some 57) (.bool false) (by kernel_rfl) (by kernel_rfl) (by kernel_rfl) (by kernel_rfl) (fun W hW => (by kernel_rfl)) ?_ ?_; rotate_left; focus (simp only [Act.put, List.setIfInBounds_toArray, List.set_cons_zero, List.set_cons_succ]; rfl)
              refine PlanGo.takeI (a' := ?_) (some 58) (.pointer (some ⟨B2, 0, none⟩)) (by kernel_rfl) (by kernel_rfl) (by kernel_rfl) (by kernel_rfl) (fun W hW => (by kernel_rfl)) ?_ ?_; rotate_left; focus (simp only [Act.put, List.setIfInBounds_toArray, List.set_cons_zero, List.set_cons_succ]; rfl)
              refine PlanGo.takeI (a' := ?_) (some 59) (.int .i64 5) (by kernel_rfl) (by kernel_rfl) (by kernel_rfl) (by kernel_rfl) (fun W hW => yl_int (x := .tmp 58) (by kernel_rfl) (by kernel_rfl) hW.1) ?_ ?_; rotate_left; focus (simp only [Act.put, List.setIfInBounds_toArray, List.set_cons_zero, List.set_cons_succ]; rfl)
              refine PlanGo.takeI (a' := ?_) (some 60) (.bool false) (by kernel_rfl) (by kernel_rfl) (by kernel_rfl) (by kernel_rfl) (fun W hW => (by kernel_rfl)) ?_ ?_; rotate_left; focus (simp only [Act.put, List.setIfInBounds_toArray, List.set_cons_zero, List.set_cons_succ]; rfl)
              refine PlanGo.takeI (a' := ?_) (some 61) (.bool false) (by kernel_rfl) (by kernel_rfl) (by kernel_rfl) (by kernel_rfl) (fun W hW => (by kernel_rfl)) ?_ ?_; rotate_left; focus (simp only [Act.put, List.setIfInBounds_toArray, List.set_cons_zero, List.set_cons_succ]; rfl)
              refine PlanGo.skipI (a' := ?_) (some 62) (by kernel_rfl) (by kernel_rfl) (by kernel_rfl) ?_ ?_; rotate_left; focus (simp only [Act.put, List.setIfInBounds_toArray, List.set_cons_zero, List.set_cons_succ]; rfl)
              refine PlanGo.skipI (a' := ?_) (some 64) (by kernel_rfl) (by kernel_rfl) (by kernel_rfl) ?_ ?_; rotate_left; focus (simp only [Act.put, List.setIfInBounds_toArray, List.set_cons_zero, List.set_cons_succ]; rfl)
              refine PlanGo.skipI (a' := ?_) (some 65) (by kernel_rfl) (by kernel_rfl) (by kernel_rfl) ?_ ?_; rotate_left; focus (simp only [Act.put, List.setIfInBounds_toArray, List.set_cons_zero, List.set_cons_succ]; rfl)
              refine PlanGo.skipI (a' := ?_) (some 63) (by kernel_rfl) (by kernel_rfl) (by kernel_rfl) ?_ ?_; rotate_left; focus (simp only [Act.put, List.setIfInBounds_toArray, List.set_cons_zero, List.set_cons_succ]; rfl)
              refine PlanGo.skipI (a' := ?_) (some 66) (by kernel_rfl) (by kernel_rfl) (by kernel_rfl) ?_ ?_; rotate_left; focus (simp only [Act.put, List.setIfInBounds_toArray, List.set_cons_zero, List.set_cons_succ]; rfl)
              refine PlanGo.takeI (a' := ?_) (some 67) (.bool false) (by kernel_rfl) (by kernel_rfl) (by kernel_rfl) (by kernel_rfl) (fun W hW => (by kernel_rfl)) ?_ ?_; rotate_left; focus (simp only [Act.put, List.setIfInBounds_toArray, List.set_cons_zero, List.set_cons_succ]; rfl)
              refine PlanGo.takeI (a' := ?_) (some 68) (.bool false) (by kernel_rfl) (by kernel_rfl) (by kernel_rfl) (by kernel_rfl) (fun W hW => (by kernel_rfl)) ?_ ?_; rotate_left; focus (simp only [Act.put, List.setIfInBounds_toArray, List.set_cons_zero, List.set_cons_succ]; rfl)
              refine PlanGo.takeI (a' := ?_) (some 69) (.bool false) (by kernel_rfl) (by kernel_rfl) (by kernel_rfl) (by kernel_rfl) (fun W hW => (by kernel_rfl)) ?_ ?_; rotate_left; focus (simp only [Act.put, List.setIfInBounds_toArray, List.set_cons_zero, List.set_cons_succ]; rfl)
              refine PlanGo.takeI (a' := ?_) (some 70) (.pointer (some ⟨B2, 0, none⟩)) (by kernel_rfl) (by kernel_rfl) (by kernel_rfl) (by kernel_rfl) (fun W hW => (by kernel_rfl)) ?_ ?_; rotate_left; focus (simp only [Act.put, List.setIfInBounds_toArray, List.set_cons_zero, List.set_cons_succ]; rfl)
              refine PlanGo.takeI (a' := ?_) (some 71) (.int .i64 5) (by kernel_rfl) (by kernel_rfl) (by kernel_rfl) (by kernel_rfl) (fun W hW => yl_int (x := .tmp 70) (by kernel_rfl) (by kernel_rfl) hW.1) ?_ ?_; rotate_left; focus (simp only [Act.put, List.setIfInBounds_toArray, List.set_cons_zero, List.set_cons_succ]; rfl)
              refine PlanGo.takeI (a' := ?_) (some 72) (.bool false) (by kernel_rfl) (by kernel_rfl) (by kernel_rfl) (by kernel_rfl) (fun W hW => (by kernel_rfl)) ?_ ?_; rotate_left; focus (simp only [Act.put, List.setIfInBounds_toArray, List.set_cons_zero, List.set_cons_succ]; rfl)
              refine PlanGo.takeI (a' := ?_) (some 73) (.bool false) (by kernel_rfl) (by kernel_rfl) (by kernel_rfl) (by kernel_rfl) (fun W hW => (by kernel_rfl)) ?_ ?_; rotate_left; focus (simp only [Act.put, List.setIfInBounds_toArray, List.set_cons_zero, List.set_cons_succ]; rfl)
              refine PlanGo.skipI (a' := ?_) (some 74) (by kernel_rfl) (by kernel_rfl) (by kernel_rfl) ?_ ?_; rotate_left; focus (simp only [Act.put, List.setIfInBounds_toArray, List.set_cons_zero, List.set_cons_succ]; rfl)
              refine PlanGo.skipI (a' := ?_) (some 76) (by kernel_rfl) (by kernel_rfl) (by kernel_rfl) ?_ ?_; rotate_left; focus (simp only [Act.put, List.setIfInBounds_toArray, List.set_cons_zero, List.set_cons_succ]; rfl)
              refine PlanGo.skipI (a' := ?_) (some 77) (by kernel_rfl) (by kernel_rfl) (by kernel_rfl) ?_ ?_; rotate_left; focus (simp only [Act.put, List.setIfInBounds_toArray, List.set_cons_zero, List.set_cons_succ]; rfl)
              refine PlanGo.skipI (a' := ?_) (some 75) (by kernel_rfl) (by kernel_rfl) (by kernel_rfl) ?_ ?_; rotate_left; focus (simp only [Act.put, List.setIfInBounds_toArray, List.set_cons_zero, List.set_cons_succ]; rfl)
              refine PlanGo.skipI (a' := ?_) (some 78) (by kernel_rfl) (by kernel_rfl) (by kernel_rfl) ?_ ?_; rotate_left; focus (simp only [Act.put, List.setIfInBounds_toArray, List.set_cons_zero, List.set_cons_succ]; rfl)
              refine PlanGo.takeI (a' := ?_) (some 79) (.bool false) (by kernel_rfl) (by kernel_rfl) (by kernel_rfl) (by kernel_rfl) (fun W hW => (by kernel_rfl)) ?_ ?_; rotate_left; focus (simp only [Act.put, List.setIfInBounds_toArray, List.set_cons_zero, List.set_cons_succ]; rfl)
              refine PlanGo.takeI (a' := ?_) (some 80) (.bool false) (by kernel_rfl) (by kernel_rfl) (by kernel_rfl) (by kernel_rfl) (fun W hW => (by kernel_rfl)) ?_ ?_; rotate_left; focus (simp only [Act.put, List.setIfInBounds_toArray, List.set_cons_zero, List.set_cons_succ]; rfl)
              refine PlanGo.takeI (a' := ?_) (some 81) (.bool false) (by kernel_rfl) (by kernel_rfl) (by kernel_rfl) (by kernel_rfl) (fun W hW => (by kernel_rfl)) ?_ ?_; rotate_left; focus (simp only [Act.put, List.setIfInBounds_toArray, List.set_cons_zero, List.set_cons_succ]; rfl)
              refine PlanGo.takeI (a' := ?_) (some 82) (.pointer (some ⟨B2, 0, none⟩)) (by kernel_rfl) (by kernel_rfl) (by kernel_rfl) (by kernel_rfl) (fun W hW => (by kernel_rfl)) ?_ ?_; rotate_left; focus (simp only [Act.put, List.setIfInBounds_toArray, List.set_cons_zero, List.set_cons_succ]; rfl)
              refine PlanGo.takeI (a' := ?_) (some 83) (.int .i64 5) (by kernel_rfl) (by kernel_rfl) (by kernel_rfl) (by kernel_rfl) (fun W hW => yl_int (x := .tmp 82) (by kernel_rfl) (by kernel_rfl) hW.1) ?_ ?_; rotate_left; focus (simp only [Act.put, List.setIfInBounds_toArray, List.set_cons_zero, List.set_cons_succ]; rfl)
              refine PlanGo.takeI (a' := ?_) (some 84) (.bool false) (by kernel_rfl) (by kernel_rfl) (by kernel_rfl) (by kernel_rfl) (fun W hW => (by kernel_rfl)) ?_ ?_; rotate_left; focus (simp only [Act.put, List.setIfInBounds_toArray, List.set_cons_zero, List.set_cons_succ]; rfl)
              refine PlanGo.takeI (a' := ?_) (some 85) (.bool false) (by kernel_rfl) (by kernel_rfl) (by kernel_rfl) (by kernel_rfl) (fun W hW => (by kernel_rfl)) ?_ ?_; rotate_left; focus (simp only [Act.put, List.setIfInBounds_toArray, List.set_cons_zero, List.set_cons_succ]; rfl)
              refine PlanGo.skipI (a' := ?_) (some 86) (by kernel_rfl) (by kernel_rfl) (by kernel_rfl) ?_ ?_; rotate_left; focus (simp only [Act.put, List.setIfInBounds_toArray, List.set_cons_zero, List.set_cons_succ]; rfl)
              refine PlanGo.skipI (a' := ?_) (some 87) (by kernel_rfl) (by kernel_rfl) (by kernel_rfl) ?_ ?_; rotate_left; focus (simp only [Act.put, List.setIfInBounds_toArray, List.set_cons_zero, List.set_cons_succ]; rfl)
              refine PlanGo.skipI (a' := ?_) (some 88) (by kernel_rfl) (by kernel_rfl) (by kernel_rfl) ?_ ?_; rotate_left; focus (simp only [Act.put, List.setIfInBounds_toArray, List.set_cons_zero, List.set_cons_succ]; rfl)
              refine PlanGo.skipI (a' := ?_) (some 89) (by kernel_rfl) (by kernel_rfl) (by kernel_rfl) ?_ ?_; rotate_left; focus (simp only [Act.put, List.setIfInBounds_toArray, List.set_cons_zero, List.set_cons_succ]; rfl)
              refine PlanGo.skipI (a' := ?_) (some 91) (by kernel_rfl) (by kernel_rfl) (by kernel_rfl) ?_ ?_; rotate_left; focus (simp only [Act.put, List.setIfInBounds_toArray, List.set_cons_zero, List.set_cons_succ]; rfl)
              refine PlanGo.skipI (a' := ?_) (some 92) (by kernel_rfl) (by kernel_rfl) (by kernel_rfl) ?_ ?_; rotate_left; focus (simp only [Act.put, List.setIfInBounds_toArray, List.set_cons_zero, List.set_cons_succ]; rfl)
              refine PlanGo.skipI (a' := ?_) (some 90) (by kernel_rfl) (by kernel_rfl) (by kernel_rfl) ?_ ?_; rotate_left; focus (simp only [Act.put, List.setIfInBounds_toArray, List.set_cons_zero, List.set_cons_succ]; rfl)
              refine PlanGo.skipI (a' := ?_) (some 93) (by kernel_rfl) (by kernel_rfl) (by kernel_rfl) ?_ ?_; rotate_left; focus (simp only [Act.put, List.setIfInBounds_toArray, List.set_cons_zero, List.set_cons_succ]; rfl)
              refine PlanGo.takeI (a' := ?_) (some 94) (.bool false) (by kernel_rfl) (by kernel_rfl) (by kernel_rfl) (by kernel_rfl) (fun W hW => (by kernel_rfl)) ?_ ?_; rotate_left; focus (simp only [Act.put, List.setIfInBounds_toArray, List.set_cons_zero, List.set_cons_succ]; rfl)
              refine PlanGo.takeI (a' := ?_) (some 95) (.bool false) (by kernel_rfl) (by kernel_rfl) (by kernel_rfl) (by kernel_rfl) (fun W hW => (by kernel_rfl)) ?_ ?_; rotate_left; focus (simp only [Act.put, List.setIfInBounds_toArray, List.set_cons_zero, List.set_cons_succ]; rfl)
              refine PlanGo.takeI (a' := ?_) (some 96) (.bool false) (by kernel_rfl) (by kernel_rfl) (by kernel_rfl) (by kernel_rfl) (fun W hW => (by kernel_rfl)) ?_ ?_; rotate_left; focus (simp only [Act.put, List.setIfInBounds_toArray, List.set_cons_zero, List.set_cons_succ]; rfl)
              refine PlanGo.takeI (a' := ?_) (some 97) (.pointer (some ⟨B2, 0, none⟩)) (by kernel_rfl) (by kernel_rfl) (by kernel_rfl) (by kernel_rfl) (fun W hW => (by kernel_rfl)) ?_ ?_; rotate_left; focus (simp only [Act.put, List.setIfInBounds_toArray, List.set_cons_zero, List.set_cons_succ]; rfl)
              refine PlanGo.takeI (a' := ?_) (some 98) (.int .i64 5) (by kernel_rfl) (by kernel_rfl) (by kernel_rfl) (by kernel_rfl) (fun W hW => yl_int (x := .tmp 97) (by kernel_rfl) (by kernel_rfl) hW.1) ?_ ?_; rotate_left; focus (simp only [Act.put, List.setIfInBounds_toArray, List.set_cons_zero, List.set_cons_succ]; rfl)
              refine PlanGo.takeI (a' := ?_) (some 99) (.bool false) (by kernel_rfl) (by kernel_rfl) (by kernel_rfl) (by kernel_rfl) (fun W hW => (by kernel_rfl)) ?_ ?_; rotate_left; focus (simp only [Act.put, List.setIfInBounds_toArray, List.set_cons_zero, List.set_cons_succ]; rfl)
              refine PlanGo.takeI (a' := ?_) (some 100) (.bool false) (by kernel_rfl) (by kernel_rfl) (by kernel_rfl) (by kernel_rfl) (fun W hW => (by kernel_rfl)) ?_ ?_; rotate_left; focus (simp only [Act.put, List.setIfInBounds_toArray, List.set_cons_zero, List.set_cons_succ]; rfl)
              refine PlanGo.skipI (a' := ?_) (some 101) (by kernel_rfl) (by kernel_rfl) (by kernel_rfl) ?_ ?_; rotate_left; focus (simp only [Act.put, List.setIfInBounds_toArray, List.set_cons_zero, List.set_cons_succ]; rfl)
              refine PlanGo.skipI (a' := ?_) (some 102) (by kernel_rfl) (by kernel_rfl) (by kernel_rfl) ?_ ?_; rotate_left; focus (simp only [Act.put, List.setIfInBounds_toArray, List.set_cons_zero, List.set_cons_succ]; rfl)
              refine PlanGo.skipI (a' := ?_) (some 103) (by kernel_rfl) (by kernel_rfl) (by kernel_rfl) ?_ ?_; rotate_left; focus (simp only [Act.put, List.setIfInBounds_toArray, List.set_cons_zero, List.set_cons_succ]; rfl)
              refine PlanGo.skipI (a' := ?_) (some 104) (by kernel_rfl) (by kernel_rfl) (by kernel_rfl) ?_ ?_; rotate_left; focus (simp only [Act.put, List.setIfInBounds_toArray, List.set_cons_zero, List.set_cons_succ]; rfl)
              refine PlanGo.skipI (a' := ?_) (some 106) (by kernel_rfl) (by kernel_rfl) (by kernel_rfl) ?_ ?_; rotate_left; focus (simp only [Act.put, List.setIfInBounds_toArray, List.set_cons_zero, List.set_cons_succ]; rfl)
              refine PlanGo.skipI (a' := ?_) (some 107) (by kernel_rfl) (by kernel_rfl) (by kernel_rfl) ?_ ?_; rotate_left; focus (simp only [Act.put, List.setIfInBounds_toArray, List.set_cons_zero, List.set_cons_succ]; rfl)
              refine PlanGo.skipI (a' := ?_) (some 105) (by kernel_rfl) (by kernel_rfl) (by kernel_rfl) ?_ ?_; rotate_left; focus (simp only [Act.put, List.setIfInBounds_toArray, List.set_cons_zero, List.set_cons_succ]; rfl)
              refine PlanGo.skipI (a' := ?_) (some 108) (by kernel_rfl) (by kernel_rfl) (by kernel_rfl) ?_ ?_; rotate_left; focus (simp only [Act.put, List.setIfInBounds_toArray, List.set_cons_zero, List.set_cons_succ]; rfl)
              refine PlanGo.takeI (a' := ?_) (some 109) (.bool false) (by kernel_rfl) (by kernel_rfl) (by kernel_rfl) (by kernel_rfl) (fun W hW => (by kernel_rfl)) ?_ ?_; rotate_left; focus (simp only [Act.put, List.setIfInBounds_toArray, List.set_cons_zero, List.set_cons_succ]; rfl)
              refine PlanGo.takeI (a' := ?_) (some 110) (.bool false) (by kernel_rfl) (by kernel_rfl) (by kernel_rfl) (by kernel_rfl) (fun W hW => (by kernel_rfl)) ?_ ?_; rotate_left; focus (simp only [Act.put, List.setIfInBounds_toArray, List.set_cons_zero, List.set_cons_succ]; rfl)
              refine PlanGo.takeI (a' := ?_) (some 111) (.bool false) (by kernel_rfl) (by kernel_rfl) (by kernel_rfl) (by kernel_rfl) (fun W hW => (by kernel_rfl)) ?_ ?_; rotate_left; focus (simp only [Act.put, List.setIfInBounds_toArray, List.set_cons_zero, List.set_cons_succ]; rfl)
              refine PlanGo.takeI (a' := ?_) (some 112) (.pointer (some ⟨B2, 0, none⟩)) (by kernel_rfl) (by kernel_rfl) (by kernel_rfl) (by kernel_rfl) (fun W hW => (by kernel_rfl)) ?_ ?_; rotate_left; focus (simp only [Act.put, List.setIfInBounds_toArray, List.set_cons_zero, List.set_cons_succ]; rfl)
              refine PlanGo.takeI (a' := ?_) (some 113) (.int .i64 5) (by kernel_rfl) (by kernel_rfl) (by kernel_rfl) (by kernel_rfl) (fun W hW => yl_int (x := .tmp 112) (by kernel_rfl) (by kernel_rfl) hW.1) ?_ ?_; rotate_left; focus (simp only [Act.put, List.setIfInBounds_toArray, List.set_cons_zero, List.set_cons_succ]; rfl)
              refine PlanGo.takeI (a' := ?_) (some 114) (.bool true) (by kernel_rfl) (by kernel_rfl) (by kernel_rfl) (by kernel_rfl) (fun W hW => (by kernel_rfl)) ?_ ?_; rotate_left; focus (simp only [Act.put, List.setIfInBounds_toArray, List.set_cons_zero, List.set_cons_succ]; rfl)
              refine PlanGo.takeI (a' := ?_) (some 115) (.bool true) (by kernel_rfl) (by kernel_rfl) (by kernel_rfl) (by kernel_rfl) (fun W hW => (by kernel_rfl)) ?_ ?_; rotate_left; focus (simp only [Act.put, List.setIfInBounds_toArray, List.set_cons_zero, List.set_cons_succ]; rfl)
              refine PlanGo.takeI (a' := ?_) (some 116) (.pointer (some ⟨B1, 0, none⟩)) (by kernel_rfl) (by kernel_rfl) (by kernel_rfl) (by kernel_rfl) (fun W hW => (by kernel_rfl)) ?_ ?_; rotate_left; focus (simp only [Act.put, List.setIfInBounds_toArray, List.set_cons_zero, List.set_cons_succ]; rfl)
              refine PlanGo.takeI (a' := ?_) (some 117) (.pointer (some ⟨B2, 5, none⟩)) (by kernel_rfl) (by kernel_rfl) (by kernel_rfl) (by kernel_rfl) (fun W hW => (by kernel_rfl)) ?_ ?_; rotate_left; focus (simp only [Act.put, List.setIfInBounds_toArray, List.set_cons_zero, List.set_cons_succ]; rfl)
              refine PlanGo.takeI (a' := ?_) (some 118) (.slice so L.length sc) (by kernel_rfl) (by kernel_rfl) (by kernel_rfl) (by kernel_rfl) (fun W hW => yl_ints (x := .tmp 117) (by kernel_rfl) (by kernel_rfl) hW.2.2.2.2.2) ?_ ?_; rotate_left; focus (simp only [Act.put, List.setIfInBounds_toArray, List.set_cons_zero, List.set_cons_succ]; rfl)
              refine PlanGo.takeI (a' := ?_) (some 119) (.int .i64 L.length) (by kernel_rfl) (by kernel_rfl) (by kernel_rfl) (by kernel_rfl) (fun W hW => yc_ints (x := .tmp 118) (q := so) (m := L.length) (c := sc) (by kernel_rfl) (by kernel_rfl)) ?_ ?_; rotate_left; focus (simp only [Act.put, List.setIfInBounds_toArray, List.set_cons_zero, List.set_cons_succ]; rfl)
              refine PlanGo.takeI (a' := ?_) (some 121) (.pointer (some ⟨B2, 5, none⟩)) (by kernel_rfl) (by kernel_rfl) (by kernel_rfl) (by kernel_rfl) (fun W hW => (by kernel_rfl)) ?_ ?_; rotate_left; focus (simp only [Act.put, List.setIfInBounds_toArray, List.set_cons_zero, List.set_cons_succ]; rfl)
              refine PlanGo.takeI (a' := ?_) (some 122) (.slice so L.length sc) (by kernel_rfl) (by kernel_rfl) (by kernel_rfl) (by kernel_rfl) (fun W hW => yl_ints (x := .tmp 121) (by kernel_rfl) (by kernel_rfl) hW.2.2.2.2.2) ?_ ?_; rotate_left; focus (simp only [Act.put, List.setIfInBounds_toArray, List.set_cons_zero, List.set_cons_succ]; rfl)
              refine PlanGo.callI (some 120) 23 #[(.pointer (some ⟨B1, 0, none⟩)), (.int .i64 L.length)] (by kernel_rfl) (by kernel_rfl) (by kernel_rfl) (by kernel_rfl) (fun W => by kernel_rfl) (HCT.out _ HPR.out) ?_
              rintro e w2 ⟨v1, rfl, ho, hR⟩
              have HA3 := keep (HA2.out.step HBW.out hR HBP.out)
              have HSAME := keep (same_any v1 (.slice so L.length sc) L w2 (IntRow.of_own ho) ((HROW.out.below (B := w.heap.size) ((HBW.out.mono HA2.out.below.size).trans (hR.2.below HBP.out (Nat.le_trans HA2.out.below.size HBW.out.size)))).mono HA3.out.below.size))
              have HS2 := keep (HSX.out _ w2 hR.2 HN2.out)
              refine ⟨_, rfl, HS2.out, ?_⟩
              clear hR ho
              refine PlanGo.eq (a' := ?_) ?_ ?_; rotate_left; focus (simp only [Act.put, List.setIfInBounds_toArray, List.set_cons_zero, List.set_cons_succ]; rfl)
              refine PlanGo.callI (some 123) 22 #[v1, (.slice so L.length sc)] (by kernel_rfl) (by kernel_rfl) (by kernel_rfl) (by kernel_rfl) (fun W => by kernel_rfl) HSAME.out ?_
              rintro e w3 ⟨rfl, hb3⟩
              have HA4 := keep (HA3.out.to hb3)
              refine ⟨_, rfl, HS2.out.below hb3, ?_⟩
              clear hb3
              refine PlanGo.eq (a' := ?_) ?_ ?_; rotate_left; focus (simp only [Act.put, List.setIfInBounds_toArray, List.set_cons_zero, List.set_cons_succ]; rfl)
              refine PlanGo.takeI (a' := ?_) (some 124) (.bool false) (by kernel_rfl) (by kernel_rfl) (by kernel_rfl) (by kernel_rfl) (fun W hW => (by kernel_rfl)) ?_ ?_; rotate_left; focus (simp only [Act.put, List.setIfInBounds_toArray, List.set_cons_zero, List.set_cons_succ]; rfl)
              refine PlanGo.takeI (a' := ?_) (some 125) (.bool false) (by kernel_rfl) (by kernel_rfl) (by kernel_rfl) (by kernel_rfl) (fun W hW => (by kernel_rfl)) ?_ ?_; rotate_left; focus (simp only [Act.put, List.setIfInBounds_toArray, List.set_cons_zero, List.set_cons_succ]; rfl)
              refine PlanGo.takeI (a' := ?_) (some 126) (.bool false) (by kernel_rfl) (by kernel_rfl) (by kernel_rfl) (by kernel_rfl) (fun W hW => (by kernel_rfl)) ?_ ?_; rotate_left; focus (simp only [Act.put, List.setIfInBounds_toArray, List.set_cons_zero, List.set_cons_succ]; rfl)
              refine PlanGo.done (hQ0.out _ _ ?_)
              clear hQ0 Q0
              go_wp2_with fail
              go_roundw
              case rel => exact ⟨j + 1, by go_num, by omega, by rw [HL2.out]; exact HA4⟩
              case measure => simp [intOf]; omega
            have e0 : (K == 0) = false := by simpa using k0
            have e1 : (K == 1) = false := by simpa using k1
            have e2 : (K == 2) = false := by simpa using k2
            have e3 : (K == 3) = false := by simpa using k3
            have e4 : (K == 4) = false := by simpa using k4
            have e5 : (K == 5) = false := by simpa using k5
            have HE : Keep (l0 = l2) := ⟨by
              rw [HREST.out]
              unfold partB
              rw [if_neg k0, if_neg k1, if_neg k2, if_neg k3, if_neg k4, if_neg k5]
              rfl⟩
            go_wp2_with fail
            rw [← hB2]
            have HB2 := keep hB2
            clear hB2 c0 c1 c2 c3 c4 c5
            clear k0 k1 k2 k3 k4 k5
            generalize hW1 : wr.alloc (.cells #[.int .i64 K, .int .u64 U, .int .i64 N, .bool Bl, .string S, .slice so L.length sc] 33) = W1 at *
            clear hW1
            refine PlanGo.regionQ (fun w' => w'.cell? ⟨B2, 0, none⟩ = some (.int .i64 K) ∧ w'.cell? ⟨B2, 1, none⟩ = some (.int .u64 U) ∧ w'.cell? ⟨B2, 2, none⟩ = some (.int .i64 N) ∧ w'.cell? ⟨B2, 3, none⟩ = some (.bool Bl) ∧ w'.cell? ⟨B2, 4, none⟩ = some (.string S) ∧ w'.cell? ⟨B2, 5, none⟩ = some (.slice so L.length sc)) [0, 1, 2, 3, 4, 6, 7, 5, 8, 9, 10, 11, 12, 13, 14, 15, 17, 18, 16, 19, 20, 21, 22, 23, 24, 25, 26, 27, 29, 30, 28, 31, 32, 33, 34, 35, 36, 37, 38, 39, 40, 41, 42, 44, 45, 43, 46, 47, 48, 49, 50, 51, 52, 53, 54, 55, 56, 57, 59, 60, 58, 61, 62, 63, 64, 65, 66, 67, 68, 69, 70, 71, 72, 74, 75, 73, 76, 77, 78, 79] (by kernel_rfl) (by kernel_rfl) (fun _ _ d _ _ h => by cases d <;> exact h) rfl (by kernel_rfl) (HSX.out (.pointer none) _ (Kept.refl _ _) (by simp [blk])) ?_
            intro Q0 hQ0 wd ewd
            subst ewd
            refine PlanGo.takeI (a' := ?_) (some 47) (.pointer (some ⟨B2, 0, none⟩)) (by kernel_rfl) (by kernel_rfl) (by kernel_rfl) (by kernel_rfl) (fun W hW => (by kernel_rfl)) ?_ ?_; rotate_left; focus (simp only [Act.put, List.setIfInBounds_toArray, List.set_cons_zero, List.set_cons_succ]; rfl)
            refine PlanGo.takeI (a' := ?_) (some 48) (.int .i64 K) (by kernel_rfl) (by kernel_rfl) (by kernel_rfl) (by kernel_rfl) (fun W hW => yl_int (x := .tmp 47) (by kernel_rfl) (by kernel_rfl) hW.1) ?_ ?_; rotate_left; focus (simp only [Act.put, List.setIfInBounds_toArray, List.set_cons_zero, List.set_cons_succ]; rfl)
            refine PlanGo.takeI (a' := ?_) (some 49) (.bool false) (by kernel_rfl) (by kernel_rfl) (by kernel_rfl) (by kernel_rfl) (fun W hW => ye_int (x := .tmp 48) (y := .const (.int .i64 0)) (m := K) (n := 0) (by kernel_rfl) (by kernel_rfl) (by kernel_rfl) e0) ?_ ?_; rotate_left; focus (simp only [Act.put, List.setIfInBounds_toArray, List.set_cons_zero, List.set_cons_succ]; rfl)
            refine PlanGo.takeI (a' := ?_) (some 50) (.bool false) (by kernel_rfl) (by kernel_rfl) (by kernel_rfl) (by kernel_rfl) (fun W hW => (by kernel_rfl)) ?_ ?_; rotate_left; focus (simp only [Act.put, List.setIfInBounds_toArray, List.set_cons_zero, List.set_cons_succ]; rfl)
            refine PlanGo.skipI (a' := ?_) (some 51) (by kernel_rfl) (by kernel_rfl) (by kernel_rfl) ?_ ?_; rotate_left; focus (simp only [Act.put, List.setIfInBounds_toArray, List.set_cons_zero, List.set_cons_succ]; rfl)
            refine PlanGo.skipI (a' := ?_) (some 53) (by kernel_rfl) (by kernel_rfl) (by kernel_rfl) ?_ ?_; rotate_left; focus (simp only [Act.put, List.setIfInBounds_toArray, List.set_cons_zero, List.set_cons_succ]; rfl)
            refine PlanGo.skipI (a' := ?_) (some 54) (by kernel_rfl) (by kernel_rfl) (by kernel_rfl) ?_ ?_; rotate_left; focus (simp only [Act.put, List.setIfInBounds_toArray, List.set_cons_zero, List.set_cons_succ]; rfl)
            refine PlanGo.skipI (a' := ?_) (some 52) (by kernel_rfl) (by kernel_rfl) (by kernel_rfl) ?_ ?_; rotate_left; focus (simp only [Act.put, List.setIfInBounds_toArray, List.set_cons_zero, List.set_cons_succ]; rfl)
            refine PlanGo.skipI (a' := ?_) (some 55) (by kernel_rfl) (by kernel_rfl) (by kernel_rfl) ?_ ?_; rotate_left; focus (simp only [Act.put, List.setIfInBounds_toArray, List.set_cons_zero, List.set_cons_succ]; rfl)
            refine PlanGo.takeI (a' := ?_) (some 56) (.bool false) (by kernel_rfl) (by kernel_rfl) (by kernel_rfl) (by kernel_rfl) (fun W hW => (by kernel_rfl)) ?_ ?_; rotate_left; focus (simp only [Act.put, List.setIfInBounds_toArray, List.set_cons_zero, List.set_cons_succ]; rfl)
            refine PlanGo.takeI (a' := ?_) (some 57) (.bool false) (by kernel_rfl) (by kernel_rfl) (by kernel_rfl) (by kernel_rfl) (fun W hW => (by kernel_rfl)) ?_ ?_; rotate_left; focus (simp only [Act.put, List.setIfInBounds_toArray, List.set_cons_zero, List.set_cons_succ]; rfl)
            refine PlanGo.takeI (a' := ?_) (some 58) (.pointer (some ⟨B2, 0, none⟩)) (by kernel_rfl) (by kernel_rfl) (by kernel_rfl) (by kernel_rfl) (fun W hW => (by kernel_rfl)) ?_ ?_; rotate_left; focus (simp only [Act.put, List.setIfInBounds_toArray, List.set_cons_zero, List.set_cons_succ]; rfl)
            refine PlanGo.takeI (a' := ?_) (some 59) (.int .i64 K) (by kernel_rfl) (by kernel_rfl) (by kernel_rfl) (by kernel_rfl) (fun W hW => yl_int (x := .tmp 58) (by kernel_rfl) (by kernel_rfl) hW.1) ?_ ?_; rotate_left; focus (simp only [Act.put, List.setIfInBounds_toArray, List.set_cons_zero, List.set_cons_succ]; rfl)
            refine PlanGo.takeI (a' := ?_) (some 60) (.bool false) (by kernel_rfl) (by kernel_rfl) (by kernel_rfl) (by kernel_rfl) (fun W hW => ye_int (x := .tmp 59) (y := .const (.int .i64 1)) (m := K) (n := 1) (by kernel_rfl) (by kernel_rfl) (by kernel_rfl) e1) ?_ ?_; rotate_left; focus (simp only [Act.put, List.setIfInBounds_toArray, List.set_cons_zero, List.set_cons_succ]; rfl)
            refine PlanGo.takeI (a' := ?_) (some 61) (.bool false) (by kernel_rfl) (by kernel_rfl) (by kernel_rfl) (by kernel_rfl) (fun W hW => (by kernel_rfl)) ?_ ?_; rotate_left; focus (simp only [Act.put, List.setIfInBounds_toArray, List.set_cons_zero, List.set_cons_succ]; rfl)
            refine PlanGo.skipI (a' := ?_) (some 62) (by kernel_rfl) (by kernel_rfl) (by kernel_rfl) ?_ ?_; rotate_left; focus (simp only [Act.put, List.setIfInBounds_toArray, List.set_cons_zero, List.set_cons_succ]; rfl)
            refine PlanGo.skipI (a' := ?_) (some 64) (by kernel_rfl) (by kernel_rfl) (by kernel_rfl) ?_ ?_; rotate_left; focus (simp only [Act.put, List.setIfInBounds_toArray, List.set_cons_zero, List.set_cons_succ]; rfl)
            refine PlanGo.skipI (a' := ?_) (some 65) (by kernel_rfl) (by kernel_rfl) (by kernel_rfl) ?_ ?_; rotate_left; focus (simp only [Act.put, List.setIfInBounds_toArray, List.set_cons_zero, List.set_cons_succ]; rfl)
            refine PlanGo.skipI (a' := ?_) (some 63) (by kernel_rfl) (by kernel_rfl) (by kernel_rfl) ?_ ?_; rotate_left; focus (simp only [Act.put, List.setIfInBounds_toArray, List.set_cons_zero, List.set_cons_succ]; rfl)
            refine PlanGo.skipI (a' := ?_) (some 66) (by kernel_rfl) (by kernel_rfl) (by kernel_rfl) ?_ ?_; rotate_left; focus (simp only [Act.put, List.setIfInBounds_toArray, List.set_cons_zero, List.set_cons_succ]; rfl)
            refine PlanGo.takeI (a' := ?_) (some 67) (.bool false) (by kernel_rfl) (by kernel_rfl) (by kernel_rfl) (by kernel_rfl) (fun W hW => (by kernel_rfl)) ?_ ?_; rotate_left; focus (simp only [Act.put, List.setIfInBounds_toArray, List.set_cons_zero, List.set_cons_succ]; rfl)
            refine PlanGo.takeI (a' := ?_) (some 68) (.bool false) (by kernel_rfl) (by kernel_rfl) (by kernel_rfl) (by kernel_rfl) (fun W hW => (by kernel_rfl)) ?_ ?_; rotate_left; focus (simp only [Act.put, List.setIfInBounds_toArray, List.set_cons_zero, List.set_cons_succ]; rfl)
            refine PlanGo.takeI (a' := ?_) (some 69) (.bool false) (by kernel_rfl) (by kernel_rfl) (by kernel_rfl) (by kernel_rfl) (fun W hW => (by kernel_rfl)) ?_ ?_; rotate_left; focus (simp only [Act.put, List.setIfInBounds_toArray, List.set_cons_zero, List.set_cons_succ]; rfl)
            refine PlanGo.takeI (a' := ?_) (some 70) (.pointer (some ⟨B2, 0, none⟩)) (by kernel_rfl) (by kernel_rfl) (by kernel_rfl) (by kernel_rfl) (fun W hW => (by kernel_rfl)) ?_ ?_; rotate_left; focus (simp only [Act.put, List.setIfInBounds_toArray, List.set_cons_zero, List.set_cons_succ]; rfl)
            refine PlanGo.takeI (a' := ?_) (some 71) (.int .i64 K) (by kernel_rfl) (by kernel_rfl) (by kernel_rfl) (by kernel_rfl) (fun W hW => yl_int (x := .tmp 70) (by kernel_rfl) (by kernel_rfl) hW.1) ?_ ?_; rotate_left; focus (simp only [Act.put, List.setIfInBounds_toArray, List.set_cons_zero, List.set_cons_succ]; rfl)
            refine PlanGo.takeI (a' := ?_) (some 72) (.bool false) (by kernel_rfl) (by kernel_rfl) (by kernel_rfl) (by kernel_rfl) (fun W hW => ye_int (x := .tmp 71) (y := .const (.int .i64 2)) (m := K) (n := 2) (by kernel_rfl) (by kernel_rfl) (by kernel_rfl) e2) ?_ ?_; rotate_left; focus (simp only [Act.put, List.setIfInBounds_toArray, List.set_cons_zero, List.set_cons_succ]; rfl)
            refine PlanGo.takeI (a' := ?_) (some 73) (.bool false) (by kernel_rfl) (by kernel_rfl) (by kernel_rfl) (by kernel_rfl) (fun W hW => (by kernel_rfl)) ?_ ?_; rotate_left; focus (simp only [Act.put, List.setIfInBounds_toArray, List.set_cons_zero, List.set_cons_succ]; rfl)
            refine PlanGo.skipI (a' := ?_) (some 74) (by kernel_rfl) (by kernel_rfl) (by kernel_rfl) ?_ ?_; rotate_left; focus (simp only [Act.put, List.setIfInBounds_toArray, List.set_cons_zero, List.set_cons_succ]; rfl)
            refine PlanGo.skipI (a' := ?_) (some 76) (by kernel_rfl) (by kernel_rfl) (by kernel_rfl) ?_ ?_; rotate_left; focus (simp only [Act.put, List.setIfInBounds_toArray, List.set_cons_zero, List.set_cons_succ]; rfl)
            refine PlanGo.skipI (a' := ?_) (some 77) (by kernel_rfl) (by kernel_rfl) (by kernel_rfl) ?_ ?_; rotate_left; focus (simp only [Act.put, List.setIfInBounds_toArray, List.set_cons_zero, List.set_cons_succ]; rfl)
            refine PlanGo.skipI (a' := ?_) (some 75) (by kernel_rfl) (by kernel_rfl) (by kernel_rfl) ?_ ?_; rotate_left; focus (simp only [Act.put, List.setIfInBounds_toArray, List.set_cons_zero, List.set_cons_succ]; rfl)
            refine PlanGo.skipI (a' := ?_) (some 78) (by kernel_rfl) (by kernel_rfl) (by kernel_rfl) ?_ ?_; rotate_left; focus (simp only [Act.put, List.setIfInBounds_toArray, List.set_cons_zero, List.set_cons_succ]; rfl)
            refine PlanGo.takeI (a' := ?_) (some 79) (.bool false) (by kernel_rfl) (by kernel_rfl) (by kernel_rfl) (by kernel_rfl) (fun W hW => (by kernel_rfl)) ?_ ?_; rotate_left; focus (simp only [Act.put, List.setIfInBounds_toArray, List.set_cons_zero, List.set_cons_succ]; rfl)
            refine PlanGo.takeI (a' := ?_) (some 80) (.bool false) (by kernel_rfl) (by kernel_rfl) (by kernel_rfl) (by kernel_rfl) (fun W hW => (by kernel_rfl)) ?_ ?_; rotate_left; focus (simp only [Act.put, List.setIfInBounds_toArray, List.set_cons_zero, List.set_cons_succ]; rfl)
            refine PlanGo.takeI (a' := ?_) (some 81) (.bool false) (by kernel_rfl) (by kernel_rfl) (by kernel_rfl) (by kernel_rfl) (fun W hW => (by kernel_rfl)) ?_ ?_; rotate_left; focus (simp only [Act.put, List.setIfInBounds_toArray, List.set_cons_zero, List.set_cons_succ]; rfl)
            refine PlanGo.takeI (a' := ?_) (some 82) (.pointer (some ⟨B2, 0, none⟩)) (by kernel_rfl) (by kernel_rfl) (by kernel_rfl) (by kernel_rfl) (fun W hW => (by kernel_rfl)) ?_ ?_; rotate_left; focus (simp only [Act.put, List.setIfInBounds_toArray, List.set_cons_zero, List.set_cons_succ]; rfl)
            refine PlanGo.takeI (a' := ?_) (some 83) (.int .i64 K) (by kernel_rfl) (by kernel_rfl) (by kernel_rfl) (by kernel_rfl) (fun W hW => yl_int (x := .tmp 82) (by kernel_rfl) (by kernel_rfl) hW.1) ?_ ?_; rotate_left; focus (simp only [Act.put, List.setIfInBounds_toArray, List.set_cons_zero, List.set_cons_succ]; rfl)
            refine PlanGo.takeI (a' := ?_) (some 84) (.bool false) (by kernel_rfl) (by kernel_rfl) (by kernel_rfl) (by kernel_rfl) (fun W hW => ye_int (x := .tmp 83) (y := .const (.int .i64 3)) (m := K) (n := 3) (by kernel_rfl) (by kernel_rfl) (by kernel_rfl) e3) ?_ ?_; rotate_left; focus (simp only [Act.put, List.setIfInBounds_toArray, List.set_cons_zero, List.set_cons_succ]; rfl)
            refine PlanGo.takeI (a' := ?_) (some 85) (.bool false) (by kernel_rfl) (by kernel_rfl) (by kernel_rfl) (by kernel_rfl) (fun W hW => (by kernel_rfl)) ?_ ?_; rotate_left; focus (simp only [Act.put, List.setIfInBounds_toArray, List.set_cons_zero, List.set_cons_succ]; rfl)
            refine PlanGo.skipI (a' := ?_) (some 86) (by kernel_rfl) (by kernel_rfl) (by kernel_rfl) ?_ ?_; rotate_left; focus (simp only [Act.put, List.setIfInBounds_toArray, List.set_cons_zero, List.set_cons_succ]; rfl)
            refine PlanGo.skipI (a' := ?_) (some 87) (by kernel_rfl) (by kernel_rfl) (by kernel_rfl) ?_ ?_; rotate_left; focus (simp only [Act.put, List.setIfInBounds_toArray, List.set_cons_zero, List.set_cons_succ]; rfl)
            refine PlanGo.skipI (a' := ?_) (some 88) (by kernel_rfl) (by kernel_rfl) (by kernel_rfl) ?_ ?_; rotate_left; focus (simp only [Act.put, List.setIfInBounds_toArray, List.set_cons_zero, List.set_cons_succ]; rfl)
            refine PlanGo.skipI (a' := ?_) (some 89) (by kernel_rfl) (by kernel_rfl) (by kernel_rfl) ?_ ?_; rotate_left; focus (simp only [Act.put, List.setIfInBounds_toArray, List.set_cons_zero, List.set_cons_succ]; rfl)
            refine PlanGo.skipI (a' := ?_) (some 91) (by kernel_rfl) (by kernel_rfl) (by kernel_rfl) ?_ ?_; rotate_left; focus (simp only [Act.put, List.setIfInBounds_toArray, List.set_cons_zero, List.set_cons_succ]; rfl)
            refine PlanGo.skipI (a' := ?_) (some 92) (by kernel_rfl) (by kernel_rfl) (by kernel_rfl) ?_ ?_; rotate_left; focus (simp only [Act.put, List.setIfInBounds_toArray, List.set_cons_zero, List.set_cons_succ]; rfl)
            refine PlanGo.skipI (a' := ?_) (some 90) (by kernel_rfl) (by kernel_rfl) (by kernel_rfl) ?_ ?_; rotate_left; focus (simp only [Act.put, List.setIfInBounds_toArray, List.set_cons_zero, List.set_cons_succ]; rfl)
            refine PlanGo.skipI (a' := ?_) (some 93) (by kernel_rfl) (by kernel_rfl) (by kernel_rfl) ?_ ?_; rotate_left; focus (simp only [Act.put, List.setIfInBounds_toArray, List.set_cons_zero, List.set_cons_succ]; rfl)
            refine PlanGo.takeI (a' := ?_) (some 94) (.bool false) (by kernel_rfl) (by kernel_rfl) (by kernel_rfl) (by kernel_rfl) (fun W hW => (by kernel_rfl)) ?_ ?_; rotate_left; focus (simp only [Act.put, List.setIfInBounds_toArray, List.set_cons_zero, List.set_cons_succ]; rfl)
            refine PlanGo.takeI (a' := ?_) (some 95) (.bool false) (by kernel_rfl) (by kernel_rfl) (by kernel_rfl) (by kernel_rfl) (fun W hW => (by kernel_rfl)) ?_ ?_; rotate_left; focus (simp only [Act.put, List.setIfInBounds_toArray, List.set_cons_zero, List.set_cons_succ]; rfl)
            refine PlanGo.takeI (a' := ?_) (some 96) (.bool false) (by kernel_rfl) (by kernel_rfl) (by kernel_rfl) (by kernel_rfl) (fun W hW => (by kernel_rfl)) ?_ ?_; rotate_left; focus (simp only [Act.put, List.setIfInBounds_toArray, List.set_cons_zero, List.set_cons_succ]; rfl)
            refine PlanGo.takeI (a' := ?_) (some 97) (.pointer (some ⟨B2, 0, none⟩)) (by kernel_rfl) (by kernel_rfl) (by kernel_rfl) (by kernel_rfl) (fun W hW => (by kernel_rfl)) ?_ ?_; rotate_left; focus (simp only [Act.put, List.setIfInBounds_toArray, List.set_cons_zero, List.set_cons_succ]; rfl)
            refine PlanGo.takeI (a' := ?_) (some 98) (.int .i64 K) (by kernel_rfl) (by kernel_rfl) (by kernel_rfl) (by kernel_rfl) (fun W hW => yl_int (x := .tmp 97) (by kernel_rfl) (by kernel_rfl) hW.1) ?_ ?_; rotate_left; focus (simp only [Act.put, List.setIfInBounds_toArray, List.set_cons_zero, List.set_cons_succ]; rfl)
            refine PlanGo.takeI (a' := ?_) (some 99) (.bool false) (by kernel_rfl) (by kernel_rfl) (by kernel_rfl) (by kernel_rfl) (fun W hW => ye_int (x := .tmp 98) (y := .const (.int .i64 4)) (m := K) (n := 4) (by kernel_rfl) (by kernel_rfl) (by kernel_rfl) e4) ?_ ?_; rotate_left; focus (simp only [Act.put, List.setIfInBounds_toArray, List.set_cons_zero, List.set_cons_succ]; rfl)
            refine PlanGo.takeI (a' := ?_) (some 100) (.bool false) (by kernel_rfl) (by kernel_rfl) (by kernel_rfl) (by kernel_rfl) (fun W hW => (by kernel_rfl)) ?_ ?_; rotate_left; focus (simp only [Act.put, List.setIfInBounds_toArray, List.set_cons_zero, List.set_cons_succ]; rfl)
            refine PlanGo.skipI (a' := ?_) (some 101) (by kernel_rfl) (by kernel_rfl) (by kernel_rfl) ?_ ?_; rotate_left; focus (simp only [Act.put, List.setIfInBounds_toArray, List.set_cons_zero, List.set_cons_succ]; rfl)
            refine PlanGo.skipI (a' := ?_) (some 102) (by kernel_rfl) (by kernel_rfl) (by kernel_rfl) ?_ ?_; rotate_left; focus (simp only [Act.put, List.setIfInBounds_toArray, List.set_cons_zero, List.set_cons_succ]; rfl)
            refine PlanGo.skipI (a' := ?_) (some 103) (by kernel_rfl) (by kernel_rfl) (by kernel_rfl) ?_ ?_; rotate_left; focus (simp only [Act.put, List.setIfInBounds_toArray, List.set_cons_zero, List.set_cons_succ]; rfl)
            refine PlanGo.skipI (a' := ?_) (some 104) (by kernel_rfl) (by kernel_rfl) (by kernel_rfl) ?_ ?_; rotate_left; focus (simp only [Act.put, List.setIfInBounds_toArray, List.set_cons_zero, List.set_cons_succ]; rfl)
            refine PlanGo.skipI (a' := ?_) (some 106) (by kernel_rfl) (by kernel_rfl) (by kernel_rfl) ?_ ?_; rotate_left; focus (simp only [Act.put, List.setIfInBounds_toArray, List.set_cons_zero, List.set_cons_succ]; rfl)
            refine PlanGo.skipI (a' := ?_) (some 107) (by kernel_rfl) (by kernel_rfl) (by kernel_rfl) ?_ ?_; rotate_left; focus (simp only [Act.put, List.setIfInBounds_toArray, List.set_cons_zero, List.set_cons_succ]; rfl)
            refine PlanGo.skipI (a' := ?_) (some 105) (by kernel_rfl) (by kernel_rfl) (by kernel_rfl) ?_ ?_; rotate_left; focus (simp only [Act.put, List.setIfInBounds_toArray, List.set_cons_zero, List.set_cons_succ]; rfl)
            refine PlanGo.skipI (a' := ?_) (some 108) (by kernel_rfl) (by kernel_rfl) (by kernel_rfl) ?_ ?_; rotate_left; focus (simp only [Act.put, List.setIfInBounds_toArray, List.set_cons_zero, List.set_cons_succ]; rfl)
            refine PlanGo.takeI (a' := ?_) (some 109) (.bool false) (by kernel_rfl) (by kernel_rfl) (by kernel_rfl) (by kernel_rfl) (fun W hW => (by kernel_rfl)) ?_ ?_; rotate_left; focus (simp only [Act.put, List.setIfInBounds_toArray, List.set_cons_zero, List.set_cons_succ]; rfl)
            refine PlanGo.takeI (a' := ?_) (some 110) (.bool false) (by kernel_rfl) (by kernel_rfl) (by kernel_rfl) (by kernel_rfl) (fun W hW => (by kernel_rfl)) ?_ ?_; rotate_left; focus (simp only [Act.put, List.setIfInBounds_toArray, List.set_cons_zero, List.set_cons_succ]; rfl)
            refine PlanGo.takeI (a' := ?_) (some 111) (.bool false) (by kernel_rfl) (by kernel_rfl) (by kernel_rfl) (by kernel_rfl) (fun W hW => (by kernel_rfl)) ?_ ?_; rotate_left; focus (simp only [Act.put, List.setIfInBounds_toArray, List.set_cons_zero, List.set_cons_succ]; rfl)
            refine PlanGo.takeI (a' := ?_) (some 112) (.pointer (some ⟨B2, 0, none⟩)) (by kernel_rfl) (by kernel_rfl) (by kernel_rfl) (by kernel_rfl) (fun W hW => (by kernel_rfl)) ?_ ?_; rotate_left; focus (simp only [Act.put, List.setIfInBounds_toArray, List.set_cons_zero, List.set_cons_succ]; rfl)
            refine PlanGo.takeI (a' := ?_) (some 113) (.int .i64 K) (by kernel_rfl) (by kernel_rfl) (by kernel_rfl) (by kernel_rfl) (fun W hW => yl_int (x := .tmp 112) (by kernel_rfl) (by kernel_rfl) hW.1) ?_ ?_; rotate_left; focus (simp only [Act.put, List.setIfInBounds_toArray, List.set_cons_zero, List.set_cons_succ]; rfl)
            refine PlanGo.takeI (a' := ?_) (some 114) (.bool false) (by kernel_rfl) (by kernel_rfl) (by kernel_rfl) (by kernel_rfl) (fun W hW => ye_int (x := .tmp 113) (y := .const (.int .i64 5)) (m := K) (n := 5) (by kernel_rfl) (by kernel_rfl) (by kernel_rfl) e5) ?_ ?_; rotate_left; focus (simp only [Act.put, List.setIfInBounds_toArray, List.set_cons_zero, List.set_cons_succ]; rfl)
            refine PlanGo.takeI (a' := ?_) (some 115) (.bool false) (by kernel_rfl) (by kernel_rfl) (by kernel_rfl) (by kernel_rfl) (fun W hW => (by kernel_rfl)) ?_ ?_; rotate_left; focus (simp only [Act.put, List.setIfInBounds_toArray, List.set_cons_zero, List.set_cons_succ]; rfl)
            refine PlanGo.skipI (a' := ?_) (some 116) (by kernel_rfl) (by kernel_rfl) (by kernel_rfl) ?_ ?_; rotate_left; focus (simp only [Act.put, List.setIfInBounds_toArray, List.set_cons_zero, List.set_cons_succ]; rfl)
            refine PlanGo.skipI (a' := ?_) (some 117) (by kernel_rfl) (by kernel_rfl) (by kernel_rfl) ?_ ?_; rotate_left; focus (simp only [Act.put, List.setIfInBounds_toArray, List.set_cons_zero, List.set_cons_succ]; rfl)
            refine PlanGo.skipI (a' := ?_) (some 118) (by kernel_rfl) (by kernel_rfl) (by kernel_rfl) ?_ ?_; rotate_left; focus (simp only [Act.put, List.setIfInBounds_toArray, List.set_cons_zero, List.set_cons_succ]; rfl)
            refine PlanGo.skipI (a' := ?_) (some 119) (by kernel_rfl) (by kernel_rfl) (by kernel_rfl) ?_ ?_; rotate_left; focus (simp only [Act.put, List.setIfInBounds_toArray, List.set_cons_zero, List.set_cons_succ]; rfl)
            refine PlanGo.skipI (a' := ?_) (some 121) (by kernel_rfl) (by kernel_rfl) (by kernel_rfl) ?_ ?_; rotate_left; focus (simp only [Act.put, List.setIfInBounds_toArray, List.set_cons_zero, List.set_cons_succ]; rfl)
            refine PlanGo.skipI (a' := ?_) (some 122) (by kernel_rfl) (by kernel_rfl) (by kernel_rfl) ?_ ?_; rotate_left; focus (simp only [Act.put, List.setIfInBounds_toArray, List.set_cons_zero, List.set_cons_succ]; rfl)
            refine PlanGo.skipI (a' := ?_) (some 120) (by kernel_rfl) (by kernel_rfl) (by kernel_rfl) ?_ ?_; rotate_left; focus (simp only [Act.put, List.setIfInBounds_toArray, List.set_cons_zero, List.set_cons_succ]; rfl)
            refine PlanGo.skipI (a' := ?_) (some 123) (by kernel_rfl) (by kernel_rfl) (by kernel_rfl) ?_ ?_; rotate_left; focus (simp only [Act.put, List.setIfInBounds_toArray, List.set_cons_zero, List.set_cons_succ]; rfl)
            refine PlanGo.skipI (a' := ?_) (some 124) (by kernel_rfl) (by kernel_rfl) (by kernel_rfl) ?_ ?_; rotate_left; focus (simp only [Act.put, List.setIfInBounds_toArray, List.set_cons_zero, List.set_cons_succ]; rfl)
            refine PlanGo.takeI (a' := ?_) (some 125) (.bool false) (by kernel_rfl) (by kernel_rfl) (by kernel_rfl) (by kernel_rfl) (fun W hW => (by kernel_rfl)) ?_ ?_; rotate_left; focus (simp only [Act.put, List.setIfInBounds_toArray, List.set_cons_zero, List.set_cons_succ]; rfl)
            refine PlanGo.takeI (a' := ?_) (some 126) (.bool false) (by kernel_rfl) (by kernel_rfl) (by kernel_rfl) (by kernel_rfl) (fun W hW => (by kernel_rfl)) ?_ ?_; rotate_left; focus (simp only [Act.put, List.setIfInBounds_toArray, List.set_cons_zero, List.set_cons_succ]; rfl)
            refine PlanGo.done (hQ0.out _ _ ?_)
            clear hQ0 Q0
            go_wp2_with fail
            go_roundw
            case rel => exact ⟨j + 1, by go_num, by omega, by rw [HL2.out, ← HE.out]; exact ⟨HA2.out.to HBW.out⟩⟩
            case measure => simp [intOf]; omega
          · obtain rfl : j = k := by omega
            have HL : Keep (Calls Try.prog 13 #[.pointer (some ⟨B1, 0, none⟩)] wr fun e w' => e = .returned (.int .i64 a1.size) ∧ Below wr.heap.size wr w') := ⟨by
              have := left_any _ _ 0 wr HA2.out.rd
              rw [rest_all, ← size_list] at this
              exact this⟩
            go_wp2_with fail
            refine HL.out.mono ?_
            rintro e w6 ⟨rfl, hb⟩
            have HA6 := keep (HA2.out.to hb)
            clear hb
            go_wp2_with fail
            refine (err_any _ _ 0 w6 HA6.out.rd).mono ?_
            rintro e w' ⟨rfl, rfl⟩
            go_wp2_with fail
            refine (live_any w6).mono ?_
            rintro e w7 ⟨rfl, hb3⟩
            have HB7 := keep (HA6.out.below.trans (hb3.mono HA6.out.below.size))
            clear hb3
            go_wp2_with fail
            go_ret
            exact ⟨rfl, HB7.out⟩
  · clear hx
    go_wp2_with fail
    refine (live_any w).mono ?_
    rintro e w1 ⟨rfl, hb⟩
    have HB := keep hb
    clear hb
    go_wp2_with fail
    go_ret
    exact ⟨rfl, HB.out⟩

theorem walk (v : Value) (n : Nat) (ps : Nat → Pt) (a1 : ByteArray) (w : World) (h : Parts w.heap.size w v n ps) :
    Calls Try.prog 5 #[v, .string a1] w fun e w' => e = .returned (.bool true) ∧ Below w.heap.size w w' := by
  by_cases h0 : (200 : Int) < (a1.size : Int)
  · exact walk_more v n ps a1 w h h0
  · rcases h.out with ⟨rfl, o, cap, rfl⟩ | ⟨b, off, cap, rfl, hb, hc⟩
    · exact walk_none o cap ps a1 w h (by omega)
    · exact walk_some b off n cap ps a1 w h (by omega) hb hc

theorem laid : laidOutB Try.prog = true := by kernel_rfl

set_option maxRecDepth 100000 in
theorem lifted (os : Os) (started : os.Started) (H : Type) (enc : TypeId × Value → H) :
    ReturnsInHanded {} Try.checked os 5 .any (Rows.wireBackSpec.pre6 enc Try.prog Try.f5 Rows.wireBackRow.domain false) (Rows.wireBackSpec.post enc Try.prog Try.f5 false true false false) := by
  refine returnsInHanded_of_change (C := Try.checked) own started (by kernel_rfl) Try.func5
    (ChangeSpec.witness6 (enc := enc) (C := Try.checked) false ⟨#[], #[.slice none 0 0, .string ByteArray.empty], []⟩ 8 (by kernel_rfl) (by kernel_rfl) (by kernel_rfl) (by kernel_rfl)) ?_
  intro W base args ds gs before hval0 hW hcnd _
  have hval : ∀ (j : Nat) t v, Try.f5.params[j]? = some t → args[j]? = some v → Value.okWide Try.prog W .any base t v := hval0
  have hW' := hW
  obtain ⟨p, q, hA0, hV, rfl, hfz, hnd⟩ := hW
  have hA : DataW.TrodAll enc Try.prog W 0 (fun _ => true) true Try.f5.params.toList args.toList ds p := hA0
  rw [Try.params5] at hA hval
  obtain ⟨v0, vs0, d0, ds0, p0, q0, hargs, rfl, rfl, h0, r0⟩ := trodAll_cons hA
  obtain ⟨v1, vs1, d1, ds1, p1, q1, rfl, rfl, rfl, h1, r1⟩ := trodAll_cons r0
  obtain ⟨rfl, rfl, rfl⟩ := trodAll_nil r1
  obtain rfl : args = #[v0, v1] := by cases args; simp_all
  obtain ⟨rfl, rfl⟩ := trodVars_none hV
  obtain ⟨n, ps, hP⟩ := parts_of (enc := enc) h0 (hval 0 22 v0 rfl rfl)
  obtain ⟨a1, rfl, rfl, rfl, w1⟩ := open_string Try.underlying9 (hval 1 9 v1 rfl rfl) h1
  clear hA0 hval0
  simp only [List.append_nil] at hW'
  have hlt0 : ∀ x ∈ p0, x.block < W.heap.size := fun x hx => by
    have := hW'.lt x (by simp [hx])
    simpa using this
  refine (walk v0 n ps a1 W hP).mono fun e W' ⟨he, hg⟩ => ?_
  subst he
  exact ⟨_, rfl, _, _, _, [], _, [], hW', (trodAll_cons_mk (shut_bool Try.underlying4 _) trodAll_mk0), (trodAll_cons_mk (Below.trod laid (by kernel_rfl) (of_decide_eq_true (by kernel_rfl)) h0 hg hlt0) (trodAll_cons_mk (shut_string Try.underlying9 w1) trodAll_mk0)), rfl, hg.frame _, fun h => by cases h⟩

theorem over : Rows.wireBackRow.holds Try.pinned (OpenSpec.ofChange Rows.wireBackSpec) :=
  OpenClaim.holds_of_wide 5 Try.f5 rfl rfl rfl rfl rfl rfl rfl ⟨rfl, rfl, rfl, rfl, rfl⟩ rfl rfl rfl rfl rfl (by kernel_rfl) Try.func5 (by kernel_rfl)
    (of_decide_eq_true (by kernel_rfl)) (by unfold Func.isWrapper; first | (rw [if_pos (by decide +kernel)]; kernel_rfl) | (rw [if_neg (by decide +kernel)]; exact ⟨rfl, rfl⟩))
    (fun os started H enc _ => lifted os started H enc)

/-- The statement. -/
theorem proved : Rows.WireBackSaid :=
  over
#print axioms proved
end Go.Proofs.Ytafeahjhdjcimaa.wireBack
