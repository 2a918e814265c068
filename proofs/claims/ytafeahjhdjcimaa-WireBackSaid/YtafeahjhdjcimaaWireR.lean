/-
  A part that is read by both sides: the same.
-/
import Derived.Test.YtafeahjhdjcimaaWireS
namespace Go.Proofs.Ytafeahjhdjcimaa
open Go.RowKit Go.Joins

/-- A part, as the law's values: its kind, its number, its int, its bool, its text, its list (the slice and what it reads as). -/
structure Pt where
  K : Int
  U : Int
  N : Int
  B : Bool
  S : ByteArray
  v : Value
  L : List Int
def Pt.agg (p : Pt) : Value := .agg #[.int .i64 p.K, .int .u64 p.U, .int .i64 p.N, .bool p.B, .string p.S, p.v]
structure PtOk (B : Nat) (w : World) (p : Pt) : Prop where
  k : -9223372036854775808 ≤ p.K ∧ p.K ≤ 9223372036854775807
  u : 0 ≤ p.U ∧ p.U < 18446744073709551616
  n : -9223372036854775808 ≤ p.N ∧ p.N ≤ 9223372036854775807
  s : p.S.size ≤ 9223372036854775807
  l : IntRow B w p.v p.L
  ls : ∀ z ∈ p.L, -9223372036854775808 ≤ z ∧ z ≤ 9223372036854775807

/-- What a part's read leaves. -/
def partS (p : Pt) (l : List UInt8) (f : Int) : Rd :=
  if p.K = 0 then numS l f else if p.K = 1 then numS l f else if p.K = 2 then boolS l f else if p.K = 3 then textS p.N l f else if p.K = 4 then rawS p.N l f else if p.K = 5 then intsS p.N l f
  else if p.K = 6 then uptoS p.N l f else if 0 ≤ p.N ∧ p.N ≤ 18 then failS p.N l f else (l, f)

/-- Both readers afterwards. -/
structure Both (p q : Value) (x : Rd) (w w' : World) : Prop where
  rd : PR p x.1 x.2 w'
  xr : XR q x.1 x.2 w'
  os : w'.os = w.os
  tape : w'.tape = w.tape
  output : w'.output = w.output
  size : w.heap.size ≤ w'.heap.size
  block : ∀ k, k < w.heap.size → blk p ≠ some k → blk q ≠ some k → w'.heap[k]? = w.heap[k]?

theorem Both.mk2 {p q : Value} {l : List UInt8} {f : Int} {x : Rd} {w w1 w2 : World} (_hp : PR p l f w) (hx : XR q l f w) (h1 : RdTo p x w w1) (h2 : XR q l f w1 → XrTo q x w1 w2) (hn : ∀ b, blk p = some b → blk q ≠ some b) : Both p q x w w2 := by
  obtain ⟨a1, a2⟩ := h1
  obtain ⟨b1, b2⟩ := h2 (hx.kept a2 hn)
  exact ⟨a1.kept b2 (fun b e c => hn b c e), b1, b2.os.trans a2.os, b2.tape.trans a2.tape, b2.output.trans a2.output, Nat.le_trans a2.size b2.size, fun k hk n1 n2 => (b2.block k (Nat.lt_of_lt_of_le hk a2.size) n2).trans (a2.block k hk n1)⟩
theorem Both.from {p q : Value} {x : Rd} {w w0 w' : World} (h : Both p q x w0 w') (hb : Below w.heap.size w w0) : Both p q x w w' :=
  ⟨h.rd, h.xr, h.os.trans hb.os, h.tape.trans hb.tape, h.output.trans hb.output, Nat.le_trans hb.size h.size, fun k hk n1 n2 => (h.block k (Nat.lt_of_lt_of_le hk hb.size) n1 n2).trans (hb.block k hk)⟩
theorem Both.to {p q : Value} {x : Rd} {w w' w2 : World} (h : Both p q x w w') (hb : Below w'.heap.size w' w2) : Both p q x w w2 :=
  ⟨h.rd.kept (p := .pointer none) (Kept.of hb) (fun _ e => by cases e), h.xr.kept (p := .pointer none) (Kept.of hb) (fun _ e => by cases e), hb.os.trans h.os, hb.tape.trans h.tape, hb.output.trans h.output, Nat.le_trans h.size hb.size, fun k hk n1 n2 => (hb.block k (Nat.lt_of_lt_of_le hk h.size)).trans (h.block k hk n1 n2)⟩

/-- What read answers. -/
def ReadTo (p q : Value) (x : Rd) (w : World) (e : Ending) (w' : World) : Prop := e = .returned (.bool true) ∧ Both p q x w w'

/-- The world with the part in its box. -/
abbrev boxed (w : World) (a : Pt) : World := w.alloc (.cells #[.int .i64 a.K, .int .u64 a.U, .int .i64 a.N, .bool a.B, .string a.S, a.v] 33)
theorem boxed_cell (w : World) (a : Pt) : (boxed w a).cell? ⟨w.heap.size, 0, none⟩ = some (.int .i64 a.K) ∧ (boxed w a).cell? ⟨w.heap.size, 1, none⟩ = some (.int .u64 a.U) ∧ (boxed w a).cell? ⟨w.heap.size, 2, none⟩ = some (.int .i64 a.N) ∧
    (boxed w a).cell? ⟨w.heap.size, 3, none⟩ = some (.bool a.B) ∧ (boxed w a).cell? ⟨w.heap.size, 4, none⟩ = some (.string a.S) ∧ (boxed w a).cell? ⟨w.heap.size, 5, none⟩ = some a.v :=
  ⟨cell_of_block (heap_alloc_new w _) 0, cell_of_block (heap_alloc_new w _) 1, cell_of_block (heap_alloc_new w _) 2, cell_of_block (heap_alloc_new w _) 3, cell_of_block (heap_alloc_new w _) 4, cell_of_block (heap_alloc_new w _) 5⟩

set_option maxHeartbeats 400000 in
theorem read_num (p q : Value) (a : Pt) (l : List UInt8) (f : Int) (w : World) (hp : PR p l f w) (hx : XR q l f w) (hn : ∀ b, blk p = some b → blk q ≠ some b) (hK : a.K = 0) :
    Calls Try.prog 12 #[p, q, a.agg] w (ReadTo p q (numS l f) w) := by
  obtain ⟨K, U, N, Bb, S, v, L⟩ := a
  obtain rfl : K = 0 := hK
  have HP := keep (hp.alloc (.cells #[.int .i64 0, .int .u64 U, .int .i64 N, .bool Bb, .string S, v] 33))
  have HX := keep (hx.alloc (.cells #[.int .i64 0, .int .u64 U, .int .i64 N, .bool Bb, .string S, v] 33))
  have HN := keep hn
  clear hp hx hn
  unfold Pt.agg
  go_enter Try.func12, Try.ntmps12
  go_wp2_with fail
  refine (num_any p l f _ HP.out).mono ?_
  rintro e w1 ⟨rfl, hR⟩
  have HX1 := keep (HX.out.kept hR.2 HN.out)
  have HR := keep hR
  clear hR
  go_wp2_with fail
  refine (xnum_any q l f w1 HX1.out).mono ?_
  rintro e w2 ⟨rfl, hR⟩
  have HR2 := keep hR
  clear hR
  generalize (numV l f : Int) = u at *
  go_wp2_with fail
  go_ret
  exact ⟨by simp, (Both.mk2 HP.out HX.out HR.out (fun _ => HR2.out) HN.out).from (below_alloc1 _ _)⟩

set_option maxHeartbeats 400000 in
theorem read_int (p q : Value) (a : Pt) (l : List UInt8) (f : Int) (w : World) (hp : PR p l f w) (hx : XR q l f w) (hn : ∀ b, blk p = some b → blk q ≠ some b) (hK : a.K = 1) :
    Calls Try.prog 12 #[p, q, a.agg] w (ReadTo p q (numS l f) w) := by
  obtain ⟨K, U, N, Bb, S, v, L⟩ := a
  obtain rfl : K = 1 := hK
  have HP := keep (hp.alloc (.cells #[.int .i64 1, .int .u64 U, .int .i64 N, .bool Bb, .string S, v] 33))
  have HX := keep (hx.alloc (.cells #[.int .i64 1, .int .u64 U, .int .i64 N, .bool Bb, .string S, v] 33))
  have HN := keep hn
  clear hp hx hn
  unfold Pt.agg
  go_enter Try.func12, Try.ntmps12
  go_wp2_with fail
  refine (int_any p l f _ HP.out).mono ?_
  rintro e w1 ⟨rfl, hR⟩
  have HX1 := keep (HX.out.kept hR.2 HN.out)
  have HR := keep hR
  clear hR
  go_wp2_with fail
  refine (xint_any q l f w1 HX1.out).mono ?_
  rintro e w2 ⟨rfl, hR⟩
  have HR2 := keep hR
  clear hR
  generalize zag (numV l f : Int) = u at *
  go_wp2_with fail
  go_ret
  exact ⟨by simp, (Both.mk2 HP.out HX.out HR.out (fun _ => HR2.out) HN.out).from (below_alloc1 _ _)⟩

set_option maxHeartbeats 400000 in
theorem read_bool (p q : Value) (a : Pt) (l : List UInt8) (f : Int) (w : World) (hp : PR p l f w) (hx : XR q l f w) (hn : ∀ b, blk p = some b → blk q ≠ some b) (hK : a.K = 2) :
    Calls Try.prog 12 #[p, q, a.agg] w (ReadTo p q (boolS l f) w) := by
  obtain ⟨K, U, N, Bb, S, v, L⟩ := a
  obtain rfl : K = 2 := hK
  have HP := keep (hp.alloc (.cells #[.int .i64 2, .int .u64 U, .int .i64 N, .bool Bb, .string S, v] 33))
  have HX := keep (hx.alloc (.cells #[.int .i64 2, .int .u64 U, .int .i64 N, .bool Bb, .string S, v] 33))
  have HN := keep hn
  clear hp hx hn
  unfold Pt.agg
  go_enter Try.func12, Try.ntmps12
  go_wp2_with fail
  refine (bool_any p l f _ HP.out).mono ?_
  rintro e w1 ⟨rfl, hR⟩
  have HX1 := keep (HX.out.kept hR.2 HN.out)
  have HR := keep hR
  clear hR
  go_wp2_with fail
  refine (xbool_any q l f w1 HX1.out).mono ?_
  rintro e w2 ⟨rfl, hR⟩
  have HR2 := keep hR
  clear hR
  generalize boolV l f = u at *
  go_wp2_with fail
  go_ret
  exact ⟨by simp, (Both.mk2 HP.out HX.out HR.out (fun _ => HR2.out) HN.out).from (below_alloc1 _ _)⟩

theorem PR.same {p : Value} {l : List UInt8} {f : Int} {w w' : World} (h : PR p l f w) (e : w'.heap = w.heap) : PR p l f w' := by
  rcases h.out with h | ⟨b, s, a, h1, h2, h3, h4⟩
  · exact ⟨.inl h⟩
  · exact ⟨.inr ⟨b, s, a, h1, h2, h3, h4.le, by rw [e]; exact h4.at_⟩⟩
theorem XR.same {p : Value} {l : List UInt8} {f : Int} {w w' : World} (h : XR p l f w) (e : w'.heap = w.heap) : XR p l f w' := by
  obtain ⟨b, h1, h2, h3⟩ := h.out
  exact ⟨b, h1, h2, by rw [e]; exact h3⟩
theorem blk_ne {p : Value} {l : List UInt8} {f : Int} {w : World} (h : PR p l f w) : blk p ≠ some w.heap.size := fun e => by have := h.blk_lt _ e; omega

set_option maxHeartbeats 1000000 in
theorem read_text (p q : Value) (a : Pt) (l : List UInt8) (f : Int) (w : World) (hp : PR p l f w) (hx : XR q l f w) (hn : ∀ b, blk p = some b → blk q ≠ some b) (hK : a.K = 3) (h0 : -9223372036854775808 ≤ a.N) (h1 : a.N ≤ 9223372036854775807) :
    Calls Try.prog 12 #[p, q, a.agg] w (ReadTo p q (textS a.N l f) w) := by
  obtain ⟨K, U, N, Bb, S, v, L⟩ := a
  obtain rfl : K = 3 := hK
  simp only at h0 h1 ⊢
  have HNE := keep (blk_ne hp)
  have HNQ : Keep (blk q ≠ some w.heap.size) := ⟨fun e => by have := hx.blk_lt _ e; omega⟩
  have HC := keep (fun w' hw' => text_any p N l f w' hw' h0 h1)
  have HXC := keep (fun w' hw' => xtext_any q N l f w' hw' h0 h1)
  obtain ⟨W, hW⟩ : ∃ W, W = w.alloc (.cells #[.int .i64 3, .int .u64 U, .int .i64 N, .bool Bb, .string S, v] 33) := ⟨_, rfl⟩
  have HP : Keep (PR p l f W.drew) := ⟨by rw [hW]; exact (hp.alloc _).same rfl⟩
  have HX : Keep (XR q l f W.drew) := ⟨by rw [hW]; exact (hx.alloc _).same rfl⟩
  have HBW : Keep (Below w.heap.size w W.drew) := ⟨by rw [hW]; exact (below_alloc1 _ _).drew⟩
  have hcP : W.cell? ⟨w.heap.size, 2, none⟩ = some (.int .i64 N) := by rw [hW]; exact cell_of_block (heap_alloc_new w _) 2
  have HN := keep hn
  clear hp hx hn h0 h1
  unfold Pt.agg
  go_enter Try.func12, Try.ntmps12
  go_wp2_with fail
  rw [← hW]
  have HW := keep hW
  clear hW
  go_region_held3 (fun w' => w'.cell? ⟨w.heap.size, 2, none⟩ = some (.int .i64 N)) (first | exact hcP | exact hcP1.out | exact hcP2.out | exact hcP3.out) (first
    | (go_at_call 20; refine (HC.out _ HP.out).mono ?_; rintro e w1 ⟨rfl, hR⟩; have HX1 := keep (HX.out.kept hR.2 HN.out); have hcP1 := keep (hR.2.cell (q := ⟨w.heap.size, 2, none⟩) hcP HNE.out); have HR := keep hR; clear hR)
    | (go_at_call 39; refine (HXC.out _ HX1.out).mono ?_; rintro e w2 ⟨rfl, hR⟩; have hcP2 := keep (hR.2.cell (q := ⟨w.heap.size, 2, none⟩) hcP1.out HNQ.out); have HR2 := keep hR; clear hR))
  all_goals
    go_wp2_with fail
    go_ret
    exact ⟨rfl, (Both.mk2 HP.out HX.out HR.out (fun _ => HR2.out) HN.out).from HBW.out⟩
set_option maxHeartbeats 1000000 in
theorem read_raw (p q : Value) (a : Pt) (l : List UInt8) (f : Int) (w : World) (hp : PR p l f w) (hx : XR q l f w) (hn : ∀ b, blk p = some b → blk q ≠ some b) (hK : a.K = 4) (h0 : -9223372036854775808 ≤ a.N) (h1 : a.N ≤ 9223372036854775807) :
    Calls Try.prog 12 #[p, q, a.agg] w (ReadTo p q (rawS a.N l f) w) := by
  obtain ⟨K, U, N, Bb, S, v, L⟩ := a
  obtain rfl : K = 4 := hK
  simp only at h0 h1 ⊢
  have HNE := keep (blk_ne hp)
  have HNQ : Keep (blk q ≠ some w.heap.size) := ⟨fun e => by have := hx.blk_lt _ e; omega⟩
  have HC := keep (fun w' hw' => raw_any p N l f w' hw' h0 h1)
  have HXC := keep (fun w' hw' => xraw_any q N l f w' hw')
  obtain ⟨W, hW⟩ : ∃ W, W = w.alloc (.cells #[.int .i64 4, .int .u64 U, .int .i64 N, .bool Bb, .string S, v] 33) := ⟨_, rfl⟩
  have HP : Keep (PR p l f W.drew) := ⟨by rw [hW]; exact (hp.alloc _).same rfl⟩
  have HX : Keep (XR q l f W.drew) := ⟨by rw [hW]; exact (hx.alloc _).same rfl⟩
  have HBW : Keep (Below w.heap.size w W.drew) := ⟨by rw [hW]; exact (below_alloc1 _ _).drew⟩
  have hcP : W.cell? ⟨w.heap.size, 2, none⟩ = some (.int .i64 N) := by rw [hW]; exact cell_of_block (heap_alloc_new w _) 2
  have HN := keep hn
  clear hp hx hn h0 h1
  unfold Pt.agg
  go_enter Try.func12, Try.ntmps12
  go_wp2_with fail
  rw [← hW]
  have HW := keep hW
  clear hW
  go_region_held3 (fun w' => w'.cell? ⟨w.heap.size, 2, none⟩ = some (.int .i64 N)) (first | exact hcP | exact hcP1.out | exact hcP2.out | exact hcP3.out) (first
    | (go_at_call 21; refine (HC.out _ HP.out).mono ?_; rintro e w1 ⟨rfl, hR⟩; have HX1 := keep (HX.out.kept hR.2 HN.out); have hcP1 := keep (hR.2.cell (q := ⟨w.heap.size, 2, none⟩) hcP HNE.out); have HR := keep hR; clear hR)
    | (go_at_call 40; refine (HXC.out _ HX1.out).mono ?_; rintro e w2 ⟨rfl, hR⟩; have hcP2 := keep (hR.2.cell (q := ⟨w.heap.size, 2, none⟩) hcP1.out HNQ.out); have HR2 := keep hR; clear hR))
  all_goals
    go_wp2_with fail
    go_ret
    exact ⟨rfl, (Both.mk2 HP.out HX.out HR.out (fun _ => HR2.out) HN.out).from HBW.out⟩
set_option maxHeartbeats 1000000 in
theorem read_upto (p q : Value) (a : Pt) (l : List UInt8) (f : Int) (w : World) (hp : PR p l f w) (hx : XR q l f w) (hn : ∀ b, blk p = some b → blk q ≠ some b) (hK : a.K = 6) (h0 : -9223372036854775808 ≤ a.N) (h1 : a.N ≤ 9223372036854775807) :
    Calls Try.prog 12 #[p, q, a.agg] w (ReadTo p q (uptoS a.N l f) w) := by
  obtain ⟨K, U, N, Bb, S, v, L⟩ := a
  obtain rfl : K = 6 := hK
  simp only at h0 h1 ⊢
  have HNE := keep (blk_ne hp)
  have HNQ : Keep (blk q ≠ some w.heap.size) := ⟨fun e => by have := hx.blk_lt _ e; omega⟩
  have HC := keep (fun w' hw' => upto_any p N l f w' hw' h0 h1)
  have HXC := keep (fun w' hw' => xupto_any q N l f w' hw' h0 h1)
  obtain ⟨W, hW⟩ : ∃ W, W = w.alloc (.cells #[.int .i64 6, .int .u64 U, .int .i64 N, .bool Bb, .string S, v] 33) := ⟨_, rfl⟩
  have HP : Keep (PR p l f W.drew) := ⟨by rw [hW]; exact (hp.alloc _).same rfl⟩
  have HX : Keep (XR q l f W.drew) := ⟨by rw [hW]; exact (hx.alloc _).same rfl⟩
  have HBW : Keep (Below w.heap.size w W.drew) := ⟨by rw [hW]; exact (below_alloc1 _ _).drew⟩
  have hcP : W.cell? ⟨w.heap.size, 2, none⟩ = some (.int .i64 N) := by rw [hW]; exact cell_of_block (heap_alloc_new w _) 2
  have HN := keep hn
  clear hp hx hn h0 h1
  unfold Pt.agg
  go_enter Try.func12, Try.ntmps12
  go_wp2_with fail
  rw [← hW]
  have HW := keep hW
  clear hW
  generalize uptoV N l f = u at *
  go_region_held3 (fun w' => w'.cell? ⟨w.heap.size, 2, none⟩ = some (.int .i64 N)) (first | exact hcP | exact hcP1.out | exact hcP2.out | exact hcP3.out) (first
    | (go_at_call 42; refine (HC.out _ HP.out).mono ?_; rintro e w1 ⟨rfl, hR⟩; have HX1 := keep (HX.out.kept hR.2 HN.out); have hcP1 := keep (hR.2.cell (q := ⟨w.heap.size, 2, none⟩) hcP HNE.out); have HR := keep hR; clear hR)
    | (go_at_call 43; refine (HXC.out _ HX1.out).mono ?_; rintro e w2 ⟨rfl, hR⟩; have hcP2 := keep (hR.2.cell (q := ⟨w.heap.size, 2, none⟩) hcP1.out HNQ.out); have HR2 := keep hR; clear hR))
  all_goals
    go_wp2_with fail
    go_ret
    exact ⟨rfl, (Both.mk2 HP.out HX.out HR.out (fun _ => HR2.out) HN.out).from HBW.out⟩
set_option maxHeartbeats 1000000 in
theorem read_ints (p q : Value) (a : Pt) (l : List UInt8) (f : Int) (w : World) (hp : PR p l f w) (hx : XR q l f w) (hn : ∀ b, blk p = some b → blk q ≠ some b) (hK : a.K = 5) (h0 : -9223372036854775808 ≤ a.N) (h1 : a.N ≤ 9223372036854775807) :
    Calls Try.prog 12 #[p, q, a.agg] w (ReadTo p q (intsS a.N l f) w) := by
  obtain ⟨K, U, N, Bb, S, v, L⟩ := a
  obtain rfl : K = 5 := hK
  simp only at h0 h1 ⊢
  have HNE := keep (blk_ne hp)
  have HNQ : Keep (blk q ≠ some w.heap.size) := ⟨fun e => by have := hx.blk_lt _ e; omega⟩
  have HC := keep (fun w' hw' => ints_any p N l f w' hw' h0 h1)
  have HXC := keep (fun w' hw' => xints_any q N l f w' hw' h0 h1)
  obtain ⟨W, hW⟩ : ∃ W, W = w.alloc (.cells #[.int .i64 5, .int .u64 U, .int .i64 N, .bool Bb, .string S, v] 33) := ⟨_, rfl⟩
  have HP : Keep (PR p l f W.drew) := ⟨by rw [hW]; exact (hp.alloc _).same rfl⟩
  have HX : Keep (XR q l f W.drew) := ⟨by rw [hW]; exact (hx.alloc _).same rfl⟩
  have HBW : Keep (Below w.heap.size w W.drew) := ⟨by rw [hW]; exact (below_alloc1 _ _).drew⟩
  have hcP : W.cell? ⟨w.heap.size, 2, none⟩ = some (.int .i64 N) := by rw [hW]; exact cell_of_block (heap_alloc_new w _) 2
  have HN := keep hn
  have HXL := keep HX.out.blk_lt
  clear hp hx hn h0 h1
  generalize intsV N l f = xs at *
  unfold Pt.agg
  go_enter Try.func12, Try.ntmps12
  go_wp2_with fail
  rw [← hW]
  have HW := keep hW
  clear hW
  go_region_held3 (fun w' => w'.cell? ⟨w.heap.size, 2, none⟩ = some (.int .i64 N)) (first | exact hcP | exact hcP1.out | exact hcP2.out | exact hcP3.out) (first
    | (go_at_call 23; refine (HC.out _ HP.out).mono ?_; rintro e w1 ⟨v1, rfl, ho, hR⟩; have HX1 := keep (HX.out.kept hR.2 HN.out); have hcP1 := keep (hR.2.cell (q := ⟨w.heap.size, 2, none⟩) hcP HNE.out); have HR := keep hR; have HO := keep ho; clear hR ho)
    | (go_at_call 41; refine (HXC.out _ HX1.out).mono ?_; rintro e w2 ⟨v2, rfl, ho, hR⟩; have hcP2 := keep (hR.2.cell (q := ⟨w.heap.size, 2, none⟩) hcP1.out HNQ.out); have HR2 := keep hR; have HS := keep (same_any v1 v2 xs w2 (IntRow.of_own (owns_kept HO.out hR.2 HXL.out)) (IntRow.of_own ho)); clear hR ho)
    | (go_at_call 22; refine HS.out.mono ?_; rintro e w3 ⟨rfl, hb⟩; have hcP3 := keep ((hb.cell (p := ⟨w.heap.size, 2, none⟩) (World.block_lt_of_cell? _ _ hcP2.out)).trans hcP2.out); have HB3 := keep hb; clear hb))
  all_goals
    go_wp2_with fail
    go_ret
    exact ⟨rfl, ((Both.mk2 HP.out HX.out HR.out (fun _ => HR2.out) HN.out).from HBW.out).to HB3.out⟩

set_option maxHeartbeats 1000000 in
theorem read_fail (p q : Value) (a : Pt) (l : List UInt8) (f : Int) (w : World) (hp : PR p l f w) (hx : XR q l f w) (hn : ∀ b, blk p = some b → blk q ≠ some b) (hK : a.K < 0 ∨ 6 < a.K) (h0 : 0 ≤ a.N) (h1 : a.N ≤ 18) :
    Calls Try.prog 12 #[p, q, a.agg] w (ReadTo p q (failS a.N l f) w) := by
  obtain ⟨K, U, N, Bb, S, v, L⟩ := a
  simp only at h0 h1 hK ⊢
  have HNE := keep (blk_ne hp)
  have HC := keep (fun w' hw' => fail_any p N l f w' hw')
  have HXC := keep (fun w' hw' => xFail_any q N l f w' hw')
  have HP := keep (hp.alloc (.cells #[.int .i64 K, .int .u64 U, .int .i64 N, .bool Bb, .string S, v] 33))
  have HX := keep (hx.alloc (.cells #[.int .i64 K, .int .u64 U, .int .i64 N, .bool Bb, .string S, v] 33))
  have HN := keep hn
  have e0 : (K == 0) = false := by simp; omega
  have e1 : (K == 1) = false := by simp; omega
  have e2 : (K == 2) = false := by simp; omega
  have e3 : (K == 3) = false := by simp; omega
  have e4 : (K == 4) = false := by simp; omega
  have e5 : (K == 5) = false := by simp; omega
  have e6 : (K == 6) = false := by simp; omega
  have HCP : Keep ((w.alloc (.cells #[.int .i64 K, .int .u64 U, .int .i64 N, .bool Bb, .string S, v] 33)).cell? ⟨w.heap.size, 2, none⟩ = some (.int .i64 N)) := ⟨cell_of_block (heap_alloc_new w _) 2⟩
  clear hp hx hn hK
  unfold Pt.agg
  go_enter Try.func12, Try.ntmps12
  go_wp2_with fail
  refine (HC.out _ HP.out).mono ?_
  rintro e w1 ⟨rfl, hR⟩
  have HX1 := keep (HX.out.kept hR.2 HN.out)
  have hcP1 := hR.2.cell (q := ⟨w.heap.size, 2, none⟩) HCP.out HNE.out
  have HR := keep hR
  clear hR
  go_wp2_with fail
  refine (HXC.out _ HX1.out).mono ?_
  rintro e w2 ⟨rfl, hR⟩
  have HR2 := keep hR
  clear hR
  go_wp2_with fail
  go_ret
  exact ⟨rfl, (Both.mk2 HP.out HX.out HR.out (fun _ => HR2.out) HN.out).from (below_alloc1 _ _)⟩

set_option maxHeartbeats 1000000 in
theorem read_none (p q : Value) (a : Pt) (l : List UInt8) (f : Int) (w : World) (hp : PR p l f w) (hx : XR q l f w) (hn : ∀ b, blk p = some b → blk q ≠ some b) (hK : a.K < 0 ∨ 6 < a.K) (h0 : a.N < 0 ∨ 18 < a.N) :
    Calls Try.prog 12 #[p, q, a.agg] w (ReadTo p q (l, f) w) := by
  obtain ⟨K, U, N, Bb, S, v, L⟩ := a
  simp only at h0 hK ⊢
  have HP := keep hp
  have HX := keep hx
  have HN := keep hn
  have e0 : (K == 0) = false := by simp; omega
  have e1 : (K == 1) = false := by simp; omega
  have e2 : (K == 2) = false := by simp; omega
  have e3 : (K == 3) = false := by simp; omega
  have e4 : (K == 4) = false := by simp; omega
  have e5 : (K == 5) = false := by simp; omega
  have e6 : (K == 6) = false := by simp; omega
  clear hp hx hn hK
  unfold Pt.agg
  rcases h0 with h0 | h0
  · go_enter Try.func12, Try.ntmps12
    go_wp2_with fail
    go_ret
    exact ⟨rfl, (Both.mk2 HP.out HX.out ⟨HP.out, Kept.refl _ _⟩ (fun h => ⟨h, Kept.refl _ _⟩) HN.out).to (below_alloc1 _ _)⟩
  · have h1 : 0 ≤ N := by omega
    go_enter Try.func12, Try.ntmps12
    go_wp2_with fail
    go_ret
    exact ⟨rfl, (Both.mk2 HP.out HX.out ⟨HP.out, Kept.refl _ _⟩ (fun h => ⟨h, Kept.refl _ _⟩) HN.out).to (below_alloc1 _ _)⟩

/-- A part that is read by both: the same is told, and both go on alike. -/
theorem read_any (p q : Value) (a : Pt) (l : List UInt8) (f : Int) (w : World) (B : Nat) (hp : PR p l f w) (hx : XR q l f w) (hn : ∀ b, blk p = some b → blk q ≠ some b) (ha : PtOk B w a) :
    Calls Try.prog 12 #[p, q, a.agg] w (ReadTo p q (partS a l f) w) := by
  obtain ⟨h0, h1⟩ := ha.n
  unfold partS
  by_cases k0 : a.K = 0
  · rw [if_pos k0]; exact read_num p q a l f w hp hx hn k0
  rw [if_neg k0]
  by_cases k1 : a.K = 1
  · rw [if_pos k1]; exact read_int p q a l f w hp hx hn k1
  rw [if_neg k1]
  by_cases k2 : a.K = 2
  · rw [if_pos k2]; exact read_bool p q a l f w hp hx hn k2
  rw [if_neg k2]
  by_cases k3 : a.K = 3
  · rw [if_pos k3]; exact read_text p q a l f w hp hx hn k3 h0 h1
  rw [if_neg k3]
  by_cases k4 : a.K = 4
  · rw [if_pos k4]; exact read_raw p q a l f w hp hx hn k4 h0 h1
  rw [if_neg k4]
  by_cases k5 : a.K = 5
  · rw [if_pos k5]; exact read_ints p q a l f w hp hx hn k5 h0 h1
  rw [if_neg k5]
  by_cases k6 : a.K = 6
  · rw [if_pos k6]; exact read_upto p q a l f w hp hx hn k6 h0 h1
  rw [if_neg k6]
  by_cases k7 : 0 ≤ a.N ∧ a.N ≤ 18
  · rw [if_pos k7]; exact read_fail p q a l f w hp hx hn (by omega) k7.1 k7.2
  · rw [if_neg k7]; exact read_none p q a l f w hp hx hn (by omega) (by omega)
end Go.Proofs.Ytafeahjhdjcimaa
