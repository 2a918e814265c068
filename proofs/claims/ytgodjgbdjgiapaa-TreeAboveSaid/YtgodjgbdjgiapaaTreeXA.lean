/-
  The rows of a kind's kids; the document's term. (Laid by tools/gen/treeX.py.)
-/
import Derived.Test.YtgodjgbdjgiapaaTreeW
namespace Go.Proofs.Ytgodjgbdjgiapaa
open Go.RowKit Go.Joins

theorem rowC_off {c : UInt8} {x : Nd} (h : clsOf x.O ≠ c) : rowC c x = none := by unfold rowC; rw [if_neg (fun e => h e.1)]
theorem rowC_is {c : UInt8} {x : Nd} {r : List UInt8} {b : Bool} (h : clsOf x.O = c) (hf : fitsP x = b) (hr : b = true → rowP x = r) : rowC c x = if b = true then some r else none := by
  unfold rowC
  cases b with
  | true => rw [if_pos ⟨h, hf⟩, if_pos rfl, hr rfl]
  | false => rw [if_neg (fun e => by rw [hf] at e; cases e.2), if_neg (by simp)]
theorem n_zero (n : Int) : (decide (0 ≤ n) && decide (n ≤ 0)) = (n == 0) := by
  by_cases h : n = 0
  · subst h; rfl
  · rw [show (n == 0) = false by simpa using h]
    by_cases h0 : 0 ≤ n
    · rw [decide_eq_false (show ¬ n ≤ 0 by omega)]; simp
    · rw [decide_eq_false h0]; rfl
theorem shp_eq (f : List UInt8) (k : Int) : (Shp.mk f 0 []).fits k = (k == (f.length : Int)) := by unfold Shp.fits; simp
theorem row_eq (f : List UInt8) : (Shp.mk f 0 []).row f.length = f := by unfold Shp.row; simp
theorem fits_bar {x : Nd} {f : List UInt8} (h1 : isNmd x.O = false) (h2 : mostP x.O = 0) (h3 : shpP x = ⟨f, 0, []⟩) : fitsP x = bar x f.length := by
  unfold fitsP nameP bar
  rw [h1, h2, h3, shp_eq, if_neg (by simp), Bool.and_assoc (noP x.S), n_zero]
theorem fits_nmd {x : Nd} {f : List UInt8} (h1 : isNmd x.O = true) (h2 : mostP x.O = 0) (h3 : shpP x = ⟨f, 0, []⟩) : fitsP x = nmd x f.length := by
  unfold fitsP nameP nmd
  rw [h1, h2, h3, shp_eq, if_pos rfl, Bool.and_assoc (nmP x.S), n_zero]
theorem row_bar {x : Nd} {f : List UInt8} (h3 : shpP x = ⟨f, 0, []⟩) (h : bar x f.length = true) : rowP x = f := by
  unfold bar at h
  simp only [Bool.and_eq_true, beq_iff_eq] at h
  unfold rowP; rw [h3, h.2, Int.toNat_natCast, row_eq]
theorem row_nmd {x : Nd} {f : List UInt8} (h3 : shpP x = ⟨f, 0, []⟩) (h : nmd x f.length = true) : rowP x = f := by
  unfold nmd at h
  simp only [Bool.and_eq_true, beq_iff_eq] at h
  unfold rowP; rw [h3, h.2, Int.toNat_natCast, row_eq]
/-- A node without a name, whose kids are all told. -/
theorem rowC_bar {c : UInt8} {x : Nd} {f : List UInt8} (hc : clsOf x.O = c) (h1 : isNmd x.O = false) (h2 : mostP x.O = 0) (h3 : shpP x = ⟨f, 0, []⟩) : rowC c x = if bar x f.length = true then some f else none := rowC_is hc (fits_bar h1 h2 h3) (row_bar h3)
theorem rowC_nmd {c : UInt8} {x : Nd} {f : List UInt8} (hc : clsOf x.O = c) (h1 : isNmd x.O = true) (h2 : mostP x.O = 0) (h3 : shpP x = ⟨f, 0, []⟩) : rowC c x = if nmd x f.length = true then some f else none := rowC_is hc (fits_nmd h1 h2 h3) (row_nmd h3)
theorem more_fits (f la : List UInt8) (m : UInt8) (hm : (m != 0) = true) (k : Int) : (Shp.mk f m la).fits k = decide (((f.length + la.length : Nat) : Int) ≤ k) := by
  unfold Shp.fits
  simp only [hm, Bool.and_true]
  by_cases h : ((f.length + la.length : Nat) : Int) ≤ k
  · rw [decide_eq_true h]
    by_cases e : k = ((f.length + la.length : Nat) : Int)
    · rw [show (k == ((f.length + la.length : Nat) : Int)) = true by simpa using e]; rfl
    · rw [decide_eq_true (show ((f.length + la.length : Nat) : Int) < k by omega)]; simp
  · rw [decide_eq_false h, decide_eq_false (show ¬ ((f.length + la.length : Nat) : Int) < k by omega), show (k == ((f.length + la.length : Nat) : Int)) = false by simp; omega]; rfl
/-- As many kids as one likes. -/
theorem rowC_mbar {c : UInt8} {x : Nd} {f la : List UInt8} {m : UInt8} {r : List UInt8} (hc : clsOf x.O = c) (h1 : isNmd x.O = false) (h2 : mostP x.O = 0) (h3 : shpP x = ⟨f, m, la⟩) (hm : (m != 0) = true) (hr : ((f.length + la.length : Nat) : Int) ≤ x.K → (Shp.mk f m la).row x.K.toNat = r) :
    rowC c x = if (decide (((f.length + la.length : Nat) : Int) ≤ x.K) && bar x x.K) = true then some r else none := by
  refine rowC_is hc ?_ ?_
  · unfold fitsP nameP bar
    rw [h1, h2, h3, more_fits _ _ _ hm, if_neg (by simp), Bool.and_assoc (noP x.S), n_zero, Bool.and_comm (decide _)]
    simp
  · intro h
    simp only [Bool.and_eq_true, decide_eq_true_eq] at h
    unfold rowP; rw [h3, hr h.1]
theorem rowC_mnmd {c : UInt8} {x : Nd} {f la : List UInt8} {m : UInt8} {r : List UInt8} (hc : clsOf x.O = c) (h1 : isNmd x.O = true) (h2 : mostP x.O = 0) (h3 : shpP x = ⟨f, m, la⟩) (hm : (m != 0) = true) (hr : ((f.length + la.length : Nat) : Int) ≤ x.K → (Shp.mk f m la).row x.K.toNat = r) :
    rowC c x = if (decide (((f.length + la.length : Nat) : Int) ≤ x.K) && nmd x x.K) = true then some r else none := by
  refine rowC_is hc ?_ ?_
  · unfold fitsP nameP nmd
    rw [h1, h2, h3, more_fits _ _ _ hm, if_pos rfl, Bool.and_assoc (nmP x.S), n_zero, Bool.and_comm (decide _)]
    simp
  · intro h
    simp only [Bool.and_eq_true, decide_eq_true_eq] at h
    unfold rowP; rw [h3, hr h.1]
theorem row_all (m : UInt8) (k : Nat) : (Shp.mk [] m []).row k = List.replicate k m := by unfold Shp.row; simp
theorem row_sel (m : UInt8) (k : Int) (h : 1 ≤ k) : (Shp.mk [m] m []).row k.toNat = List.replicate k.toNat m := by
  unfold Shp.row
  obtain ⟨j, hj⟩ : ∃ j, k.toNat = j + 1 := ⟨k.toNat - 1, by omega⟩
  rw [hj, List.replicate_succ]; simp
theorem row_proc (m p : UInt8) (k : Int) : (Shp.mk [] m [p]).row k.toNat = List.replicate (k - 1).toNat m ++ [p] := by
  unfold Shp.row
  rw [show (k - 1).toNat = k.toNat - 1 by omega]; simp
theorem goP_case {l : List Nd} {c : UInt8} {a : Nat} {x : Nd} {r : List UInt8} {b : Bool} (hx : l[a]? = some x) (h : rowC c x = if b = true then some r else none) : goP l [c] a = if b = true then goR l r (a + 1, true) else (a, false) := by
  cases b with
  | true => exact goP_one hx h
  | false => exact goP_no hx h
theorem goP_off {l : List Nd} {c : UInt8} {a : Nat} {x : Nd} (hx : l[a]? = some x) (h : clsOf x.O ≠ c) : goP l [c] a = (a, false) := goP_no hx (rowC_off h)

/-- The boxes of a node, of two places, and of the answer. -/
structure TB (w : World) (x : Nd) (a a1 : Nat) (W : World) : Prop where
  nd : BoxL W w.heap.size [.int .i64 x.O, .string x.S, .int .i64 x.N, .int .i64 x.K, .int .i64 x.A]
  no : BoxL W (w.heap.size + 1) [.int .i64 (a : Int), .bool false]
  inn : BoxL W (w.heap.size + 1 + 1) [.int .i64 (a1 : Int), .bool true]
  res : BoxL W (w.heap.size + 1 + 1 + 1) [.int .i64 0, .bool false]
  below : Below w.heap.size w W
theorem TB.to {w : World} {x : Nd} {a a1 : Nat} {W W' : World} (h : TB w x a a1 W) (hb : Below W.heap.size W W') : TB w x a a1 W' := ⟨h.nd.to hb, h.no.to hb, h.inn.to hb, h.res.to hb, h.below.trans (hb.mono h.below.size)⟩
theorem TB.drew {w : World} {x : Nd} {a a1 : Nat} {W : World} (h : TB w x a a1 W) : TB w x a a1 W.drew := ⟨h.nd.drew, h.no.drew, h.inn.drew, h.res.drew, h.below.drew⟩
theorem TB.facts {w : World} {x : Nd} {a a1 : Nat} {W : World} (h : TB w x a a1 W) :
    W.cell? ⟨w.heap.size, 0, none⟩ = some (.int .i64 x.O) ∧ W.cell? ⟨w.heap.size, 1, none⟩ = some (.string x.S) ∧ W.cell? ⟨w.heap.size, 2, none⟩ = some (.int .i64 x.N) ∧ W.cell? ⟨w.heap.size, 3, none⟩ = some (.int .i64 x.K) ∧ W.cell? ⟨w.heap.size, 4, none⟩ = some (.int .i64 x.A) ∧
    W.cell? ⟨w.heap.size + 1, 0, none⟩ = some (.int .i64 (a : Int)) ∧ W.cell? ⟨w.heap.size + 1, 1, none⟩ = some (.bool false) ∧
    W.cell? ⟨w.heap.size + 1 + 1, 0, none⟩ = some (.int .i64 (a1 : Int)) ∧ W.cell? ⟨w.heap.size + 1 + 1, 1, none⟩ = some (.bool true) ∧
    W.cell? ⟨w.heap.size + 1 + 1 + 1, 0, none⟩ = some (.int .i64 0) ∧ W.cell? ⟨w.heap.size + 1 + 1 + 1, 1, none⟩ = some (.bool false) ∧
    w.heap.size + 1 + 1 + 1 < W.heap.size ∧ (∀ i, W.frozen? ⟨w.heap.size + 1 + 1 + 1, i, none⟩ = false) ∧
    (∀ x, (W.setCell ⟨w.heap.size + 1 + 1 + 1, 0, none⟩ x).cell? ⟨w.heap.size + 1 + 1 + 1, 0, none⟩ = some x) ∧ (∀ x y, ((W.setCell ⟨w.heap.size + 1 + 1 + 1, 0, none⟩ x).setCell ⟨w.heap.size + 1 + 1 + 1, 1, none⟩ y).cell? ⟨w.heap.size + 1 + 1 + 1, 1, none⟩ = some y) :=
  ⟨h.nd.row 0 _ rfl, h.nd.row 1 _ rfl, h.nd.row 2 _ rfl, h.nd.row 3 _ rfl, h.nd.row 4 _ rfl, h.no.row 0 _ rfl, h.no.row 1 _ rfl, h.inn.row 0 _ rfl, h.inn.row 1 _ rfl, h.res.row 0 _ rfl, h.res.row 1 _ rfl, h.res.lt, h.res.free, h.res.put2.s0, h.res.put2.s1⟩
/-- The world behind the four boxes. -/
def w4 (w : World) (x : Nd) (a a1 : Nat) : World := (((w.alloc (.cells #[.int .i64 x.O, .string x.S, .int .i64 x.N, .int .i64 x.K, .int .i64 x.A] 39)).alloc (.cells #[.int .i64 (a : Int), .bool false] 53)).alloc (.cells #[.int .i64 (a1 : Int), .bool true] 53)).alloc (.cells #[.int .i64 0, .bool false] 53)
theorem TB.start (w : World) (x : Nd) (a a1 : Nat) : TB w x a a1 (w4 w x a a1) := by
  have h0 := BoxL.new w [.int .i64 x.O, .string x.S, .int .i64 x.N, .int .i64 x.K, .int .i64 x.A] 39
  have h1 := BoxL.new (w.alloc (.cells #[.int .i64 x.O, .string x.S, .int .i64 x.N, .int .i64 x.K, .int .i64 x.A] 39)) [.int .i64 (a : Int), .bool false] 53
  have h2 := BoxL.new ((w.alloc (.cells #[.int .i64 x.O, .string x.S, .int .i64 x.N, .int .i64 x.K, .int .i64 x.A] 39)).alloc (.cells #[.int .i64 (a : Int), .bool false] 53)) [.int .i64 (a1 : Int), .bool true] 53
  have h3 := BoxL.new (((w.alloc (.cells #[.int .i64 x.O, .string x.S, .int .i64 x.N, .int .i64 x.K, .int .i64 x.A] 39)).alloc (.cells #[.int .i64 (a : Int), .bool false] 53)).alloc (.cells #[.int .i64 (a1 : Int), .bool true] 53)) [.int .i64 0, .bool false] 53
  simp only [World.size_alloc] at h1 h2 h3
  exact ⟨((h0.alloc _).alloc _).alloc _, (h1.alloc _).alloc _, h2.alloc _, h3, ((((Below.refl _ w).alloc (Nat.le_refl _) _).alloc (by simp) _).alloc (by simp; omega) _).alloc (by simp; omega) _⟩
/-- The callees, as a way meets them. -/
structure Ask (v : Value) (l : List Nd) (x : Nd) (a1 : Nat) (w : World) : Prop where
  nm : ∀ (k : Int) W, Calls Try.prog 42 #[.agg #[.int .i64 x.O, .string x.S, .int .i64 x.N, .int .i64 x.K, .int .i64 x.A], .int .i64 k] W fun e w' => e = .returned (.bool (nmd x k)) ∧ Below W.heap.size W w'
  br : ∀ (k : Int) W, Calls Try.prog 44 #[.agg #[.int .i64 x.O, .string x.S, .int .i64 x.N, .int .i64 x.K, .int .i64 x.A], .int .i64 k] W fun e w' => e = .returned (.bool (bar x k)) ∧ Below W.heap.size W w'
  row : ∀ (cs : List UInt8), cs.length ≤ 1000 → cs.all okC = true → ∀ W, Below w.heap.size w W → Calls Try.prog 46 #[v, .agg #[.int .i64 (a1 : Int), .bool true], .string (str cs)] W fun e w' => e = .returned (.agg #[.int .i64 ((goR l cs (a1, true)).1 : Int), .bool (goR l cs (a1, true)).2]) ∧ Below W.heap.size W w'
  all : ∀ (c : UInt8), okC c = true → ∀ (N : Int), N ≤ 9223372036854775807 → ∀ W, Below w.heap.size w W → Calls Try.prog 43 #[v, .agg #[.int .i64 (a1 : Int), .bool true], .string (str [c]), .int .i64 N] W fun e w' => e = .returned (.agg #[.int .i64 ((goR l (List.replicate N.toNat c) (a1, true)).1 : Int), .bool (goR l (List.replicate N.toNat c) (a1, true)).2]) ∧ Below W.heap.size W w'
theorem Ask.of {v : Value} {l : List Nd} {B : Nat} {x : Nd} {a1 : Nat} {w : World} (hn : l.length ≤ 1000) (HT : Tells v l B a1) (hl : a1 ≤ l.length) (hok : x.ok) (hrow : NdRow B w v l) (hB : B ≤ w.heap.size) : Ask v l x a1 w := by
  exact ⟨fun k W => name_any' x k hok.s W, fun k W => bare_any x k W,
    fun cs h1 h2 W hW => row_in v l B a1 HT cs h1 h2 (a1, true) (Nat.le_refl _) hl W (hrow.below (hW.mono hB)) (Nat.le_trans hB hW.size),
    fun c h1 N h2 W hW => all_in v l B a1 hn HT c h1 N h2 (a1, true) (Nat.le_refl _) hl W (hrow.below (hW.mono hB)) (Nat.le_trans hB hW.size)⟩
end Go.Proofs.Ytgodjgbdjgiapaa
