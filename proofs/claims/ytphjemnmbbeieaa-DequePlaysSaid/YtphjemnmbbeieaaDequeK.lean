/-
  What DequePlays holds: the deque, the document's row, the box of what was taken; whether there are too many acts.
-/
import Derived.Test.YtphjemnmbbeieaaDequeJ
namespace Go.Proofs.Ytphjemnmbbeieaa
open Go.RowKit

/-- The slice of acts, whether it is empty or not. -/
theorem AcRow.form {B : Nat} {w : World} {v : Value} {l : List Ac} (h : AcRow B w v l) : ∃ o cap, v = .slice o l.length cap ∧ ∀ i, i < l.length → ∃ b off, o = some ⟨b, off, none⟩ ∧ b < B ∧ ∀ W, Below B w W → W.cell? ⟨b, off + i * 3, none⟩ = some (.int .i64 (ac l i).K) ∧ W.cell? ⟨b, off + i * 3 + 1, none⟩ = some (.string (ac l i).X) ∧ W.cell? ⟨b, off + i * 3 + 2, none⟩ = some (.int .i64 (ac l i).N) := by
  rcases h.out with ⟨rfl, o, cap, rfl⟩ | ⟨b, off, cap, rfl, hb, hc⟩
  · exact ⟨o, cap, rfl, fun i hi => by simp at hi⟩
  · exact ⟨_, cap, rfl, fun i hi => ⟨b, off, rfl, hb, fun W hW => ⟨(hW.cell (p := ⟨b, off + i * 3, none⟩) hb).trans (hc i hi).1, (hW.cell (p := ⟨b, off + i * 3 + 1, none⟩) hb).trans (hc i hi).2.1, (hW.cell (p := ⟨b, off + i * 3 + 2, none⟩) hb).trans (hc i hi).2.2⟩⟩⟩

/-- Whether there are too many. -/
def LongTo (n : Nat) (e : Ending) : Prop := ∃ x, e = .returned (.bool x) ∧ (x = false → n ≤ 200)

set_option maxHeartbeats 1000000 in
theorem long_any (v : Value) (l : List Ac) (w : World) (h : AcRow w.heap.size w v l) :
    Calls Try.prog 7 #[v] w fun e w' => LongTo l.length e ∧ w = w' := by
  obtain ⟨o, cap, rfl, hr⟩ := h.form
  have HR := keep hr
  have hm := h.room
  have HBIG := keep h.big
  generalize l.length = n at *
  have hnI : (n : Int) ≤ 9223372036854775807 := by omega
  clear h hr hm
  go_enter Try.func7, Try.ntmps7
  go_wp2_with fail
  go_loop [3] (fun i => ∃ k : Nat, i = .int .i64 k ∧ k ≤ n ∧ (k : Int) ≤ 200) (fun i => n - (intOf i).toNat)
  case atStart => exact ⟨0, rfl, Nat.zero_le _, by omega⟩
  case round =>
    obtain ⟨k, rfl, hk, hk2⟩ := hrel
    by_cases hlt : (k : Int) < (n : Int)
    · have hd : decide ((k : Int) < (n : Int)) = true := by simp; omega
      by_cases h2 : (k : Int) < 200
      · obtain ⟨b, off, rfl, _, hc⟩ := HR.out k (by omega)
        obtain ⟨_, hc1, _⟩ := hc w (Below.refl _ _)
        have hbg := HBIG.out k (by omega)
        generalize (ac l k).X = X at *
        have hsI : (X.size : Int) ≤ 9223372036854775807 := by omega
        clear hc hbg
        by_cases hX : (100 : Int) < (X.size : Int)
        · go_wp2_with fail
          go_ret
          exact ⟨⟨true, rfl, fun e => by cases e⟩, rfl⟩
        · go_wp2_with fail
          go_round
          case rel => exact ⟨k + 1, by go_num, by omega, by omega⟩
          case measure => simp [intOf]; omega
      · have hk200 : (k : Int) = 200 := by omega
        have hn2 : (200 : Int) < (n : Int) := by omega
        go_wp2_with fail
        go_ret
        exact ⟨⟨true, rfl, fun e => by cases e⟩, rfl⟩
    · have hkn : n = k := by omega
      subst hkn
      have hd : decide ((n : Int) < (n : Int)) = false := by simp
      go_wp2_with fail
      go_ret
      exact ⟨⟨_, rfl, fun _ => by omega⟩, rfl⟩

/-! ### What the law holds -/
/-- Blocks that are neither texts nor deques are as they were. -/
def TKept (W W' : World) : Prop := ∀ (k : Nat) (cs : Array Value) (t : TypeId), W.heap[k]? = some (.cells cs t (0, 0)) → t ≠ 9 → t ≠ 27 → W'.heap[k]? = some (.cells cs t (0, 0))
theorem TKept.trans {X Y Z : World} (h : TKept X Y) (k : TKept Y Z) : TKept X Z := fun i cs t hi h1 h2 => k i cs t (h i cs t hi h1 h2) h1 h2
theorem TKept.of {X Y : World} (h : Below X.heap.size X Y) : TKept X Y := fun i _ _ hi _ _ => (h.block i (Array.getElem?_eq_some_iff.1 hi).1).trans hi

/-- The tags of the deque's blocks. -/
theorem DQ.tags {d : Nat} {r : Option Nat} {l : List ByteArray} {W : World} (h : DQ d r l W) : (∃ cs, W.heap[d]? = some (.cells cs 27 (0, 0))) ∧ ∀ g, r = some g → ∃ cs, W.heap[g]? = some (.cells cs 9 (0, 0)) := by
  rcases h.out with ⟨rfl, _, hb⟩ | ⟨g, cs, f, rfl, ha⟩
  · exact ⟨⟨_, hb⟩, fun g e => by cases e⟩
  · exact ⟨⟨_, ha.box⟩, fun g' e => by cases e; exact ⟨_, ha.cells⟩⟩
theorem DKept.tkept {d : Nat} {r r' : Option Nat} {l : List ByteArray} {W W' : World} (h : DKept d r r' W W') (hq : DQ d r l W) : TKept W W' := fun k cs t hk h1 h2 => by
  obtain ⟨⟨c1, e1⟩, h3⟩ := hq.tags
  refine h.heap hk (fun e => ?_) (fun e => ?_)
  · subst e; rw [hk] at e1; injection e1 with e1; injection e1 with _ e1 _; exact h2 e1
  · obtain ⟨c2, e2⟩ := h3 k e
    rw [hk] at e2; injection e2 with e2; injection e2 with _ e2 _; exact h1 e2

/-- The deque at d holds l, the document's row v holds m, and what was taken lies in a box at Bg. -/
structure LawP (w : World) (d Bg : Nat) (l : List ByteArray) (v : Value) (m : List ByteArray) (W : World) : Prop where
  out : ∃ r gb, DQ d r l W ∧ Hv W v m gb ∧ (∀ g, r = some g → w.heap.size ≤ g) ∧ (∀ g, gb = some g → w.heap.size ≤ g ∧ r ≠ some g)
  box : ∃ x b, W.heap[Bg]? = some (.cells #[.string x, .bool b] 29 (0, 0))
  below : Below w.heap.size w W
  dn : w.heap.size ≤ d
  bn : w.heap.size ≤ Bg

theorem LawP.deq {w W W' : World} {d Bg : Nat} {l l' m : List ByteArray} {v : Value} (h : LawP w d Bg l v m W) {r : Option Nat} (hq : DQ d r l W) (hr : ∀ g, r = some g → w.heap.size ≤ g) {gb : Option Nat} (hv : Hv W v m gb) (hg : ∀ g, gb = some g → w.heap.size ≤ g ∧ r ≠ some g) (hd : DTo d r l' W W') : LawP w d Bg l' v m W' ∧ TKept W W' := by
  obtain ⟨r', hq', hk⟩ := hd
  obtain ⟨⟨c1, e1⟩, _⟩ := hq.tags
  have htk := hk.tkept hq
  refine ⟨⟨⟨r', gb, hq', hv.heap (fun g e => ?_), fun g e => ?_, fun g e => ⟨(hg g e).1, fun e' => ?_⟩⟩, ?_, h.below.trans (hk.below h.dn hr h.below.size), h.dn, h.bn⟩, htk⟩
  · obtain ⟨hl, cur, hc⟩ := hv.lt g e
    refine hk.block g hl (fun e' => ?_) (hg g e).2
    subst e'
    rw [e1] at hc; injection hc with hc; injection hc with _ hc _
    exact absurd hc (by decide)
  · rcases hk.ring g e with e | e
    · exact hr g e
    · exact Nat.le_trans h.below.size e
  · rcases hk.ring g e' with e2 | e2
    · exact (hg g e).2 e2
    · have := (hv.lt g e).1; omega
  · obtain ⟨x, b, hx⟩ := h.box
    exact ⟨x, b, htk _ _ _ hx (by decide) (by decide)⟩
theorem LawP.to {w W W' : World} {d Bg : Nat} {l m : List ByteArray} {v : Value} (h : LawP w d Bg l v m W) (hb : Below W.heap.size W W') : LawP w d Bg l v m W' := by
  obtain ⟨r, gb, hq, hv, hr, hg⟩ := h.out
  obtain ⟨x, b, hx⟩ := h.box
  exact ⟨⟨r, gb, hq.below hb, hv.below hb, hr, hg⟩, ⟨x, b, (hb.block Bg (Array.getElem?_eq_some_iff.1 hx).1).trans hx⟩, h.below.trans (hb.mono h.below.size), h.dn, h.bn⟩
/-- The document's row grown. -/
theorem LawP.app {w W W' : World} {d Bg : Nat} {l m m' : List ByteArray} {v v' : Value} (h : LawP w d Bg l v m W) {r gb : Option Nat} (hq : DQ d r l W) (hr : ∀ g, r = some g → w.heap.size ≤ g) (hv : Hv W v m gb) (hg : ∀ g, gb = some g → w.heap.size ≤ g ∧ r ≠ some g) (ht : HvTo W m' gb v' W') : LawP w d Bg l v' m' W' ∧ TKept W W' := by
  obtain ⟨gb', hv', hgr, hn⟩ := ht
  obtain ⟨⟨c1, e1⟩, _⟩ := hq.tags
  have htk : TKept W W' := fun k cs t hk h1 _ => (hgr.block k (Array.getElem?_eq_some_iff.1 hk).1 (fun e => by
    obtain ⟨_, cur, hc⟩ := hv.lt k e.symm
    rw [hk] at hc; injection hc with hc; injection hc with _ hc _
    exact h1 hc)).trans hk
  refine ⟨⟨⟨r, gb', hq.heap (hgr.block d hq.lt (fun e => ?_)) (fun g e => hgr.block g (hq.rlt g e).1 (fun e' => (hg g e'.symm).2 e)), hv', hr, fun g e => ?_⟩, ?_, ?_, h.dn, h.bn⟩, htk⟩
  · obtain ⟨_, cur, hc⟩ := hv.lt d e.symm
    rw [e1] at hc; injection hc with hc; injection hc with _ hc _
    exact absurd hc (by decide)
  · rcases hn g e with e | e
    · exact hg g e
    · exact ⟨Nat.le_trans h.below.size e, fun e' => by have := (hq.rlt g e').1; omega⟩
  · obtain ⟨x, b, hx⟩ := h.box
    exact ⟨x, b, htk _ _ _ hx (by decide) (by decide)⟩
  · exact h.below.trans ⟨hgr.os, hgr.tape, hgr.output, hgr.size, fun k hk => hgr.block k (Nat.lt_of_lt_of_le hk h.below.size) (fun e => by have := (hg k e.symm).1; omega)⟩
/-- What was taken noted. -/
theorem LawP.got {w W : World} {d Bg : Nat} {l m : List ByteArray} {v : Value} (h : LawP w d Bg l v m W) (x : ByteArray) (b : Bool) : LawP w d Bg l v m ((W.setCell ⟨Bg, 0, none⟩ (.string x)).setCell ⟨Bg, 1, none⟩ (.bool b)) ∧ ((W.setCell ⟨Bg, 0, none⟩ (.string x)).setCell ⟨Bg, 1, none⟩ (.bool b)).heap[Bg]? = some (.cells #[.string x, .bool b] 29 (0, 0)) := by
  obtain ⟨r, gb, hq, hv, hr, hg⟩ := h.out
  obtain ⟨x0, b0, hx⟩ := h.box
  obtain ⟨⟨c1, e1⟩, e2⟩ := hq.tags
  have hbox : ((W.setCell ⟨Bg, 0, none⟩ (.string x)).setCell ⟨Bg, 1, none⟩ (.bool b)).heap[Bg]? = some (.cells #[.string x, .bool b] 29 (0, 0)) := by
    rw [heap_setCell_same _ Bg 1 _ _ _ (heap_setCell_same W Bg 0 _ _ _ hx)]; rfl
  have hoth : ∀ k, k ≠ Bg → ((W.setCell ⟨Bg, 0, none⟩ (.string x)).setCell ⟨Bg, 1, none⟩ (.bool b)).heap[k]? = W.heap[k]? := fun k hk => by
    rw [heap_setCell_other _ _ _ _ hk, heap_setCell_other _ _ _ _ hk]
  have htag : ∀ k cs t, W.heap[k]? = some (.cells cs t (0, 0)) → t ≠ 29 → k ≠ Bg := fun k cs t hk ht e => by
    subst e
    rw [hx] at hk; injection hk with hk; injection hk with _ hk _
    exact ht hk.symm
  refine ⟨⟨⟨r, gb, hq.heap (hoth d (htag d _ _ e1 (by decide))) (fun g e => ?_), hv.heap (fun g e => ?_), hr, hg⟩, ⟨x, b, hbox⟩, (h.below.setCell (p := ⟨Bg, 0, none⟩) h.bn _).setCell (p := ⟨Bg, 1, none⟩) h.bn _, h.dn, h.bn⟩, hbox⟩
  · obtain ⟨cs, hc⟩ := e2 g e
    exact hoth g (htag g _ _ hc (by decide))
  · obtain ⟨_, cs, hc⟩ := hv.lt g e
    exact hoth g (htag g _ _ hc (by decide))
end Go.Proofs.Ytphjemnmbbeieaa
