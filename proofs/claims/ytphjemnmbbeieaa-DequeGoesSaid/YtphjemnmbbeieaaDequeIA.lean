/-
  The deque in memory; its places and its length; copying it.
-/
import Derived.Test.YtphjemnmbbeieaaProg
import Derived.Test.YtphjemnmbbeieaaDequeM
import Derived.Test.YtphjemnmbbeieaaAny
import Derived.Deep.Cut
import Derived.Deep.QuietTactic
import Derived.BigQuiet
namespace Go.Proofs.Ytphjemnmbbeieaa.I
open Go.RowKit

/-- The deque's struct at block d. -/
def DBox (d : Nat) (o : Option Addr) (n f k : Nat) (w : World) : Prop := w.heap[d]? = some (.cells #[.slice o n n, .int .i64 (f : Int), .int .i64 (k : Int)] 51 (0, 0))
theorem DBox.cells {d : Nat} {o : Option Addr} {n f k : Nat} {w : World} (h : DBox d o n f k w) : w.cell? ⟨d, 0, none⟩ = some (.slice o n n) ∧ w.cell? ⟨d, 1, none⟩ = some (.int .i64 (f : Int)) ∧ w.cell? ⟨d, 2, none⟩ = some (.int .i64 (k : Int)) ∧ w.frozen? ⟨d, 0, none⟩ = false ∧ w.frozen? ⟨d, 1, none⟩ = false ∧ w.frozen? ⟨d, 2, none⟩ = false := by
  unfold DBox at h
  refine ⟨?_, ?_, ?_, frozen_of_row w d 0 _ _ h, frozen_of_row w d 1 _ _ h, frozen_of_row w d 2 _ _ h⟩ <;> (rw [cell_of_row w d _ _ _ _ h]; rfl)
theorem DBox.lt {d : Nat} {o : Option Addr} {n f k : Nat} {w : World} (h : DBox d o n f k w) : d < w.heap.size := (Array.getElem?_eq_some_iff.1 h).1
theorem DBox.set0 {d : Nat} {o : Option Addr} {n f k : Nat} {w : World} (h : DBox d o n f k w) (o' : Option Addr) (n' : Nat) : DBox d o' n' f k (w.setCell ⟨d, 0, none⟩ (.slice o' n' n')) := heap_setCell_same w d 0 _ _ _ h
theorem DBox.set1 {d : Nat} {o : Option Addr} {n f k : Nat} {w : World} (h : DBox d o n f k w) (f' : Nat) : DBox d o n f' k (w.setCell ⟨d, 1, none⟩ (.int .i64 (f' : Int))) := heap_setCell_same w d 1 _ _ _ h
theorem DBox.set2 {d : Nat} {o : Option Addr} {n f k : Nat} {w : World} (h : DBox d o n f k w) (k' : Nat) : DBox d o n f k' (w.setCell ⟨d, 2, none⟩ (.int .i64 (k' : Int))) := heap_setCell_same w d 2 _ _ _ h

/-- The deque at block d with its ring at block g. -/
structure DAt (d g : Nat) (cs : List Value) (f : Nat) (l : List Int) (w : World) : Prop where
  box : DBox d (some ⟨g, 0, none⟩) cs.length f l.length w
  cells : w.heap[g]? = some (.cells cs.toArray 3 (0, 0))
  ne : g ≠ d
  le : cs.length ≤ 1000000
  ring : Ring cs f (l.map (Value.int .i64))
/-- The deque at block d: it has no ring yet, or one at block r. -/
structure DQ (d : Nat) (r : Option Nat) (l : List Int) (w : World) : Prop where
  out : (r = none ∧ l = [] ∧ DBox d none 0 0 0 w) ∨ (∃ g cs f, r = some g ∧ DAt d g cs f l w)

theorem DAt.dq {d g : Nat} {cs : List Value} {f : Nat} {l : List Int} {w : World} (h : DAt d g cs f l w) : DQ d (some g) l w := ⟨.inr ⟨g, cs, f, rfl, h⟩⟩
theorem DAt.room {d g : Nat} {cs : List Value} {f : Nat} {l : List Int} {w : World} (h : DAt d g cs f l w) : l.length ≤ cs.length := by have := h.ring.room; rwa [List.length_map] at this
theorem DAt.heap {d g : Nat} {cs : List Value} {f : Nat} {l : List Int} {w w' : World} (h : DAt d g cs f l w) (h1 : w'.heap[d]? = w.heap[d]?) (h2 : w'.heap[g]? = w.heap[g]?) : DAt d g cs f l w' :=
  ⟨h1.trans h.box, h2.trans h.cells, h.ne, h.le, h.ring⟩
theorem DAt.glt {d g : Nat} {cs : List Value} {f : Nat} {l : List Int} {w : World} (h : DAt d g cs f l w) : g < w.heap.size := (Array.getElem?_eq_some_iff.1 h.cells).1
theorem DQ.heap {d : Nat} {r : Option Nat} {l : List Int} {w w' : World} (h : DQ d r l w) (h1 : w'.heap[d]? = w.heap[d]?) (h2 : ∀ g, r = some g → w'.heap[g]? = w.heap[g]?) : DQ d r l w' := by
  rcases h.out with ⟨hr, hl, hb⟩ | ⟨g, cs, f, hr, ha⟩
  · exact ⟨.inl ⟨hr, hl, h1.trans hb⟩⟩
  · exact ⟨.inr ⟨g, cs, f, hr, ha.heap h1 (h2 g hr)⟩⟩
theorem DQ.lt {d : Nat} {r : Option Nat} {l : List Int} {w : World} (h : DQ d r l w) : d < w.heap.size := by
  rcases h.out with ⟨_, _, hb⟩ | ⟨_, _, _, _, ha⟩
  · exact hb.lt
  · exact ha.box.lt
theorem DQ.rlt {d : Nat} {r : Option Nat} {l : List Int} {w : World} (h : DQ d r l w) : ∀ g, r = some g → g < w.heap.size ∧ g ≠ d := by
  intro g e
  rcases h.out with ⟨hr, _, _⟩ | ⟨g', _, _, hr, ha⟩
  · rw [hr] at e; cases e
  · rw [hr] at e; cases e; exact ⟨ha.glt, ha.ne⟩
theorem DQ.below {d : Nat} {r : Option Nat} {l : List Int} {w w' : World} (h : DQ d r l w) (hb : Below w.heap.size w w') : DQ d r l w' :=
  h.heap (hb.block d h.lt) (fun g e => hb.block g (h.rlt g e).1)
theorem DAt.below {d g : Nat} {cs : List Value} {f : Nat} {l : List Int} {w w' : World} (h : DAt d g cs f l w) (hb : Below w.heap.size w w') : DAt d g cs f l w' :=
  h.heap (hb.block d h.box.lt) (hb.block g h.glt)
/-- The box, whatever the case. -/
theorem DQ.box {d : Nat} {r : Option Nat} {l : List Int} {w : World} (h : DQ d r l w) : ∃ o n f, DBox d o n f l.length w ∧ n ≤ 1000000 ∧ f ≤ 1000000 ∧ l.length ≤ n := by
  rcases h.out with ⟨_, rfl, hb⟩ | ⟨g, cs, f, _, ha⟩
  · exact ⟨none, 0, 0, hb, by omega, by omega, by simp⟩
  · exact ⟨_, _, f, ha.box, ha.le, by have := ha.ring.first; have := ha.le; omega, ha.room⟩

theorem elInfo : (Try.prog.info? 3).map (·.size) = some 1 := by kernel_rfl
theorem elSize (w : World) : (Go.sizeOf 3).run Try.prog w = .ok 1 w := by rfl
theorem one_els (l : List Int) : ∀ v ∈ l.map (Value.int .i64), v.oneCell' = true := by
  intro v hv
  obtain ⟨s, _, rfl⟩ := List.mem_map.1 hv
  rfl

theorem place_any (d : Nat) (o : Option Addr) (n f i : Nat) (w : World) (h0 : w.cell? ⟨d, 0, none⟩ = some (.slice o n n)) (h1 : w.cell? ⟨d, 1, none⟩ = some (.int .i64 (f : Int))) (hn : n ≤ 1000000) (hf : f ≤ 1000000) (hi : i ≤ 1000000) :
    Calls Try.prog 33 #[.pointer (some ⟨d, 0, none⟩), .int .i64 (i : Int)] w fun e w' => e = .returned (.int .i64 (wr n (f + i) : Nat)) ∧ w = w' := by
  have hnI : (n : Int) ≤ 1000000 := by omega
  have hfI : (f : Int) ≤ 1000000 := by omega
  have hiI : (i : Int) ≤ 1000000 := by omega
  have hn0 : (0 : Int) ≤ (n : Int) := by omega
  have hf0 : (0 : Int) ≤ (f : Int) := by omega
  have hi0 : (0 : Int) ≤ (i : Int) := by omega
  have HW : Keep ((f : Int) + (i : Int) < (n : Int) → ((f : Int) + (i : Int) = ((wr n (f + i) : Nat) : Int))) := ⟨fun h => by unfold wr; rw [if_pos (by omega)]; omega⟩
  have HV : Keep (¬ (f : Int) + (i : Int) < (n : Int) → ((f : Int) + (i : Int) - (n : Int) = ((wr n (f + i) : Nat) : Int))) := ⟨fun h => by unfold wr; rw [if_neg (by omega)]; omega⟩
  generalize wr n (f + i) = r at *
  clear hn hf hi
  by_cases h : (f : Int) + (i : Int) < (n : Int)
  · have HR := keep (HW.out h)
    go_enter Try.func33, Try.ntmps33
    go_wp2
    go_ret
    exact ⟨ret_int HR.out, rfl⟩
  · have HR := keep (HV.out h)
    have hge : (n : Int) ≤ (f : Int) + (i : Int) := by omega
    clear h
    go_enter Try.func33, Try.ntmps33
    go_wp2
    go_ret
    exact ⟨ret_int HR.out, rfl⟩

theorem len_any (d k : Nat) (w : World) (h2 : w.cell? ⟨d, 2, none⟩ = some (.int .i64 (k : Int))) :
    Calls Try.prog 25 #[.pointer (some ⟨d, 0, none⟩)] w fun e w' => e = .returned (.int .i64 (k : Int)) ∧ w = w' := by
  go_enter Try.func25, Try.ntmps25
  go_wp2
  go_ret
  exact ⟨rfl, rfl⟩
theorem len_nil (w : World) :
    Calls Try.prog 25 #[.pointer none] w fun e w' => e = .returned (.int .i64 0) ∧ w = w' := by
  go_enter Try.func25, Try.ntmps25
  go_wp2
  go_ret
  exact ⟨rfl, rfl⟩
end Go.Proofs.Ytphjemnmbbeieaa.I
