/-
  The readers of both sides as they lie in memory; what a call of theirs leaves alone; the program's Err, Left, End and Fail.
-/
import Derived.Test.YtafeahjhdjcimaaWireM
import Derived.Lib.SmallJoins
import Derived.OneCell
import Derived.Deep.Cut
import Derived.Deep.QuietTactic
import Derived.BigQuiet
import Derived.Outline
import Derived.Lib.Strings
namespace Go.Proofs.Ytafeahjhdjcimaa
open Go.RowKit Go.Joins

/-- The block that a pointer leads to. -/
def blk : Value → Option Nat
  | .pointer (some a) => some a.block
  | _ => none

/-- All that was there is as it was, but for the block behind p. -/
structure Kept (p : Value) (w w' : World) : Prop where
  os : w'.os = w.os
  tape : w'.tape = w.tape
  output : w'.output = w.output
  size : w.heap.size ≤ w'.heap.size
  block : ∀ k, k < w.heap.size → blk p ≠ some k → w'.heap[k]? = w.heap[k]?

theorem Kept.refl (p : Value) (w : World) : Kept p w w := ⟨rfl, rfl, rfl, Nat.le_refl _, fun _ _ _ => rfl⟩
theorem Kept.trans {p : Value} {a b c : World} (h : Kept p a b) (k : Kept p b c) : Kept p a c :=
  ⟨k.os.trans h.os, k.tape.trans h.tape, k.output.trans h.output, Nat.le_trans h.size k.size, fun i hi hn => (k.block i (Nat.lt_of_lt_of_le hi h.size) hn).trans (h.block i hi hn)⟩
theorem Kept.of {p : Value} {a b : World} (h : Below a.heap.size a b) : Kept p a b := ⟨h.os, h.tape, h.output, h.size, fun i hi _ => h.block i hi⟩
theorem Kept.drew {p : Value} {a b : World} (h : Kept p a b) : Kept p a b.drew := ⟨h.os, h.tape, h.output, h.size, h.block⟩
theorem Kept.drew' {p : Value} {a b : World} (h : Kept p a.drew b) : Kept p a b := ⟨h.os, h.tape, h.output, h.size, h.block⟩
theorem Kept.alloc {p : Value} {a b : World} (h : Kept p a b) (o : Obj) : Kept p a (b.alloc o) := h.trans (Kept.of ((Below.refl _ _).alloc (Nat.le_refl _) _))
theorem Kept.setCell {p : Value} {a b : World} (h : Kept p a b) {q : Addr} (hq : blk p = some q.block ∨ a.heap.size ≤ q.block) (u : Value) : Kept p a (b.setCell q u) :=
  ⟨h.os, h.tape, h.output, by show a.heap.size ≤ (b.heap.modify _ _).size; simpa using h.size, fun k hk hn => by
    rw [Below.heap_setCell _ _ _ _ (fun e => hq.elim (fun hq => hn (by rw [hq, e])) (fun hq => by omega))]
    exact h.block k hk hn⟩
theorem Kept.below {p : Value} {a b : World} {B : Nat} (h : Kept p a b) (hp : ∀ k, blk p = some k → B ≤ k) (hB : B ≤ a.heap.size) : Below B a b :=
  ⟨h.os, h.tape, h.output, h.size, fun k hk => h.block k (by omega) (fun e => by have := hp k e; omega)⟩
theorem Kept.heap {p : Value} {a b : World} (h : Kept p a b) {k : Nat} {o : Obj} (hk : a.heap[k]? = some o) (hn : blk p ≠ some k) : b.heap[k]? = some o := by
  rw [h.block k (lt_of_block hk) hn]; exact hk
theorem Kept.cell {p : Value} {a b : World} (h : Kept p a b) {q : Addr} {v : Value} (hq : a.cell? q = some v) (hn : blk p ≠ some q.block) : b.cell? q = some v := by
  rw [World.cell?_of_block (h.block q.block (World.block_lt_of_cell? a q hq) hn)]; exact hq

/-! ### The readers -/
/-- The program's reader at block b: it reads s from a, and f is wrong. -/
structure RdAt (b : Nat) (s : ByteArray) (a : Nat) (f : Int) (w : World) : Prop where
  le : a ≤ s.size
  at_ : w.heap[b]? = some (.cells #[.string s, .int .i64 a, .int .i64 f] 62 (0, 0))
/-- The program's reader behind p, nil too: what is left and what is wrong. -/
structure PR (p : Value) (l : List UInt8) (f : Int) (w : World) : Prop where
  out : (p = .pointer none ∧ l = [] ∧ f = 9) ∨ ∃ b s a, p = .pointer (some ⟨b, 0, none⟩) ∧ l = s.data.toList.drop a ∧ s.size ≤ 1000000 ∧ RdAt b s a f w
/-- The document's reader behind p. -/
structure XR (p : Value) (l : List UInt8) (f : Int) (w : World) : Prop where
  out : ∃ b, p = .pointer (some ⟨b, 0, none⟩) ∧ l.length ≤ 1000000 ∧ w.heap[b]? = some (.cells #[.string (str l), .int .i64 f] 39 (0, 0))

theorem RdAt.kept {b : Nat} {s : ByteArray} {a : Nat} {f : Int} {w w' : World} {p : Value} (h : RdAt b s a f w) (k : Kept p w w') (hn : blk p ≠ some b) : RdAt b s a f w' := ⟨h.le, k.heap h.at_ hn⟩
theorem PR.kept {q : Value} {l : List UInt8} {f : Int} {w w' : World} {p : Value} (h : PR q l f w) (k : Kept p w w') (hn : ∀ b, blk p = some b → blk q ≠ some b) : PR q l f w' := by
  rcases h.out with h | ⟨b, s, a, rfl, hl, hs, hr⟩
  · exact ⟨.inl h⟩
  · exact ⟨.inr ⟨b, s, a, rfl, hl, hs, hr.kept k (fun e => hn b e rfl)⟩⟩
theorem XR.kept {q : Value} {l : List UInt8} {f : Int} {w w' : World} {p : Value} (h : XR q l f w) (k : Kept p w w') (hn : ∀ b, blk p = some b → blk q ≠ some b) : XR q l f w' := by
  obtain ⟨b, rfl, hl, hr⟩ := h.out
  exact ⟨b, rfl, hl, k.heap hr (fun e => hn b e rfl)⟩
theorem PR.le {q : Value} {l : List UInt8} {f : Int} {w : World} (h : PR q l f w) : l.length ≤ 1000000 := by
  rcases h.out with ⟨_, rfl, _⟩ | ⟨b, s, a, rfl, rfl, hs, hr⟩
  · simp
  · rw [List.length_drop, ← size_list]; omega
theorem XR.le {q : Value} {l : List UInt8} {f : Int} {w : World} (h : XR q l f w) : l.length ≤ 1000000 := by
  obtain ⟨b, rfl, hl, hr⟩ := h.out; exact hl

theorem RdAt.cells {b : Nat} {s : ByteArray} {a : Nat} {f : Int} {w : World} (h : RdAt b s a f w) :
    w.cell? ⟨b, 0, none⟩ = some (.string s) ∧ w.cell? ⟨b, 1, none⟩ = some (.int .i64 a) ∧ w.cell? ⟨b, 2, none⟩ = some (.int .i64 f) ∧ w.frozen? ⟨b, 1, none⟩ = false ∧ w.frozen? ⟨b, 2, none⟩ = false := by
  refine ⟨?_, ?_, ?_, unfrozen_of_block h.at_ 1, unfrozen_of_block h.at_ 2⟩ <;> (rw [cell_of_block h.at_]; rfl)
theorem RdAt.setAt {b : Nat} {s : ByteArray} {a : Nat} {f : Int} {w : World} (h : RdAt b s a f w) {n : Nat} (hn : n ≤ s.size) : RdAt b s n f (w.setCell ⟨b, 1, none⟩ (.int .i64 n)) :=
  ⟨hn, by rw [block_setCell h.at_]; rfl⟩
theorem RdAt.setErr {b : Nat} {s : ByteArray} {a : Nat} {f : Int} {w : World} (h : RdAt b s a f w) (e : Int) : RdAt b s a e (w.setCell ⟨b, 2, none⟩ (.int .i64 e)) :=
  ⟨h.le, by rw [block_setCell h.at_]; rfl⟩
theorem RdAt.drew {b : Nat} {s : ByteArray} {a : Nat} {f : Int} {w : World} (h : RdAt b s a f w) : RdAt b s a f w.drew := ⟨h.le, h.at_⟩

theorem err_any (p : Value) (l : List UInt8) (f : Int) (w : World) (h : PR p l f w) :
    Calls Try.prog 14 #[p] w fun e w' => e = .returned (.int .i64 f) ∧ w = w' := by
  rcases h.out with ⟨rfl, rfl, rfl⟩ | ⟨b, s, a, rfl, hl, hs, hr⟩
  · clear h
    go_enter Try.func14, Try.ntmps14
    go_wp2
    go_ret
    exact ⟨rfl, rfl⟩
  · obtain ⟨_, _, c2, _, _⟩ := hr.cells
    clear h hl hs hr
    go_enter Try.func14, Try.ntmps14
    go_wp2
    go_ret
    exact ⟨rfl, rfl⟩

theorem left_any (p : Value) (l : List UInt8) (f : Int) (w : World) (h : PR p l f w) :
    Calls Try.prog 13 #[p] w fun e w' => e = .returned (.int .i64 l.length) ∧ Below w.heap.size w w' := by
  rcases h.out with ⟨rfl, rfl, rfl⟩ | ⟨b, s, a, rfl, hl, hs, hr⟩
  · clear h
    go_enter Try.func13, Try.ntmps13
    go_wp2
    go_ret
    exact ⟨rfl, Below.refl _ _⟩
  · obtain ⟨c0, c1, _, _, _⟩ := hr.cells
    have hle := hr.le
    have HL : Keep (((s.size : Int) - (a : Int)) = (l.length : Int)) := ⟨by rw [hl, List.length_drop, ← size_list]; omega⟩
    clear h hl hr
    go_enter Try.func13, Try.ntmps13
    go_wp2
    go_quiet (fail)
    go_wp2
    go_ret
    exact ⟨ret_int HL.out, below_draws _ _ _⟩

theorem end_any (p : Value) (l : List UInt8) (f : Int) (w : World) (h : PR p l f w) :
    Calls Try.prog 15 #[p] w fun e w' => e = .returned (.int .i64 (endV l f)) ∧ Below w.heap.size w w' := by
  have HE := keep (err_any p l f)
  have HL := keep (left_any p l f)
  have H := keep h
  by_cases h0 : f = 0
  · subst h0
    by_cases h1 : 0 < l.length
    · have HV : Keep (endV l 0 = 3) := ⟨by unfold endV; rw [if_pos ⟨rfl, h1⟩]⟩
      have HK : Keep (0 < (l.length : Int)) := ⟨by omega⟩
      clear h h1
      generalize (l.length : Int) = n at *
      have h1 := HK.out
      go_enter Try.func15, Try.ntmps15
      go_wp2_with fail
      refine (HE.out w H.out).mono ?_
      rintro e w' ⟨rfl, rfl⟩
      go_wp2_with fail
      refine (HL.out w H.out).mono ?_
      rintro e w1 ⟨rfl, hb⟩
      have HB := keep hb
      clear hb
      go_wp2_with fail
      go_ret
      exact ⟨ret_int HV.out.symm, HB.out⟩
    · have HV : Keep (endV l 0 = 0) := ⟨by unfold endV; rw [if_neg (fun c => h1 c.2)]⟩
      have HK : Keep ((l.length : Int) = 0) := ⟨by omega⟩
      clear h h1
      generalize (l.length : Int) = n at *
      obtain rfl := HK.out
      clear HK
      go_enter Try.func15, Try.ntmps15
      go_wp2_with fail
      refine (HE.out w H.out).mono ?_
      rintro e w' ⟨rfl, rfl⟩
      go_wp2_with fail
      refine (HL.out w H.out).mono ?_
      rintro e w1 ⟨rfl, hb⟩
      have HB := keep hb
      have HH := keep (H.out.kept (Kept.of (p := .pointer none) hb) (fun b c => by cases c))
      clear hb
      go_wp2_with fail
      refine (HE.out w1 HH.out).mono ?_
      rintro e w' ⟨rfl, rfl⟩
      go_wp2_with fail
      go_ret
      exact ⟨ret_int HV.out.symm, HB.out⟩
  · have HV : Keep (endV l f = f) := ⟨by unfold endV; rw [if_neg (fun c => h0 c.1)]⟩
    have hf : (f == 0) = false := by simpa using h0
    clear h h0
    go_enter Try.func15, Try.ntmps15
    go_wp2_with fail
    refine (HE.out w H.out).mono ?_
    rintro e w' ⟨rfl, rfl⟩
    go_wp2_with fail
    refine (HE.out w H.out).mono ?_
    rintro e w' ⟨rfl, rfl⟩
    go_wp2_with fail
    go_ret
    exact ⟨ret_int HV.out.symm, Below.refl _ _⟩

/-- A reader afterwards: what it told aside, what is left and what is wrong; all else is as it was. -/
def RdTo (p : Value) (x : Rd) (w w' : World) : Prop := PR p x.1 x.2 w' ∧ Kept p w w'
def XrTo (p : Value) (x : Rd) (w w' : World) : Prop := XR p x.1 x.2 w' ∧ Kept p w w'

theorem fail_any (p : Value) (e : Int) (l : List UInt8) (f : Int) (w : World) (h : PR p l f w) :
    Calls Try.prog 24 #[p, .int .i64 e] w fun r w' => r = .returned (.tuple #[]) ∧ RdTo p (failS e l f) w w' := by
  have HE := keep (err_any p l f w h)
  by_cases h0 : f = 0
  · subst h0
    have HV : Keep (failS e l 0 = (l, e)) := ⟨by unfold failS; rw [if_pos rfl]⟩
    rcases h.out with ⟨rfl, rfl, h9⟩ | ⟨b, s, a, rfl, hl, hs, hr⟩
    · cases h9
    · obtain ⟨_, _, c2, _, z2⟩ := hr.cells
      have H : Keep (PR (.pointer (some ⟨b, 0, none⟩)) l e (w.setCell ⟨b, 2, none⟩ (.int .i64 e))) := ⟨⟨.inr ⟨b, s, a, rfl, hl, hs, hr.setErr e⟩⟩⟩
      have HK : Keep (Kept (.pointer (some ⟨b, 0, none⟩)) w (w.setCell ⟨b, 2, none⟩ (.int .i64 e))) := ⟨(Kept.refl _ _).setCell (.inl rfl) _⟩
      clear h hl hs hr
      go_enter Try.func24, Try.ntmps24
      go_wp2_with fail
      refine HE.out.mono ?_
      rintro e w' ⟨rfl, rfl⟩
      go_wp2_with fail
      go_end0
      rw [HV.out]
      exact ⟨rfl, H.out, HK.out⟩
  · have HV : Keep (failS e l f = (l, f)) := ⟨by unfold failS; rw [if_neg h0]⟩
    have H := keep h
    have hf : (f == 0) = false := by simpa using h0
    clear h h0
    go_enter Try.func24, Try.ntmps24
    go_wp2_with fail
    refine HE.out.mono ?_
    rintro e w' ⟨rfl, rfl⟩
    go_wp2_with fail
    go_end0
    rw [HV.out]
    exact ⟨rfl, H.out, Kept.refl _ _⟩

theorem open_any (s : ByteArray) (w : World) (hs : s.size ≤ 1000000) :
    Calls Try.prog 11 #[.string s] w fun r w' => r = .returned (.pointer (some ⟨w.heap.size, 0, none⟩)) ∧ PR (.pointer (some ⟨w.heap.size, 0, none⟩)) s.data.toList 0 w' ∧ Below w.heap.size w w' := by
  have H : Keep (∀ t, t = 62 → PR (.pointer (some ⟨w.heap.size, 0, none⟩)) s.data.toList 0 (w.alloc (.cells #[.string s, .int .i64 0, .int .i64 0] t))) := ⟨fun t ht => ⟨.inr ⟨_, s, 0, rfl, rfl, hs, ⟨Nat.zero_le _, by subst ht; exact heap_alloc_new w _⟩⟩⟩⟩
  clear hs
  go_enter Try.func11, Try.ntmps11
  go_wp2_with fail
  go_ret
  exact ⟨rfl, H.out _ rfl, below_alloc1 _ _⟩
end Go.Proofs.Ytafeahjhdjcimaa
