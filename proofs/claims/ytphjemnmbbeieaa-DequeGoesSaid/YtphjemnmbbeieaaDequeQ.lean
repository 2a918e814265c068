/-
  What came in, opened: slices of texts, slices of acts.
-/
import Derived.Test.YtphjemnmbbeieaaDequeL
import Derived.ProofKit
import Derived.OpenShut
import Derived.ShutString
import Derived.Carry
import Derived.Deep.Slices
import Derived.Deep.Fields
namespace Go.Proofs.Ytphjemnmbbeieaa
open Go.ChangeShapes Go.WideShapes Go.ChangeAt Go.RowKit Go.Deep

/-- The text at a place. -/
def tx (l : List ByteArray) (i : Nat) : ByteArray := l.getD i ⟨#[]⟩
theorem tx_get {l : List ByteArray} {i : Nat} (h : i < l.length) : l[i]? = some (tx l i) := by
  unfold tx
  rw [List.getD_eq_getElem?_getD, List.getElem?_eq_getElem h]
  rfl
theorem tx_take {l : List ByteArray} {k : Nat} (h : k < l.length) : l.take (k + 1) = l.take k ++ [tx l k] := by
  rw [List.take_add_one, tx_get h]; rfl
theorem tx_drop {l : List ByteArray} {k : Nat} (h : k < l.length) : l.drop k = tx l k :: l.drop (k + 1) := by
  rw [List.drop_eq_getElem_cons h]
  have := tx_get h
  rw [List.getElem?_eq_getElem h] at this
  rw [Option.some.inj this]

/-- The slice v holds the texts l; its block lies below B. -/
structure TxRow (B : Nat) (w : World) (v : Value) (l : List ByteArray) : Prop where
  room : l.length ≤ 9223372036854775807
  out : (l = [] ∧ ∃ o cap, v = .slice o 0 cap) ∨ ∃ b off cap, v = .slice (some ⟨b, off, none⟩) l.length cap ∧ b < B ∧ ∀ i, i < l.length → w.cell? ⟨b, off + i, none⟩ = some (.string (tx l i))

/-- What is done: its kind, its text, its number. -/
structure Ac where
  K : Int
  X : ByteArray
  N : Int
def za : Ac := ⟨0, ⟨#[]⟩, 0⟩
def ac (l : List Ac) (i : Nat) : Ac := l.getD i za
theorem ac_get {l : List Ac} {i : Nat} (h : i < l.length) : l[i]? = some (ac l i) := by
  unfold ac
  rw [List.getD_eq_getElem?_getD, List.getElem?_eq_getElem h]
  rfl
structure AcRow (B : Nat) (w : World) (v : Value) (l : List Ac) : Prop where
  room : l.length ≤ 9223372036854775807
  big : ∀ i, i < l.length → (ac l i).X.size ≤ 9223372036854775807
  out : (l = [] ∧ ∃ o cap, v = .slice o 0 cap) ∨ ∃ b off cap, v = .slice (some ⟨b, off, none⟩) l.length cap ∧ b < B ∧ ∀ i, i < l.length → w.cell? ⟨b, off + i * 3, none⟩ = some (.int .i64 (ac l i).K) ∧ w.cell? ⟨b, off + i * 3 + 1, none⟩ = some (.string (ac l i).X) ∧ w.cell? ⟨b, off + i * 3 + 2, none⟩ = some (.int .i64 (ac l i).N)

theorem cellsInt : Try.prog.cellsOf 3 = 1 := by kernel_rfl
theorem cellsStr : Try.prog.cellsOf 9 = 1 := by kernel_rfl
theorem cellsAc : Try.prog.cellsOf 31 = 3 := by kernel_rfl

section
variable {H : Type} {enc : TypeId × Value → H} {w : World}

theorem txs_of {v : Value} {d : DataW H} {p : List MemPlace} {r : Reach} {b0 : Nat} (h : DataW.Trod enc Try.prog w 0 (fun _ => true) true 25 v d p) (hv : Value.okWide Try.prog w r b0 25 v) :
    ∃ l : List ByteArray, TxRow w.heap.size w v l := by
  obtain ⟨a0, len0, cap0, rfl⟩ := okWide_slice Try.underlying25 hv
  obtain ⟨fuel, hf⟩ := h
  rcases open_slice Try.underlying25 hf with ⟨hcs, _⟩ | ⟨a, len, cap, m, n, D, Pl, hcs, _, hl, hm, hmm, _, hi⟩
  · simp [Value.cells] at hcs
    obtain ⟨rfl, rfl, rfl⟩ := hcs
    exact ⟨[], by simp, .inl ⟨rfl, _, _, rfl⟩⟩
  · simp [Value.cells] at hcs
    obtain ⟨rfl, rfl, rfl⟩ := hcs
    simp only [if_true] at hmm
    subst hmm
    by_cases h0 : len0 = 0
    · subst h0
      exact ⟨[], by simp, .inl ⟨rfl, _, _, rfl⟩⟩
    · obtain ⟨b, off, spot⟩ := a
      have each : ∀ i, i < len0 → ∃ s : ByteArray, w.cell? ((⟨b, off, spot⟩ : Addr).add i) = some (.string s) := fun i hlt => by
        obtain ⟨cs', hc, ht⟩ := hi i (by omega)
        rw [cellsStr, Nat.mul_one] at hc
        obtain ⟨S, e1, _, _⟩ := DataW.trod_string Try.underlying9 ht
        subst e1
        obtain ⟨_, _, hat⟩ := World.cells?_some hc
        have := hat 0 (by omega)
        exact ⟨S, by simpa [Addr.add] using this⟩
      have hs : spot = none := by
        obtain ⟨a, ha⟩ := each 0 (by omega)
        have := World.cell?_spot ha
        simpa [Addr.add] using this
      subst hs
      have hb : b < w.heap.size := by
        obtain ⟨a, ha⟩ := each 0 (by omega)
        have := World.block_lt_of_cell? w _ ha
        simpa [Addr.add] using this
      have each' : ∀ i, ∃ s : ByteArray, i < len0 → w.cell? ⟨b, off + i, none⟩ = some (.string s) := fun i => by
        by_cases hlt : i < len0
        · obtain ⟨f, ha⟩ := each i hlt
          exact ⟨f, fun _ => by rw [add_none] at ha; exact ha⟩
        · exact ⟨⟨#[]⟩, fun h => absurd h hlt⟩
      refine ⟨(List.range len0).map (fun i => Classical.choose (each' i)), by simp; unfold maxLen at hm; omega, .inr ⟨b, off, _, by rw [List.length_map, List.length_range], hb, fun i hi => ?_⟩⟩
      have hi' : i < len0 := by simpa using hi
      have e : tx ((List.range len0).map (fun i => Classical.choose (each' i))) i = Classical.choose (each' i) := by
        have := tx_get hi
        rw [List.getElem?_map, List.getElem?_range hi'] at this
        exact (Option.some.inj this).symm
      rw [e]
      exact Classical.choose_spec (each' i) hi'

theorem ac_of_cells {fuel : Nat} {cs : List Value} {x : DataW H × List MemPlace} (h : DataW.trod enc Try.prog w 0 (fun _ => true) true fuel 31 cs = some x) :
    ∃ f : Ac, cs = [.int .i64 f.K, .string f.X, .int .i64 f.N] ∧ f.X.size ≤ 9223372036854775807 := by
  obtain ⟨ys, n, _, _, hlen, hyl, hf⟩ := DataW.trod_struct Try.underlying31 h
  rw [cellsAc] at hlen
  match cs, hlen with
  | [c0, c1, c2], _ =>
    match ys, hyl with
    | [y0, y1, y2], _ =>
      have g0 : DataW.trod enc Try.prog w 0 (fun _ => true) true n 3 (([c0, c1, c2].drop 0).take (Try.prog.cellsOf 3)) = some y0 := hf 0 _ rfl
      rw [cellsInt] at g0
      have g1 : DataW.trod enc Try.prog w 0 (fun _ => true) true n 9 (([c0, c1, c2].drop 1).take (Try.prog.cellsOf 9)) = some y1 := hf 1 _ rfl
      rw [cellsStr] at g1
      have g2 : DataW.trod enc Try.prog w 0 (fun _ => true) true n 3 (([c0, c1, c2].drop 2).take (Try.prog.cellsOf 3)) = some y2 := hf 2 _ rfl
      rw [cellsInt] at g2
      obtain ⟨K, e0, _, w0⟩ := DataW.trod_int Try.underlying3 g0
      obtain ⟨S, e1, _, w1⟩ := DataW.trod_string Try.underlying9 g1
      obtain ⟨N, e2, _, w2⟩ := DataW.trod_int Try.underlying3 g2
      obtain rfl : c0 = .int .i64 K := by simpa using e0
      obtain rfl : c1 = .string S := by simpa using e1
      obtain rfl : c2 = .int .i64 N := by simpa using e2
      exact ⟨⟨K, S, N⟩, rfl, by unfold maxLen at w1; show S.size ≤ _; omega⟩

theorem acs_of {v : Value} {d : DataW H} {p : List MemPlace} {r : Reach} {b0 : Nat} (h : DataW.Trod enc Try.prog w 0 (fun _ => true) true 22 v d p) (hv : Value.okWide Try.prog w r b0 22 v) :
    ∃ l : List Ac, AcRow w.heap.size w v l := by
  obtain ⟨a0, len0, cap0, rfl⟩ := okWide_slice Try.underlying22 hv
  obtain ⟨fuel, hf⟩ := h
  rcases open_slice Try.underlying22 hf with ⟨hcs, _⟩ | ⟨a, len, cap, m, n, D, Pl, hcs, _, hl, hm, hmm, _, hi⟩
  · simp [Value.cells] at hcs
    obtain ⟨rfl, rfl, rfl⟩ := hcs
    exact ⟨[], by simp, fun i hi => by simp at hi, .inl ⟨rfl, _, _, rfl⟩⟩
  · simp [Value.cells] at hcs
    obtain ⟨rfl, rfl, rfl⟩ := hcs
    simp only [if_true] at hmm
    subst hmm
    by_cases h0 : len0 = 0
    · subst h0
      exact ⟨[], by simp, fun i hi => by simp at hi, .inl ⟨rfl, _, _, rfl⟩⟩
    · obtain ⟨b, off, spot⟩ := a
      have each : ∀ i, i < len0 → ∃ f : Ac, (∀ j v, ([.int .i64 f.K, .string f.X, .int .i64 f.N] : List Value)[j]? = some v → w.cell? (((⟨b, off, spot⟩ : Addr).add (i * 3)).add j) = some v) ∧ f.X.size ≤ 9223372036854775807 := fun i hlt => by
        obtain ⟨cs', hc, ht⟩ := hi i (by omega)
        rw [cellsAc] at hc
        obtain ⟨a, rfl, hok⟩ := ac_of_cells ht
        obtain ⟨_, _, hat⟩ := World.cells?_some hc
        refine ⟨a, fun j v hj => ?_, hok⟩
        have hjl : j < 3 := by
          have := (List.getElem?_eq_some_iff.1 hj).1
          simpa using this
        rw [hat j hjl, hj]
      have hs : spot = none := by
        obtain ⟨a, ha, _⟩ := each 0 (by omega)
        have := World.cell?_spot (ha 0 _ rfl)
        simpa [Addr.add] using this
      subst hs
      have hb : b < w.heap.size := by
        obtain ⟨a, ha, _⟩ := each 0 (by omega)
        have := World.block_lt_of_cell? w _ (ha 0 _ rfl)
        simpa [Addr.add] using this
      have each' : ∀ i, ∃ f : Ac, i < len0 → (w.cell? ⟨b, off + i * 3, none⟩ = some (.int .i64 f.K) ∧ w.cell? ⟨b, off + i * 3 + 1, none⟩ = some (.string f.X) ∧ w.cell? ⟨b, off + i * 3 + 2, none⟩ = some (.int .i64 f.N)) ∧ f.X.size ≤ 9223372036854775807 := fun i => by
        by_cases hlt : i < len0
        · obtain ⟨f, ha, hok⟩ := each i hlt
          refine ⟨f, fun _ => ⟨?_, hok⟩⟩
          simp only [add_none] at ha
          exact ⟨ha 0 _ rfl, ha 1 _ rfl, ha 2 _ rfl⟩
        · exact ⟨za, fun h => absurd h hlt⟩
      have e : ∀ i, i < len0 → ac ((List.range len0).map (fun i => Classical.choose (each' i))) i = Classical.choose (each' i) := fun i hi' => by
        have := ac_get (l := (List.range len0).map (fun i => Classical.choose (each' i))) (i := i) (by simpa using hi')
        rw [List.getElem?_map, List.getElem?_range hi'] at this
        exact (Option.some.inj this).symm
      refine ⟨(List.range len0).map (fun i => Classical.choose (each' i)), by simp; unfold maxLen at hm; omega, fun i hi => ?_, .inr ⟨b, off, _, by rw [List.length_map, List.length_range], hb, fun i hi => ?_⟩⟩
      · have hi' : i < len0 := by simpa using hi
        rw [e i hi']
        exact (Classical.choose_spec (each' i) hi').2
      · have hi' : i < len0 := by simpa using hi
        rw [e i hi']
        exact (Classical.choose_spec (each' i) hi').1
end

/-- The slice, whether it is empty or not. -/
theorem TxRow.form {B : Nat} {w : World} {v : Value} {l : List ByteArray} (h : TxRow B w v l) : ∃ o cap, v = .slice o l.length cap ∧ ∀ i, i < l.length → ∃ b off, o = some ⟨b, off, none⟩ ∧ b < B ∧ ∀ W, Below B w W → W.cell? ⟨b, off + i, none⟩ = some (.string (tx l i)) := by
  rcases h.out with ⟨rfl, o, cap, rfl⟩ | ⟨b, off, cap, rfl, hb, hc⟩
  · exact ⟨o, cap, rfl, fun i hi => by simp at hi⟩
  · exact ⟨_, cap, rfl, fun i hi => ⟨b, off, rfl, hb, fun W hW => (hW.cell (p := ⟨b, off + i, none⟩) hb).trans (hc i hi)⟩⟩

/-! ### The law's deque -/
/-- The deque at block d holds l; nothing of what was there in w has turned. -/
structure LawAt (w : World) (d : Nat) (l : List ByteArray) (W : World) : Prop where
  out : ∃ r, DQ d r l W ∧ ∀ g, r = some g → w.heap.size ≤ g
  below : Below w.heap.size w W
  dn : w.heap.size ≤ d
theorem LawAt.new {w w0 : World} (hb : Below w.heap.size w w0) : LawAt w w0.heap.size [] (w0.alloc (.cells #[.slice none 0 0, .int .i64 0, .int .i64 0] 27)) :=
  ⟨⟨none, DQ.new w0, fun g e => by cases e⟩, hb.alloc hb.size _, hb.size⟩
theorem LawAt.step {w W W' : World} {d : Nat} {l l' : List ByteArray} (h : LawAt w d l W) {r : Option Nat} (hr : ∀ g, r = some g → w.heap.size ≤ g) (hd : DTo d r l' W W') : LawAt w d l' W' := by
  obtain ⟨r', hq, hk⟩ := hd
  exact ⟨⟨r', hq, fun g e => by
    rcases hk.ring g e with e | e
    · exact hr g e
    · exact Nat.le_trans h.below.size e⟩, h.below.trans (hk.below h.dn hr h.below.size), h.dn⟩
theorem LawAt.to {w W W' : World} {d : Nat} {l : List ByteArray} (h : LawAt w d l W) (hb : Below W.heap.size W W') : LawAt w d l W' := by
  obtain ⟨r, hq, hr⟩ := h.out
  exact ⟨⟨r, hq.below hb, hr⟩, h.below.trans (hb.mono h.below.size), h.dn⟩
theorem LawAt.push {w W : World} {d : Nat} {l : List ByteArray} (h : LawAt w d l W) (x : ByteArray) (hl : l.length ≤ 1000) : Calls Try.prog 9 #[.pointer (some ⟨d, 0, none⟩), .string x] W fun e w' => e = .returned (.tuple #[]) ∧ LawAt w d (l ++ [x]) w' := by
  obtain ⟨r, hq, hr⟩ := h.out
  exact (push_any d r l x W hq hl).mono fun e w' ⟨he, hd⟩ => ⟨he, h.step hr hd⟩
theorem LawAt.shove {w W : World} {d : Nat} {l : List ByteArray} (h : LawAt w d l W) (x : ByteArray) (hl : l.length ≤ 1000) : Calls Try.prog 10 #[.pointer (some ⟨d, 0, none⟩), .string x] W fun e w' => e = .returned (.tuple #[]) ∧ LawAt w d (x :: l) w' := by
  obtain ⟨r, hq, hr⟩ := h.out
  exact (shove_any d r l x W hq hl).mono fun e w' ⟨he, hd⟩ => ⟨he, h.step hr hd⟩
theorem LawAt.pop {w W : World} {d : Nat} {l : List ByteArray} {x : ByteArray} (h : LawAt w d (x :: l) W) : Calls Try.prog 12 #[.pointer (some ⟨d, 0, none⟩)] W fun e w' => e = .returned (.tuple #[.string x, .bool true]) ∧ LawAt w d l w' := by
  obtain ⟨r, hq, hr⟩ := h.out
  exact (pop_some d r l x W hq).mono fun e w' ⟨he, hd⟩ => ⟨he, h.step hr hd⟩
theorem LawAt.drop {w W : World} {d : Nat} {l : List ByteArray} {x : ByteArray} (h : LawAt w d (l ++ [x]) W) : Calls Try.prog 15 #[.pointer (some ⟨d, 0, none⟩)] W fun e w' => e = .returned (.tuple #[.string x, .bool true]) ∧ LawAt w d l w' := by
  obtain ⟨r, hq, hr⟩ := h.out
  exact (drop_some d r l x W hq).mono fun e w' ⟨he, hd⟩ => ⟨he, h.step hr hd⟩
theorem LawAt.pop0 {w W : World} {d : Nat} (h : LawAt w d [] W) : Calls Try.prog 12 #[.pointer (some ⟨d, 0, none⟩)] W fun e w' => e = .returned (.tuple #[.string ⟨#[]⟩, .bool false]) ∧ W = w' := by
  obtain ⟨r, hq, hr⟩ := h.out
  exact pop_none d r W hq
theorem LawAt.drop0 {w W : World} {d : Nat} (h : LawAt w d [] W) : Calls Try.prog 15 #[.pointer (some ⟨d, 0, none⟩)] W fun e w' => e = .returned (.tuple #[.string ⟨#[]⟩, .bool false]) ∧ W = w' := by
  obtain ⟨r, hq, hr⟩ := h.out
  exact drop_none d r W hq
theorem LawAt.len {w W : World} {d : Nat} {l : List ByteArray} (h : LawAt w d l W) : Calls Try.prog 19 #[.pointer (some ⟨d, 0, none⟩)] W fun e w' => e = .returned (.int .i64 (l.length : Int)) ∧ W = w' := by
  obtain ⟨r, hq, hr⟩ := h.out
  obtain ⟨o, n, f, hb, _⟩ := hq.box
  obtain ⟨_, _, c2, _⟩ := hb.cells
  exact len_any d l.length W c2
theorem LawAt.at {w W : World} {d : Nat} {l : List ByteArray} (h : LawAt w d l W) (i : Nat) (hi : i < l.length) : Calls Try.prog 17 #[.pointer (some ⟨d, 0, none⟩), .int .i64 (i : Int)] W fun e w' => e = .returned (.tuple #[.string (tx l i), .bool true]) ∧ LawAt w d l w' := by
  obtain ⟨r, hq, hr⟩ := h.out
  rcases hq.out with ⟨_, rfl, _⟩ | ⟨g, cs, f, rfl, ha⟩
  · simp at hi
  · exact (at_in d g cs f l i (tx l i) W ha (tx_get hi)).mono fun e w' ⟨he, hw⟩ => ⟨he, by rw [hw]; exact h.to ((Below.refl _ W).drew)⟩
theorem LawAt.at0 {w W : World} {d : Nat} {l : List ByteArray} (h : LawAt w d l W) (i : Int) (hi : i < 0 ∨ (l.length : Int) ≤ i) : Calls Try.prog 17 #[.pointer (some ⟨d, 0, none⟩), .int .i64 i] W fun e w' => e = .returned (.tuple #[.string ⟨#[]⟩, .bool false]) ∧ W = w' := by
  obtain ⟨r, hq, hr⟩ := h.out
  obtain ⟨o, n, f, hb, _⟩ := hq.box
  obtain ⟨_, _, c2, _⟩ := hb.cells
  exact at_out d l.length i W c2 hi
end Go.Proofs.Ytphjemnmbbeieaa
