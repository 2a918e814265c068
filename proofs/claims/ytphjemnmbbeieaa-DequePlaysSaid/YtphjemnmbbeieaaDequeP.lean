/-
  What the acts make of what DequePlays holds.
-/
import Derived.Test.YtphjemnmbbeieaaDequeK
namespace Go.Proofs.Ytphjemnmbbeieaa
open Go.RowKit

section
variable {w W : World} {d Bg : Nat} {l m : List ByteArray} {v : Value}

theorem LawP.new (w : World) {w0 : World} (hb : Below w.heap.size w w0) : LawP w w0.heap.size (w0.heap.size + 1) [] (.slice none 0 0) [] ((w0.alloc (.cells #[.slice none 0 0, .int .i64 0, .int .i64 0] 27)).alloc (.cells #[.string ⟨#[]⟩, .bool false] 29)) := by
  have h1 : Below w.heap.size w (w0.alloc (.cells #[.slice none 0 0, .int .i64 0, .int .i64 0] 27)) := hb.alloc hb.size _
  refine ⟨⟨none, none, (DQ.new w0).below ((Below.refl _ _).alloc (Nat.le_refl _) _), Hv.nil _, (fun g e => by cases e), (fun g e => by cases e)⟩, ⟨⟨#[]⟩, false, ?_⟩, h1.alloc h1.size _, hb.size, Nat.le_succ_of_le hb.size⟩
  have := heap_alloc_new (w0.alloc (.cells #[.slice none 0 0, .int .i64 0, .int .i64 0] 27)) (.cells #[.string ⟨#[]⟩, .bool false] 29)
  rwa [World.size_alloc] at this
theorem LawP.form (h : LawP w d Bg l v m W) : ∃ o c, v = .slice o m.length c := by
  obtain ⟨r, gb, _, hv, _, _⟩ := h.out
  obtain ⟨o, c, h1, _⟩ := hv.form
  exact ⟨o, c, h1⟩
theorem LawP.cells (h : LawP w d Bg l v m W) : ∃ x b, W.cell? ⟨Bg, 0, none⟩ = some (.string x) ∧ W.cell? ⟨Bg, 1, none⟩ = some (.bool b) ∧ W.frozen? ⟨Bg, 0, none⟩ = false ∧ W.frozen? ⟨Bg, 1, none⟩ = false := by
  obtain ⟨x, b, hx⟩ := h.box
  exact ⟨x, b, by rw [cell_of_row W Bg _ _ _ _ hx]; rfl, by rw [cell_of_row W Bg _ _ _ _ hx]; rfl, frozen_of_row W Bg 0 _ _ hx, frozen_of_row W Bg 1 _ _ hx⟩
theorem LawP.at_ (h : LawP w d Bg l v m W) (i : Nat) (hi : i < m.length) : ∃ b off cap, v = .slice (some ⟨b, off, none⟩) m.length cap ∧ W.cell? ⟨b, off + i, none⟩ = some (.string (tx m i)) := by
  obtain ⟨r, gb, _, hv, _, _⟩ := h.out
  obtain ⟨o, c, h1, h2⟩ := hv.form
  obtain ⟨b, off, rfl, _, h3⟩ := h2 i hi
  exact ⟨b, off, c, h1, h3⟩

theorem LawP.push (h : LawP w d Bg l v m W) (x : ByteArray) (hl : l.length ≤ 1000) : Calls Try.prog 9 #[.pointer (some ⟨d, 0, none⟩), .string x] W fun e w' => e = .returned (.tuple #[]) ∧ LawP w d Bg (l ++ [x]) v m w' ∧ TKept W w' := by
  obtain ⟨r, gb, hq, hv, hr, hg⟩ := h.out
  exact (push_any d r l x W hq hl).mono fun e w' ⟨he, hd⟩ => ⟨he, h.deq hq hr hv hg hd⟩
theorem LawP.shove (h : LawP w d Bg l v m W) (x : ByteArray) (hl : l.length ≤ 1000) : Calls Try.prog 10 #[.pointer (some ⟨d, 0, none⟩), .string x] W fun e w' => e = .returned (.tuple #[]) ∧ LawP w d Bg (x :: l) v m w' ∧ TKept W w' := by
  obtain ⟨r, gb, hq, hv, hr, hg⟩ := h.out
  exact (shove_any d r l x W hq hl).mono fun e w' ⟨he, hd⟩ => ⟨he, h.deq hq hr hv hg hd⟩
theorem LawP.pop {l0 : List ByteArray} {x : ByteArray} (h : LawP w d Bg l0 v m W) (e0 : l0 = x :: l) : Calls Try.prog 12 #[.pointer (some ⟨d, 0, none⟩)] W fun e w' => e = .returned (.tuple #[.string x, .bool true]) ∧ LawP w d Bg l v m w' ∧ TKept W w' := by
  subst e0
  obtain ⟨r, gb, hq, hv, hr, hg⟩ := h.out
  exact (pop_some d r l x W hq).mono fun e w' ⟨he, hd⟩ => ⟨he, h.deq hq hr hv hg hd⟩
theorem LawP.drop {l0 : List ByteArray} {x : ByteArray} (h : LawP w d Bg l0 v m W) (e0 : l0 = l ++ [x]) : Calls Try.prog 15 #[.pointer (some ⟨d, 0, none⟩)] W fun e w' => e = .returned (.tuple #[.string x, .bool true]) ∧ LawP w d Bg l v m w' ∧ TKept W w' := by
  subst e0
  obtain ⟨r, gb, hq, hv, hr, hg⟩ := h.out
  exact (drop_some d r l x W hq).mono fun e w' ⟨he, hd⟩ => ⟨he, h.deq hq hr hv hg hd⟩
theorem LawP.pop0 (h : LawP w d Bg l v m W) (e0 : l = []) : Calls Try.prog 12 #[.pointer (some ⟨d, 0, none⟩)] W fun e w' => e = .returned (.tuple #[.string ⟨#[]⟩, .bool false]) ∧ W = w' := by
  subst e0
  obtain ⟨r, gb, hq, hv, hr, hg⟩ := h.out
  exact pop_none d r W hq
theorem LawP.drop0 (h : LawP w d Bg l v m W) (e0 : l = []) : Calls Try.prog 15 #[.pointer (some ⟨d, 0, none⟩)] W fun e w' => e = .returned (.tuple #[.string ⟨#[]⟩, .bool false]) ∧ W = w' := by
  subst e0
  obtain ⟨r, gb, hq, hv, hr, hg⟩ := h.out
  exact drop_none d r W hq
theorem LawP.len (h : LawP w d Bg l v m W) : Calls Try.prog 19 #[.pointer (some ⟨d, 0, none⟩)] W fun e w' => e = .returned (.int .i64 (l.length : Int)) ∧ W = w' := by
  obtain ⟨r, gb, hq, hv, hr, hg⟩ := h.out
  obtain ⟨o, n, f, hb, _⟩ := hq.box
  obtain ⟨_, _, c2, _⟩ := hb.cells
  exact len_any d l.length W c2
theorem LawP.at (h : LawP w d Bg l v m W) (i : Nat) (hi : i < l.length) : Calls Try.prog 17 #[.pointer (some ⟨d, 0, none⟩), .int .i64 (i : Int)] W fun e w' => e = .returned (.tuple #[.string (tx l i), .bool true]) ∧ LawP w d Bg l v m w' ∧ TKept W w' := by
  obtain ⟨r, gb, hq, hv, hr, hg⟩ := h.out
  rcases hq.out with ⟨_, rfl, _⟩ | ⟨g, cs, f, rfl, ha⟩
  · simp at hi
  · exact (at_in d g cs f l i (tx l i) W ha (tx_get hi)).mono fun e w' ⟨he, hw⟩ => ⟨he, by rw [hw]; exact h.to ((Below.refl _ W).drew), by rw [hw]; exact TKept.of ((Below.refl _ W).drew)⟩
theorem LawP.at0 (h : LawP w d Bg l v m W) (i : Int) (hi : i < 0 ∨ (l.length : Int) ≤ i) : Calls Try.prog 17 #[.pointer (some ⟨d, 0, none⟩), .int .i64 i] W fun e w' => e = .returned (.tuple #[.string ⟨#[]⟩, .bool false]) ∧ W = w' := by
  obtain ⟨r, gb, hq, hv, hr, hg⟩ := h.out
  obtain ⟨o, n, f, hb, _⟩ := hq.box
  obtain ⟨_, _, c2, _⟩ := hb.cells
  exact at_out d l.length i W c2 hi

theorem LawP.ahead (h : LawP w d Bg l v m W) (x : ByteArray) (hm : m.length ≤ 1000) : Calls Try.prog 11 #[.string x, v] W fun e w' => ∃ v', e = .returned v' ∧ LawP w d Bg l v' (x :: m) w' ∧ TKept W w' := by
  obtain ⟨r, gb, hq, hv, hr, hg⟩ := h.out
  refine (ahead_any x v m gb W hv hm).mono ?_
  rintro e w' ⟨v', gb', he, hv', hg', hb⟩
  have hto := h.to hb
  exact ⟨v', he, ⟨⟨r, gb', hq.below hb, hv', hr, fun g e => ⟨Nat.le_trans h.below.size (hg' g e), fun e' => by have := (hq.rlt g e').1; have := hg' g e; omega⟩⟩, hto.box, hto.below, h.dn, h.bn⟩, TKept.of hb⟩
theorem LawP.first {m0 : List ByteArray} {x : ByteArray} (h : LawP w d Bg l v m0 W) (e0 : m0 = x :: m) (hm : m.length ≤ 1000) : Calls Try.prog 13 #[v] W fun e w' => ∃ v', e = .returned (.tuple #[.agg #[.string x, .bool true], v']) ∧ LawP w d Bg l v' m w' ∧ TKept W w' := by
  subst e0
  obtain ⟨r, gb, hq, hv, hr, hg⟩ := h.out
  refine (first_some v m x gb W hv hm).mono ?_
  rintro e w' ⟨v', he, hv', hb⟩
  have hto := h.to hb
  exact ⟨v', he, ⟨⟨r, gb, hq.below hb, hv', hr, hg⟩, hto.box, hto.below, h.dn, h.bn⟩, TKept.of hb⟩
theorem LawP.last {m0 : List ByteArray} {x : ByteArray} (h : LawP w d Bg l v m0 W) (e0 : m0 = m ++ [x]) (hm : m.length ≤ 1000) : Calls Try.prog 16 #[v] W fun e w' => ∃ v', e = .returned (.tuple #[.agg #[.string x, .bool true], v']) ∧ LawP w d Bg l v' m w' ∧ TKept W w' := by
  subst e0
  obtain ⟨r, gb, hq, hv, hr, hg⟩ := h.out
  refine (last_some v m x gb W hv hm).mono ?_
  rintro e w' ⟨v', he, hv', hb⟩
  have hto := h.to hb
  exact ⟨v', he, ⟨⟨r, gb, hq.below hb, hv', hr, hg⟩, hto.box, hto.below, h.dn, h.bn⟩, TKept.of hb⟩
theorem LawP.none (h : LawP w d Bg l v m W) {W' : World} (hb : Below W.heap.size W W') : LawP w d Bg l (.slice none 0 0) [] W' := by
  obtain ⟨r, gb, hq, hv, hr, hg⟩ := h.out
  have hto := h.to hb
  exact ⟨⟨r, Option.none, hq.below hb, Hv.nil _, hr, fun g e => by cases e⟩, hto.box, hto.below, h.dn, h.bn⟩
theorem LawP.first0 (h : LawP w d Bg l v m W) (e0 : m = []) : Calls Try.prog 13 #[v] W fun e w' => e = .returned (.tuple #[.agg #[.string ⟨#[]⟩, .bool false], .slice Option.none 0 0]) ∧ LawP w d Bg l (.slice Option.none 0 0) [] w' ∧ TKept W w' := by
  subst e0
  obtain ⟨o, c, rfl⟩ := h.form
  refine (first_empty o c W).mono ?_
  rintro e w' ⟨he, hb⟩
  exact ⟨he, h.none hb, TKept.of hb⟩
theorem LawP.last0 (h : LawP w d Bg l v m W) (e0 : m = []) : Calls Try.prog 16 #[v] W fun e w' => e = .returned (.tuple #[.agg #[.string ⟨#[]⟩, .bool false], .slice Option.none 0 0]) ∧ LawP w d Bg l (.slice Option.none 0 0) [] w' ∧ TKept W w' := by
  subst e0
  obtain ⟨o, c, rfl⟩ := h.form
  refine (last_empty o c W).mono ?_
  rintro e w' ⟨he, hb⟩
  exact ⟨he, h.none hb, TKept.of hb⟩
theorem LawP.ref (h : LawP w d Bg l v m W) (i : Nat) (hi : i < m.length) : Calls Try.prog 18 #[v, .int .i64 (i : Int)] W fun e w' => e = .returned (.agg #[.string (tx m i), .bool true]) ∧ LawP w d Bg l v m w' := by
  obtain ⟨r, gb, hq, hv, hr, hg⟩ := h.out
  exact (refAt_in v m gb i W hv hi).mono fun e w' ⟨he, hb⟩ => ⟨he, h.to hb⟩
theorem LawP.ref0 (h : LawP w d Bg l v m W) (i : Int) (hi : i < 0 ∨ (m.length : Int) ≤ i) : Calls Try.prog 18 #[v, .int .i64 i] W fun e w' => e = .returned (.agg #[.string ⟨#[]⟩, .bool false]) ∧ LawP w d Bg l v m w' := by
  obtain ⟨r, gb, hq, hv, hr, hg⟩ := h.out
  exact (refAt_out v m gb i W hv hi).mono fun e w' ⟨he, hb⟩ => ⟨he, h.to hb⟩

theorem wpList_append_p {ops : Array Oper} {rest : List Oper} {o : Oper} {a : Act} {Q : Exit → Act → World → Prop} (hgd : o.guard = Option.none) (s x : Operand)
    (ho : o.op = .call { callee := .builtin .append, args := #[s, x], argTypes := #[25, 25] })
    (hs : a.eval s = v) (h : LawP w d Bg l v m W) (hm : m.length ≤ 1000000) (ad : Addr) (c : Nat) (y : ByteArray) (hx : a.eval x = .slice (some ad) 1 c) (ha : W.cell? ad = some (.string y))
    (hK : ∀ v' W', LawP w d Bg l v' (m ++ [y]) W' → wpList Try.prog ops Q rest (a.put o.dst v') W') : wpList Try.prog ops Q (o :: rest) a W := by
  obtain ⟨r, gb, hq, hv, hr, hg⟩ := h.out
  exact wpList_append_hv hgd s x ho v m gb hs hv hm ad c y hx ha fun v' W' ht => hK v' W' (h.app hq hr hv hg ht).1
end

/-- The box of an act. -/
def ABox (W : World) (B : Nat) (K : Int) (X : ByteArray) (N : Int) : Prop := W.heap[B]? = some (.cells #[.int .i64 K, .string X, .int .i64 N] 31 (0, 0))
theorem ABox.kept {W W' : World} {B : Nat} {K : Int} {X : ByteArray} {N : Int} (h : ABox W B K X N) (hk : TKept W W') : ABox W' B K X N := hk B _ _ h (by decide) (by decide)
theorem ABox.cells {W : World} {B : Nat} {K : Int} {X : ByteArray} {N : Int} (h : ABox W B K X N) : W.cell? ⟨B, 0, none⟩ = some (.int .i64 K) ∧ W.cell? ⟨B, 1, none⟩ = some (.string X) ∧ W.cell? ⟨B, 2, none⟩ = some (.int .i64 N) := by
  unfold ABox at h
  refine ⟨?_, ?_, ?_⟩ <;> (rw [cell_of_row W B _ _ _ _ h]; rfl)
end Go.Proofs.Ytphjemnmbbeieaa
