/-
  Sets plainly: rows in their order, and what adding, taking and asking make of them; trees in memory.
-/
import Derived.Test.YtglmcjplglgnlaaKit
namespace Go.Proofs.Ytglmcjplglgnlaa
open Go.RowKit

/-- A strict order in which of any two things one is below the other, or they are the same. -/
structure Lin {α : Type} (lt : α → α → Bool) : Prop where
  irr : ∀ a, lt a a = false
  trans : ∀ a b c, lt a b = true → lt b c = true → lt a c = true
  tri : ∀ a b, lt a b = false → lt b a = false → a = b
theorem Lin.asymm {α : Type} {lt : α → α → Bool} (h : Lin lt) {a b : α} (hab : lt a b = true) : lt b a = false := by
  cases e : lt b a with
  | false => rfl
  | true => have := h.trans a b a hab e; rw [h.irr] at this; cases this

/-- The row rises. -/
def Up {α : Type} (lt : α → α → Bool) (l : List α) : Prop := l.Pairwise (fun a b => lt a b = true)
/-- The row with x in it. -/
def ins {α : Type} (lt : α → α → Bool) (x : α) : List α → List α
  | [] => [x]
  | y :: l => if lt x y then x :: y :: l else if lt y x then y :: ins lt x l else y :: l
/-- The row without x. -/
def del {α : Type} (lt : α → α → Bool) (x : α) (l : List α) : List α := l.filter (fun y => lt y x || lt x y)
/-- How many lie below x. -/
def rank {α : Type} (lt : α → α → Bool) (x : α) (l : List α) : Nat := (l.filter (fun y => lt y x)).length
/-- The row of things that come one behind the other. -/
def rowOf {α : Type} (lt : α → α → Bool) (xs : List α) : List α := xs.foldl (fun l x => ins lt x l) []

section
variable {α : Type} {lt : α → α → Bool} (hL : Lin lt)
include hL

omit hL in
theorem Up.mid {a b : List α} {v : α} (h : Up lt (a ++ v :: b)) : (∀ y ∈ a, lt y v = true) ∧ (∀ y ∈ b, lt v y = true) ∧ Up lt a ∧ Up lt b := by
  unfold Up at h
  rw [List.pairwise_append, List.pairwise_cons] at h
  exact ⟨fun y hy => h.2.2 y hy v (by simp), h.2.1.1, h.1, h.2.1.2⟩

omit hL in
theorem ins_left {a b : List α} {x v : α} (h : lt x v = true) : ins lt x (a ++ v :: b) = ins lt x a ++ v :: b := by
  induction a with
  | nil => simp only [List.nil_append, ins, h, if_true]; rfl
  | cons y a ih =>
    simp only [List.cons_append, ins]
    split
    · rfl
    · split
      · rw [ih]; rfl
      · rfl
theorem ins_right {a b : List α} {x v : α} (hu : Up lt (a ++ v :: b)) (h : lt v x = true) : ins lt x (a ++ v :: b) = a ++ v :: ins lt x b := by
  induction a with
  | nil => simp only [List.nil_append, ins, hL.asymm h, h, if_true]; simp
  | cons y a ih =>
    have hyx : lt y x = true := hL.trans y v x ((hu.mid (a := y :: a)).1 y (by simp)) h
    simp only [List.cons_append, ins, hL.asymm hyx, hyx, if_true]
    rw [ih (by have := hu; unfold Up at this; rw [List.cons_append, List.pairwise_cons] at this; exact this.2)]
    simp
theorem ins_mem {x : α} {l : List α} : ∀ y, y ∈ ins lt x l ↔ y = x ∨ y ∈ l := by
  induction l with
  | nil => intro y; simp [ins]
  | cons z l ih =>
    intro y
    simp only [ins]
    split
    · simp
    · split
      · simp only [List.mem_cons, ih]
        constructor
        · rintro (h | h | h) <;> simp [h]
        · rintro (h | h | h) <;> simp [h]
      · have e := hL.tri x z (by simp_all) (by simp_all)
        subst e
        simp
theorem ins_up {x : α} {l : List α} (hu : Up lt l) : Up lt (ins lt x l) := by
  induction l with
  | nil => simp [ins, Up]
  | cons z l ih =>
    unfold Up at hu
    rw [List.pairwise_cons] at hu
    simp only [ins]
    split
    · next h =>
      unfold Up
      rw [List.pairwise_cons, List.pairwise_cons]
      refine ⟨fun y hy => ?_, hu⟩
      rcases List.mem_cons.1 hy with rfl | hy
      · exact h
      · exact hL.trans _ _ _ h (hu.1 y hy)
    · split
      · next h =>
        unfold Up
        rw [List.pairwise_cons]
        refine ⟨fun y hy => ?_, ih hu.2⟩
        rcases (ins_mem hL y).1 hy with rfl | hy
        · exact h
        · exact hu.1 y hy
      · unfold Up; rw [List.pairwise_cons]; exact hu
theorem ins_same {x : α} {l : List α} (hu : Up lt l) (hx : x ∈ l) : ins lt x l = l := by
  induction l with
  | nil => cases hx
  | cons z l ih =>
    unfold Up at hu
    rw [List.pairwise_cons] at hu
    rcases List.mem_cons.1 hx with rfl | hx
    · simp [ins, hL.irr]
    · have h := hu.1 x hx
      simp only [ins, hL.asymm h, h, if_true]
      rw [ih hu.2 hx]; rfl
omit hL in
theorem ins_length {x : α} {l : List α} : (ins lt x l).length ≤ l.length + 1 := by
  induction l with
  | nil => simp [ins]
  | cons z l ih =>
    simp only [ins]
    split
    · simp
    · split <;> simp <;> omega
/-- The new row, as the document makes it. -/
theorem ins_split {x : α} {l : List α} (hu : Up lt l) (hx : x ∉ l) : ins lt x l = l.filter (fun y => lt y x) ++ x :: l.filter (fun y => lt x y) := by
  induction l with
  | nil => simp [ins]
  | cons z l ih =>
    unfold Up at hu
    rw [List.pairwise_cons] at hu
    simp only [ins]
    split
    · next h =>
      have h1 : ∀ y ∈ z :: l, lt x y = true := fun y hy => by
        rcases List.mem_cons.1 hy with rfl | hy
        · exact h
        · exact hL.trans _ _ _ h (hu.1 y hy)
      rw [List.filter_eq_self.2 h1, List.filter_eq_nil_iff.2 (fun y hy => by rw [hL.asymm (h1 y hy)]; simp)]
      rfl
    · next h =>
      have hzx : lt z x = true := by
        cases e : lt z x with
        | true => rfl
        | false => exact absurd (hL.tri x z (by simpa using h) e) (fun e => hx (by rw [e]; simp))
      rw [if_pos hzx, ih hu.2 (fun c => hx (by simp [c])), List.filter_cons, if_pos hzx, List.filter_cons, if_neg (by simpa using h)]
      rfl

theorem del_mem {x : α} {l : List α} : ∀ y, y ∈ del lt x l ↔ y ∈ l ∧ y ≠ x := by
  intro y
  simp only [del, List.mem_filter, Bool.or_eq_true]
  constructor
  · rintro ⟨h, h2⟩
    refine ⟨h, fun e => ?_⟩
    subst e
    rw [hL.irr] at h2
    simp at h2
  · rintro ⟨h, h2⟩
    refine ⟨h, ?_⟩
    cases e : lt y x with
    | true => exact .inl rfl
    | false =>
      cases e2 : lt x y with
      | true => exact .inr rfl
      | false => exact absurd (hL.tri y x e e2) h2
omit hL in
theorem del_up {x : α} {l : List α} (hu : Up lt l) : Up lt (del lt x l) := List.Pairwise.filter _ hu
omit hL in
theorem del_length {x : α} {l : List α} : (del lt x l).length ≤ l.length := List.length_filter_le _ _
theorem del_none {x : α} {l : List α} (h : x ∉ l) : del lt x l = l := by
  unfold del
  rw [List.filter_eq_self]
  intro y hy
  cases e : lt y x with
  | true => rfl
  | false =>
    cases e2 : lt x y with
    | true => rfl
    | false => exact absurd (hL.tri y x e e2) (fun e => h (e ▸ hy))
omit hL in
theorem up_not {a : List α} {x v : α} (h : ∀ y ∈ a, lt y v = true) (hx : lt x v = false) : x ∉ a := fun c => by rw [h x c] at hx; cases hx
omit hL in
theorem up_not' {b : List α} {x v : α} (h : ∀ y ∈ b, lt v y = true) (hx : lt v x = false) : x ∉ b := fun c => by rw [h x c] at hx; cases hx
theorem del_left {a b : List α} {x v : α} (hu : Up lt (a ++ v :: b)) (h : lt x v = true) : del lt x (a ++ v :: b) = del lt x a ++ v :: b := by
  have hb : x ∉ v :: b := by
    rw [List.mem_cons]
    rintro (e | e)
    · subst e; rw [hL.irr] at h; cases h
    · exact up_not' hu.mid.2.1 (hL.asymm h) e
  have := del_none hL hb
  unfold del at this ⊢
  rw [List.filter_append, this]
theorem del_right {a b : List α} {x v : α} (hu : Up lt (a ++ v :: b)) (h : lt v x = true) : del lt x (a ++ v :: b) = a ++ v :: del lt x b := by
  have ha : x ∉ a := up_not hu.mid.1 (hL.asymm h)
  have := del_none hL ha
  unfold del at this ⊢
  rw [List.filter_append, this, List.filter_cons, if_pos (by simp [h])]
theorem del_mid {a b : List α} {v : α} (hu : Up lt (a ++ v :: b)) : del lt v (a ++ v :: b) = a ++ b := by
  have ha : v ∉ a := up_not hu.mid.1 (hL.irr v)
  have hb : v ∉ b := up_not' hu.mid.2.1 (hL.irr v)
  have h1 := del_none hL ha
  have h2 := del_none hL hb
  unfold del at h1 h2 ⊢
  rw [List.filter_append, h1, List.filter_cons, if_neg (by simp [hL.irr]), h2]
theorem mem_left {a b : List α} {x v : α} (hu : Up lt (a ++ v :: b)) (h : lt x v = true) (hx : x ∈ a ++ v :: b) : x ∈ a := by
  rw [List.mem_append, List.mem_cons] at hx
  rcases hx with hx | rfl | hx
  · exact hx
  · rw [hL.irr] at h; cases h
  · exact absurd hx (up_not' hu.mid.2.1 (hL.asymm h))
theorem mem_right {a b : List α} {x v : α} (hu : Up lt (a ++ v :: b)) (h : lt v x = true) (hx : x ∈ a ++ v :: b) : x ∈ b := by
  rw [List.mem_append, List.mem_cons] at hx
  rcases hx with hx | rfl | hx
  · exact absurd hx (up_not hu.mid.1 (hL.asymm h))
  · rw [hL.irr] at h; cases h
  · exact hx

omit hL in
theorem rank_le {x : α} {l : List α} : rank lt x l ≤ l.length := List.length_filter_le _ _
theorem rank_right {a b : List α} {x v : α} (hu : Up lt (a ++ v :: b)) (h : lt v x = true) : rank lt x (a ++ v :: b) = a.length + 1 + rank lt x b := by
  unfold rank
  rw [List.filter_append, List.filter_eq_self.2 (fun y hy => hL.trans _ _ _ (hu.mid.1 y hy) h), List.filter_cons, if_pos h, List.length_append, List.length_cons]
  omega
theorem rank_left {a b : List α} {x v : α} (hu : Up lt (a ++ v :: b)) (h : lt v x = false) : rank lt x (a ++ v :: b) = rank lt x a := by
  unfold rank
  have hb : ∀ y ∈ b, ¬ lt y x = true := fun y hy c => by
    have := hL.trans _ _ _ (hu.mid.2.1 y hy) c
    rw [h] at this; cases this
  rw [List.filter_append, List.filter_cons, if_neg (by simp [h]), List.filter_eq_nil_iff.2 hb, List.append_nil]
/-- What is there stands at its place. -/
theorem rank_get {x : α} {l : List α} (hu : Up lt l) (hx : x ∈ l) : l[rank lt x l]? = some x := by
  obtain ⟨a, b, rfl⟩ := List.append_of_mem hx
  rw [rank_left hL hu (hL.irr x)]
  unfold rank
  rw [List.filter_eq_self.2 (fun y hy => hu.mid.1 y hy)]
  simp
/-- Rows that rise and have the same things are the same. -/
theorem up_unique {l m : List α} (hl : Up lt l) (hm : Up lt m) (h : ∀ x, x ∈ l ↔ x ∈ m) : l = m := by
  induction l generalizing m with
  | nil =>
    cases m with
    | nil => rfl
    | cons y m => exact absurd ((h y).2 (by simp)) (by simp)
  | cons x l ih =>
    cases m with
    | nil => exact absurd ((h x).1 (by simp)) (by simp)
    | cons y m =>
      unfold Up at hl hm
      rw [List.pairwise_cons] at hl hm
      have e : x = y := by
        rcases List.mem_cons.1 ((h x).1 (by simp)) with e | e
        · exact e
        · rcases List.mem_cons.1 ((h y).2 (by simp)) with e2 | e2
          · exact e2.symm
          · have h1 := hm.1 x e
            have h2 := hl.1 y e2
            rw [hL.asymm h1] at h2; cases h2
      subst e
      refine congrArg (x :: ·) (ih hl.2 hm.2 fun z => ?_)
      constructor
      · intro hz
        rcases List.mem_cons.1 ((h z).1 (by simp [hz])) with e | e
        · subst e; have := hl.1 z hz; rw [hL.irr] at this; cases this
        · exact e
      · intro hz
        rcases List.mem_cons.1 ((h z).2 (by simp [hz])) with e | e
        · subst e; have := hm.1 z hz; rw [hL.irr] at this; cases this
        · exact e
theorem rowOf_up' (xs l : List α) (h : Up lt l) : Up lt (xs.foldl (fun l x => ins lt x l) l) := by
  induction xs generalizing l with
  | nil => exact h
  | cons x xs ih => exact ih _ (ins_up hL h)
theorem rowOf_up (xs : List α) : Up lt (rowOf lt xs) := rowOf_up' hL xs [] List.Pairwise.nil
theorem rowOf_mem' (xs l : List α) : ∀ y, y ∈ xs.foldl (fun l x => ins lt x l) l ↔ y ∈ xs ∨ y ∈ l := by
  induction xs generalizing l with
  | nil => intro y; simp
  | cons x xs ih =>
    intro y
    rw [List.foldl_cons, ih, ins_mem hL, List.mem_cons]
    constructor
    · rintro (h | h | h) <;> simp [h]
    · rintro ((h | h) | h) <;> simp [h]
theorem rowOf_mem (xs : List α) : ∀ y, y ∈ rowOf lt xs ↔ y ∈ xs := fun y => by rw [rowOf, rowOf_mem' hL]; simp
omit hL in
theorem rowOf_snoc (xs : List α) (x : α) : rowOf lt (xs ++ [x]) = ins lt x (rowOf lt xs) := by simp [rowOf]
omit hL in
theorem rowOf_length' (xs l : List α) : (xs.foldl (fun l x => ins lt x l) l).length ≤ l.length + xs.length := by
  induction xs generalizing l with
  | nil => simp
  | cons x xs ih =>
    have h1 := ih (ins lt x l)
    have h2 := ins_length (lt := lt) (x := x) (l := l)
    rw [List.foldl_cons, List.length_cons]
    omega
omit hL in
theorem rowOf_length (xs : List α) : (rowOf lt xs).length ≤ xs.length := by have := rowOf_length' (lt := lt) xs []; simpa [rowOf] using this
/-- In whatever order they come. -/
theorem rowOf_reverse (xs : List α) : rowOf lt xs.reverse = rowOf lt xs :=
  up_unique hL (rowOf_up hL _) (rowOf_up hL _) fun x => by rw [rowOf_mem hL, rowOf_mem hL, List.mem_reverse]
end

/-! ### The two orders -/
def ltI (a b : Int) : Bool := decide (a < b)
theorem ltI_lin : Lin ltI := ⟨fun a => by simp [ltI], fun a b c h1 h2 => by simp [ltI] at *; omega, fun a b h1 h2 => by simp [ltI] at *; omega⟩
def ltS (a b : ByteArray) : Bool := Op.bytesLess a.toList b.toList
theorem bytes_irr : ∀ a : List UInt8, Op.bytesLess a a = false
  | [] => by simp [Op.bytesLess]
  | x :: a => by simp [Op.bytesLess, bytes_irr a, UInt8.lt_irrefl]
theorem bytes_trans : ∀ a b c : List UInt8, Op.bytesLess a b = true → Op.bytesLess b c = true → Op.bytesLess a c = true
  | _, _, [], _, h => by simp [Op.bytesLess] at h
  | _, [], _ :: _, h, _ => by simp [Op.bytesLess] at h
  | [], _ :: _, _ :: _, _, _ => by simp [Op.bytesLess]
  | x :: a, y :: b, z :: c, h1, h2 => by
    simp only [Op.bytesLess, Bool.or_eq_true, Bool.and_eq_true, decide_eq_true_eq, beq_iff_eq] at *
    rcases h1 with h1 | ⟨rfl, h1⟩
    · rcases h2 with h2 | ⟨rfl, h2⟩
      · exact .inl (UInt8.lt_trans h1 h2)
      · exact .inl h1
    · rcases h2 with h2 | ⟨rfl, h2⟩
      · exact .inl h2
      · exact .inr ⟨rfl, bytes_trans a b c h1 h2⟩
theorem bytes_tri : ∀ a b : List UInt8, Op.bytesLess a b = false → Op.bytesLess b a = false → a = b
  | [], [], _, _ => rfl
  | [], _ :: _, h, _ => by simp [Op.bytesLess] at h
  | _ :: _, [], _, h => by simp [Op.bytesLess] at h
  | x :: a, y :: b, h1, h2 => by
    simp only [Op.bytesLess, Bool.or_eq_false_iff, Bool.and_eq_false_iff, decide_eq_false_iff_not, beq_eq_false_iff_ne] at *
    have e : x = y := UInt8.le_antisymm (UInt8.not_lt.1 h2.1) (UInt8.not_lt.1 h1.1)
    subst e
    rw [bytes_tri a b (h1.2.resolve_left (fun c => c rfl)) (h2.2.resolve_left (fun c => c rfl))]
theorem toList_inj {a b : ByteArray} (h : a.toList = b.toList) : a = b := by
  rw [ByteArray.toList_eq, ByteArray.toList_eq] at h
  exact ByteArray.ext (Array.toList_inj.1 h)
theorem ltS_lin : Lin ltS := ⟨fun _ => bytes_irr _, fun _ _ _ => bytes_trans _ _ _, fun _ _ h1 h2 => toList_inj (bytes_tri _ _ h1 h2)⟩

/-! ### Trees -/
inductive BT (α : Type) where
  | leaf
  | node (l : BT α) (v : α) (r : BT α)
def BT.row {α : Type} : BT α → List α
  | .leaf => []
  | .node l v r => l.row ++ v :: r.row
/-- The node at block b. -/
def NodeAt {α : Type} (enc : α → Value) (tn : TypeId) (W : World) (b : Nat) (pl : Option Addr) (v : α) (pr : Option Addr) (k : Nat) : Prop :=
  W.heap[b]? = some (.cells #[.pointer pl, .pointer pr, enc v, .int .i64 (k : Int)] tn (0, 0))
/-- The heap holds the tree at p. -/
def IsTree {α : Type} (enc : α → Value) (tn : TypeId) (W : World) : Option Addr → BT α → Prop
  | p, .leaf => p = none
  | p, .node l v r => ∃ (b : Nat) (pl pr : Option Addr), p = some ⟨b, 0, none⟩ ∧ NodeAt enc tn W b pl v pr (l.row.length + 1 + r.row.length) ∧ IsTree enc tn W pl l ∧ IsTree enc tn W pr r

/-- Nodes are as they were. -/
def NKept (tn : TypeId) (W W' : World) : Prop := ∀ (k : Nat) (cs : Array Value), W.heap[k]? = some (.cells cs tn (0, 0)) → W'.heap[k]? = some (.cells cs tn (0, 0))
theorem NKept.refl (tn : TypeId) (W : World) : NKept tn W W := fun _ _ h => h
theorem NKept.trans {tn : TypeId} {X Y Z : World} (h : NKept tn X Y) (k : NKept tn Y Z) : NKept tn X Z := fun i cs e => k i cs (h i cs e)
theorem NKept.of {tn : TypeId} {X Y : World} (h : Below X.heap.size X Y) : NKept tn X Y := fun i _ e => (h.block i (Array.getElem?_eq_some_iff.1 e).1).trans e
/-- What turns one block that is no node. -/
theorem NKept.grown {tn : TypeId} {X Y : World} {d : Nat} (h : X.grownBy Y (some d)) {cs : Array Value} {t : TypeId} (hd : X.heap[d]? = some (.cells cs t (0, 0))) (ht : t ≠ tn) : NKept tn X Y := fun i cs' e => by
  refine (h.block i (Array.getElem?_eq_some_iff.1 e).1 (fun c => ?_)).trans e
  injection c with c
  subst c
  rw [hd] at e
  injection e with e
  injection e with _ e _
  exact ht e
theorem IsTree.kept {α : Type} {enc : α → Value} {tn : TypeId} {A B : World} (h : NKept tn A B) : ∀ {p : Option Addr} {T : BT α}, IsTree enc tn A p T → IsTree enc tn B p T
  | _, .leaf, ht => ht
  | _, .node _ _ _, ⟨b, pl, pr, hp, hb, hl, hr⟩ => ⟨b, pl, pr, hp, h _ _ hb, IsTree.kept h hl, IsTree.kept h hr⟩
theorem IsTree.below {α : Type} {enc : α → Value} {tn : TypeId} {A B : World} {p : Option Addr} {T : BT α} (ht : IsTree enc tn A p T) (h : Below A.heap.size A B) : IsTree enc tn B p T := ht.kept (NKept.of h)

theorem NodeAt.cells {α : Type} {enc : α → Value} {tn : TypeId} {w : World} {b : Nat} {pl : Option Addr} {v : α} {pr : Option Addr} {k : Nat} (h : NodeAt enc tn w b pl v pr k) : w.cell? ⟨b, 0, none⟩ = some (.pointer pl) ∧ w.cell? ⟨b, 1, none⟩ = some (.pointer pr) ∧ w.cell? ⟨b, 2, none⟩ = some (enc v) ∧ w.cell? ⟨b, 3, none⟩ = some (.int .i64 (k : Int)) := by
  unfold NodeAt at h
  refine ⟨?_, ?_, ?_, ?_⟩ <;> (rw [cell_of_row w b _ _ _ _ h]; rfl)
theorem NodeAt.lt {α : Type} {enc : α → Value} {tn : TypeId} {w : World} {b : Nat} {pl : Option Addr} {v : α} {pr : Option Addr} {k : Nat} (h : NodeAt enc tn w b pl v pr k) : b < w.heap.size := (Array.getElem?_eq_some_iff.1 h).1
theorem NodeAt.below {α : Type} {enc : α → Value} {tn : TypeId} {w w' : World} {b : Nat} {pl : Option Addr} {v : α} {pr : Option Addr} {k : Nat} (h : NodeAt enc tn w b pl v pr k) (hb : Below w.heap.size w w') : NodeAt enc tn w' b pl v pr k := (hb.block b h.lt).trans h
/-- A new node. -/
theorem IsTree.new {α : Type} {enc : α → Value} {tn : TypeId} {w : World} {pl pr : Option Addr} {L R : BT α} (hl : IsTree enc tn w pl L) (hr : IsTree enc tn w pr R) (v : α) (k : Int) (hk : k = ((L.row.length + 1 + R.row.length : Nat) : Int)) :
    IsTree enc tn (w.alloc (.cells #[.pointer pl, .pointer pr, enc v, .int .i64 k] tn)) (some ⟨w.heap.size, 0, none⟩) (.node L v R) := by
  subst hk
  have hb := (Below.refl _ w).alloc (Nat.le_refl _) (.cells #[.pointer pl, .pointer pr, enc v, .int .i64 ((L.row.length + 1 + R.row.length : Nat) : Int)] tn)
  exact ⟨w.heap.size, pl, pr, rfl, heap_alloc_new w _, hl.below hb, hr.below hb⟩
/-- A tree whose row is l is answered; nothing of what was there has turned. -/
def TTo {α : Type} (enc : α → Value) (tn : TypeId) (w : World) (l : List α) (e : Ending) (w' : World) : Prop := ∃ p T, e = .returned (.pointer p) ∧ IsTree enc tn w' p T ∧ T.row = l ∧ Below w.heap.size w w'

/-! ### Rows in memory -/
/-- The slice v reads as l, in blocks below B. -/
structure RowAt {α : Type} (enc : α → Value) (B : Nat) (w : World) (v : Value) (l : List α) : Prop where
  room : l.length ≤ 9223372036854775807
  out : (l = [] ∧ ∃ o cap, v = .slice o 0 cap) ∨ ∃ b off cap, v = .slice (some ⟨b, off, none⟩) l.length cap ∧ b < B ∧ ∀ i x, l[i]? = some x → w.cell? ⟨b, off + i, none⟩ = some (enc x)
theorem RowAt.nil {α : Type} (enc : α → Value) (B : Nat) (w : World) : RowAt enc B w (.slice none 0 0) [] := ⟨by simp, .inl ⟨rfl, none, 0, rfl⟩⟩
theorem RowAt.below {α : Type} {enc : α → Value} {B : Nat} {w w' : World} {v : Value} {l : List α} (h : RowAt enc B w v l) (hb : Below B w w') : RowAt enc B w' v l := by
  refine ⟨h.room, ?_⟩
  rcases h.out with h | ⟨b, off, cap, h1, h2, h3⟩
  · exact .inl h
  · exact .inr ⟨b, off, cap, h1, h2, fun i x hi => (hb.cell (p := ⟨b, off + i, none⟩) h2).trans (h3 i x hi)⟩
theorem RowAt.mono {α : Type} {enc : α → Value} {B B' : Nat} {w : World} {v : Value} {l : List α} (h : RowAt enc B w v l) (hb : B ≤ B') : RowAt enc B' w v l := by
  refine ⟨h.room, ?_⟩
  rcases h.out with h | ⟨b, off, cap, h1, h2, h3⟩
  · exact .inl h
  · exact .inr ⟨b, off, cap, h1, by omega, h3⟩
/-- The slice, whether it is empty or not. -/
theorem RowAt.form {α : Type} {enc : α → Value} {B : Nat} {w : World} {v : Value} {l : List α} (h : RowAt enc B w v l) : ∃ o cap, v = .slice o l.length cap ∧ ∀ i x, l[i]? = some x → ∃ b off, o = some ⟨b, off, none⟩ ∧ b < B ∧ ∀ W, Below B w W → W.cell? ⟨b, off + i, none⟩ = some (enc x) := by
  rcases h.out with ⟨rfl, o, cap, rfl⟩ | ⟨b, off, cap, rfl, hb, hc⟩
  · exact ⟨o, cap, rfl, fun i x hi => by simp at hi⟩
  · exact ⟨_, cap, rfl, fun i x hi => ⟨b, off, rfl, hb, fun W hW => (hW.cell (p := ⟨b, off + i, none⟩) hb).trans (hc i x hi)⟩⟩
theorem get_of_lt {α : Type} {l : List α} {i : Nat} (h : i < l.length) : ∃ x, l[i]? = some x := ⟨_, List.getElem?_eq_getElem h⟩
theorem take_snoc {α : Type} {l : List α} {i : Nat} {x : α} (h : l[i]? = some x) : l.take (i + 1) = l.take i ++ [x] := by rw [List.take_add_one, h]; rfl
/-- What turns one block alone. -/
theorem grown_below {X Y : World} {d B : Nat} (h : X.grownBy Y (some d)) (hd : B ≤ d) (hB : B ≤ X.heap.size) : Below B X Y :=
  ⟨h.os, h.tape, h.output, h.size, fun k hk => h.block k (by omega) (fun e => by injection e with e; omega)⟩
theorem grown_of {X Y : World} {r : Option Nat} (h : Below X.heap.size X Y) : X.grownBy Y r := ⟨h.os, h.tape, h.output, h.size, fun k hk _ => h.block k hk⟩
theorem grown_set (W : World) (d : Nat) (v : Value) : W.grownBy (W.setCell ⟨d, 0, none⟩ v) (some d) := ⟨rfl, rfl, rfl, by simp, fun k _ hne => heap_setCell_other _ _ _ _ (fun e => hne (by rw [e]))⟩
theorem grown_trans {x y z : World} {row : Option Nat} (h : x.grownBy y row) (k : y.grownBy z row) : x.grownBy z row :=
  ⟨k.os.trans h.os, k.tape.trans h.tape, k.output.trans h.output, Nat.le_trans h.size k.size, fun i hi hn => (k.block i (Nat.lt_of_lt_of_le hi h.size) hn).trans (h.block i hi hn)⟩
end Go.Proofs.Ytglmcjplglgnlaa
