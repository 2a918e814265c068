/-
  A law's own loop over the deque's function, whether it is gone through or left; what a loop that shoves keeps.
-/
import Derived.Test.YtphjemnmbbeieaaDequeR
import Derived.Test.YtphjemnmbbeieaaAny
namespace Go.Proofs.Ytphjemnmbbeieaa
open Go.RowKit Go.Shelf

/-- The activation of a round: the text in p, and in the variable i. -/
def asg1 (a : Act) (p i : Nat) (u : Value) : Act := { tmps := (a.tmps.setIfInBounds p u).setIfInBounds i u, defers := [] }
/-- How a round leaves: at what may not be there, or by a break. -/
def LeftBy (b : Nat) (Bad T : List ByteArray → Prop) (I : List ByteArray → World → Prop) (c : Code) (pre : List ByteArray) (W : World) : Prop := (c = .ret ∧ Bad pre) ∨ (c = .exit b ∧ T pre ∧ I pre W)
theorem LeftBy.own {B b : Nat} {Bad T : List ByteArray → Prop} {I : List ByteArray → World → Prop} (h : OwnFrom B I) (c : Code) : OwnFrom B (LeftBy b Bad T I c) := fun s X Y row hs hg hr => by
  rcases hs with hs | ⟨h1, h2, h3⟩
  · exact .inl hs
  · exact .inr ⟨h1, h2, h s X Y row h3 hg hr⟩

theorem range_texts {g : Operand} {assign body : Code} {Q : Exit → Act → World → Prop} {a : Act} {w : World} (b p i d Bs : Nat) (o : Option Addr) (l : List ByteArray) (hl : l.length ≤ 1000)
    (hg : a.eval g = .func (.func 30) #[] #[.pointer (some ⟨Bs, 0, none⟩)]) (hof : Of o d l w) (hB : w.heap[Bs]? = some (.cells #[.pointer o] 47 (0, 0))) (hd : d < w.heap.size)
    (I : List ByteArray → World → Prop) (hI : OwnFrom w.heap.size I) (h0 : I [] w) (Bad T : List ByteArray → Prop) (hbad : ∀ pre, pre <+: l → ¬ Bad pre)
    (hassign : ∀ (L : Nat) (x : ByteArray) (W : World) (K : Act → World → Prop), K (asg1 a p i (.string x)) W →
      assign.wpIn (Fence.wide.inRound L) 2 Try.prog (Exit.then K (fun _ _ _ => False)) { tmps := a.tmps.setIfInBounds p (.string x), defers := [] } W)
    (hbody : ∀ (L : Nat) (pre : List ByteArray) (x : ByteArray) (W : World), I pre W → pre.length < l.length → body.wpIn (Fence.wide.inRound L) 2 Try.prog (ownPostG w.heap.size (KpD d w.heap.size) I (LeftBy b Bad T I) (pre ++ [x]) W) (asg1 a p i (.string x)) W)
    (hrest : ∀ (D : Nat) (pre : List ByteArray) (W : World), w.heap.size ≤ D → pre.length ≤ l.length → (pre.length = l.length ∨ T pre) → I pre W → W.heap[D]? = some (.deferred (some [])) → Q .normal { a with defers := { target := .collected D, args := #[] } :: a.defers } W) :
    (Code.rangeFunc g #[p] assign body).wpIn Fence.wide 4 Try.prog (Exit.inBlock b Q) a w := by
  refine wpIn_rangeFunc_ownH (n := 4) rfl (by omega) (gf := 30) (lb := #[.pointer (some ⟨Bs, 0, none⟩)]) hg trivial (enters_of Try.func30 (by kernel_rfl) rfl)
    (all_stops 3 (by omega) Bs d o l hl w hof hB) (fun h1 h2 => KpD.trans h1 h2) (fun W k o o' h1 h2 h3 _ => KpD.loop hd W k o o' h1 h2 h3) (Below.refl _ _) (fun _ => rfl)
    I (LeftBy b Bad T I) hI (fun c => LeftBy.own hI c) h0 (fun x a' _ => a' = asg1 a p i (.string x)) (fun _ _ _ _ _ _ hs _ _ => hs) ?assign ?body ?done ?stop
  case assign =>
    intro L pre x W K hi hK
    have h := hassign L x W K (hK _ W (KeepsFrom.refl _ _) (KpD.refl _ _ _) hi rfl)
    simpa [encT] using h
  case body =>
    rintro L pre x a' W hL _ hi rfl hlt
    exact hbody L pre x W hi hlt
  case done =>
    rintro D zs W hD rfl hi hK
    exact hrest D zs W hD (Nat.le_refl _) (.inl rfl) hi hK
  case stop =>
    rintro D c pre W hD hp hx hK
    rcases hx with ⟨_, hb⟩ | ⟨rfl, hT, hi⟩
    · exact absurd hb (hbad pre hp)
    · have h := hrest D pre W hD hp.length_le (.inr hT) hi hK
      refine wpIn_exit ?_
      show (if b = b then _ else _)
      rw [if_pos rfl]
      exact h

/-- All that was there is as it was, but for the deque at d, its ring and the box Bn. -/
structure GKept (d Bn : Nat) (r r' : Option Nat) (w w' : World) : Prop where
  os : w'.os = w.os
  tape : w'.tape = w.tape
  output : w'.output = w.output
  size : w.heap.size ≤ w'.heap.size
  block : ∀ k, k < w.heap.size → k ≠ d → k ≠ Bn → r ≠ some k → w'.heap[k]? = w.heap[k]?
  ring : ∀ k, r' = some k → r = some k ∨ w.heap.size ≤ k
theorem GKept.refl (d Bn : Nat) (r : Option Nat) (w : World) : GKept d Bn r r w w := ⟨rfl, rfl, rfl, Nat.le_refl _, fun _ _ _ _ _ => rfl, fun _ h => .inl h⟩
theorem GKept.step {d Bn : Nat} {r r' r'' : Option Nat} {x y z : World} (h : GKept d Bn r r' x y) (k : DKept d r' r'' y z) : GKept d Bn r r'' x z :=
  ⟨k.os.trans h.os, k.tape.trans h.tape, k.output.trans h.output, Nat.le_trans h.size k.size, fun i hi hd hb hr => by
    rw [k.block i (Nat.lt_of_lt_of_le hi h.size) hd (fun e => by rcases h.ring i e with e | e; exact hr e; omega)]
    exact h.block i hi hd hb hr, fun i e => by
    rcases k.ring i e with e | e
    · exact h.ring i e
    · exact .inr (Nat.le_trans h.size e)⟩
theorem GKept.set {d Bn : Nat} {r r' : Option Nat} {x y : World} (h : GKept d Bn r r' x y) (v : Value) : GKept d Bn r r' x (y.setCell ⟨Bn, 0, none⟩ v) :=
  ⟨h.os, h.tape, h.output, by simpa using h.size, fun i hi hd hb hr => by rw [heap_setCell_other _ _ _ _ hb]; exact h.block i hi hd hb hr, h.ring⟩
theorem GKept.below {d Bn B : Nat} {r r' : Option Nat} {w0 w w' : World} (h : GKept d Bn r r' w w') (h0 : Below B w0 w) (hd : B ≤ d) (hn : B ≤ Bn) (hr : ∀ k, r = some k → B ≤ k) (hB : B ≤ w.heap.size) : Below B w0 w' :=
  h0.trans ⟨h.os, h.tape, h.output, h.size, fun k hk => h.block k (by omega) (by omega) (by omega) (fun e => by have := hr k e; omega)⟩
theorem GKept.row {d Bn : Nat} {r r' : Option Nat} {w W W' : World} {row : Option Nat} (h : GKept d Bn r r' w W) (hg : W.grownBy W' row) (hr : ∀ k, row = some k → w.heap.size ≤ k) : GKept d Bn r r' w W' :=
  ⟨hg.os.trans h.os, hg.tape.trans h.tape, hg.output.trans h.output, Nat.le_trans h.size hg.size, fun k hk hd hb h' => by
    rw [hg.block k (Nat.lt_of_lt_of_le hk h.size) (fun e => by have := hr k e.symm; omega)]
    exact h.block k hk hd hb h', h.ring⟩

theorem DKept.others {d : Nat} {r r' : Option Nat} {l : List ByteArray} {w w' : World} (h : DKept d r r' w w') (hq : DQ d r l w) : KeepsOthers w w' := by
  have htag : (∃ cs t, w.heap[d]? = some (.cells cs t (0, 0))) ∧ ∀ g, r = some g → ∃ cs t, w.heap[g]? = some (.cells cs t (0, 0)) := by
    rcases hq.out with ⟨rfl, _, hb⟩ | ⟨g, cs, f, rfl, ha⟩
    · exact ⟨⟨_, _, hb⟩, fun g e => by cases e⟩
    · exact ⟨⟨_, _, ha.box⟩, fun g' e => by cases e; exact ⟨_, _, ha.cells⟩⟩
  refine ⟨h.size, fun k o hk ho => h.heap hk (fun e => ?_) (fun e => ?_)⟩
  · obtain ⟨cs, t, h1⟩ := htag.1
    subst e; rw [hk] at h1; injection h1 with h1; subst h1; cases ho
  · obtain ⟨cs, t, h1⟩ := htag.2 k e
    rw [hk] at h1; injection h1 with h1; subst h1; cases ho
theorem DKept.kpd {d B : Nat} {r r' : Option Nat} {l l' : List ByteArray} {w w' : World} (h : DKept d r r' w w') (hq : DQ d r l w) (hq' : DQ d r' l' w') (hB : d < B) : KpD d B w w' := fun k cs t hk hc hr => by
  rw [hq.ringAt] at hr
  refine ⟨h.heap hc (by omega) hr, ?_⟩
  rw [hq'.ringAt]
  intro e
  rcases h.ring k e with e | e
  · exact hr e
  · have := (Array.getElem?_eq_some_iff.1 hc).1; omega
theorem KpD.set {d B Bn : Nat} (hn : Bn < B) (hd : Bn ≠ d) (w : World) (v : Value) : KpD d B w (w.setCell ⟨Bn, 0, none⟩ v) := fun k cs t hk hc hr => by
  refine ⟨(heap_setCell_other _ _ _ _ (by show k ≠ Bn; omega)).trans hc, ?_⟩
  unfold ringAt at hr ⊢
  rw [heap_setCell_other _ _ _ _ (by show d ≠ Bn; exact fun e => hd e.symm)]
  exact hr

theorem dq_grown {d : Nat} {r : Option Nat} {l : List ByteArray} {W W' : World} {row : Option Nat} (hq : DQ d r l W) (hg : W.grownBy W' row) (hr : ∀ k, row = some k → ∃ o : Obj, W.heap[k]? = some o ∧ o.isCells = false) : DQ d r l W' := by
  rcases hq.out with ⟨h1, h2, hb⟩ | ⟨g, cs, f, h1, ha⟩
  · exact ⟨.inl ⟨h1, h2, (grownBy_keeps_cells hg hr hb rfl).trans hb⟩⟩
  · exact ⟨.inr ⟨g, cs, f, h1, ha.heap (grownBy_keeps_cells hg hr ha.box rfl) (grownBy_keeps_cells hg hr ha.cells rfl)⟩⟩

/-! ### A region that draws its order in a function that ranges over a function: where nothing panics, what a panic would owe is of no matter -/
def calmQ (Q : Exit → Act → World → Prop) : Exit → Act → World → Prop := fun e a w => match e with
  | .panic _ => False
  | e => Q e a w
theorem calm_normal {Q : Exit → Act → World → Prop} {a : Act} {w : World} (h : Q .normal a w) : calmQ Q .normal a w := h
theorem AnyGo.regionM {P : Program} {ops : Array Oper} {Q : Exit → Act → World → Prop} {a : Act} {w : World} {id n m : Nat} (S : World → Prop) (hm : P.follows .mixedOrders = true) (hn : ops.size = n) (hS : S w.drew)
    (h : ∀ w2, w2 = w.drew → AnyGo P ops (calmQ Q) S n [] a w2) : (Code.region id ops true).wpIn Fence.wide m P Q a w :=
  wpIn_wide.2 (wp_mono (AnyGo.region S hm hn hS h) (fun e a w h => by cases e <;> first | exact h | exact h.elim))
end Go.Proofs.Ytphjemnmbbeieaa
