/-
  A law's own loop over the lines of a text, whether it is gone through or left.
-/
import Derived.Test.YtikkblakncflfaaSpotL
import Derived.Test.YtikkblakncflfaaSpotD
namespace Go.Proofs.Ytikkblakncflfaa
open Go.RowKit Go.Shelf

theorem range_lines {g : Operand} {assign body : Code} {Q : Exit → Act → World → Prop} {a : Act} {w : World} (b p q i j Bs : Nat) (s : ByteArray) (hs : s.size ≤ 100000)
    (hg : a.eval g = .func (.func 16) #[] #[.pointer (some ⟨Bs, 0, none⟩)]) (hB : w.heap[Bs]? = some (.cells #[.string s] 9 (0, 0)))
    (I : List Ln → World → Prop) (hI : OwnFrom w.heap.size I) (h0 : I [] w) (Bad T : List Ln → Prop) (hbad : ∀ pre, pre <+: prs 1 (lines s.data.toList) → ¬ Bad pre)
    (hassign : ∀ (L : Nat) (x : Ln) (W : World) (K : Act → World → Prop), K (asg2 a p q i j (.int .i64 (x.1 : Int)) (.string (str x.2))) W →
      assign.wpIn (Fence.wide.inRound L) 2 Try.prog (Exit.then K (fun _ _ _ => False)) { tmps := (a.tmps.setIfInBounds p (.int .i64 (x.1 : Int))).setIfInBounds q (.string (str x.2)), defers := [] } W)
    (hbody : ∀ (L : Nat) (pre : List Ln) (x : Ln) (W : World), I pre W → pre.length < (lines s.data.toList).length → body.wpIn (Fence.wide.inRound L) 2 Try.prog (ownPostG w.heap.size KpT I (LeftBy b Bad T I) (pre ++ [x]) W) (asg2 a p q i j (.int .i64 (x.1 : Int)) (.string (str x.2))) W)
    (hrest : ∀ (D : Nat) (pre : List Ln) (W : World), w.heap.size ≤ D → pre.length ≤ (lines s.data.toList).length → (pre.length = (lines s.data.toList).length ∨ T pre) → I pre W → W.heap[D]? = some (.deferred (some [])) → Q .normal { a with defers := { target := .collected D, args := #[] } :: a.defers } W) :
    (Code.rangeFunc g #[p, q] assign body).wpIn Fence.wide 4 Try.prog (Exit.inBlock b Q) a w := by
  refine wpIn_rangeFunc_ownH (n := 4) rfl (by omega) (gf := 16) (lb := #[.pointer (some ⟨Bs, 0, none⟩)]) hg trivial (enters_of Try.func16 (by kernel_rfl) rfl)
    (each_stops 3 Bs s hs w hB) (fun _ _ => trivial) (fun _ _ _ _ _ _ _ _ => trivial) (Below.refl _ _) (fun _ => rfl)
    I (LeftBy b Bad T I) hI (fun c => LeftBy.own hI c) h0 (fun x a' _ => a' = asg2 a p q i j (.int .i64 (x.1 : Int)) (.string (str x.2))) (fun _ _ _ _ _ _ hs _ _ => hs) ?assign ?body ?done ?stop
  case assign =>
    intro L pre x W K hi hK
    have h := hassign L x W K (hK _ W (KeepsFrom.refl _ _) trivial hi rfl)
    simpa [encL] using h
  case body =>
    rintro L pre x a' W hL _ hi rfl hlt
    exact hbody L pre x W hi hlt
  case done =>
    rintro D zs W hD rfl hi hK
    exact hrest D _ W hD (Nat.le_of_eq (prs_length 1 _)) (.inl (prs_length 1 _)) hi hK
  case stop =>
    rintro D c pre W hD hp hx hK
    rcases hx with ⟨_, hb⟩ | ⟨rfl, hT, hi⟩
    · exact absurd hb (hbad pre hp)
    · have h := hrest D pre W hD (by have := hp.length_le; rwa [prs_length] at this) (.inr hT) hi hK
      refine wpIn_exit ?_
      show (if b = b then _ else _)
      rw [if_pos rfl]
      exact h

theorem own_slice {w0 W : World} {v : Value} {s : List UInt8} (h : Own w0 v (lines s) W) : ∃ g cap, v = .slice (some ⟨g, 0, none⟩) (lines s).length cap ∧ g < W.heap.size ∧ ∀ j x, (lines s)[j]? = some x → W.cell? ⟨g, j, none⟩ = some (TV x) := by
  have ho := h.own
  have hl := lines_length s
  rw [hl] at ho
  obtain ⟨g, cap, rfl⟩ := ownsRow_succ ho
  refine ⟨g, cap, by rw [hl], (ho.lt g rfl).2, fun j x hj => ?_⟩
  have hjl := (List.getElem?_eq_some_iff.1 hj).1
  rw [hl] at hjl
  have hc := World.ownsRow.cellAt (n := (ofP s).1 + 1) ho j (by omega)
  rw [hc, List.getElem?_map, hj]; rfl

/-- Something has come that is not there. -/
def Bad (l : List (List UInt8)) (pre : List Ln) : Prop := ∃ ini x, pre = ini ++ [x] ∧ (prs 1 l)[ini.length]? ≠ some x
theorem bad_not (l : List (List UInt8)) (pre : List Ln) (h : pre <+: prs 1 l) : ¬ Bad l pre := by
  rintro ⟨ini, x, rfl, hne⟩
  obtain ⟨t, ht⟩ := h
  apply hne
  rw [← ht, List.append_assoc, List.getElem?_append_right (Nat.le_refl _), Nat.sub_self]
  rfl
/-- Between two rounds. -/
def GoI (Bn : Nat) (w6 : World) (pre : List Ln) (W : World) : Prop := Kept2 Bn Bn w6 W ∧ Boxed W Bn 3 (.int .i64 (pre.length : Int))
theorem GoI.own (Bn : Nat) (w6 : World) : OwnFrom w6.heap.size (GoI Bn w6) := fun s X Y row ⟨hk, hb⟩ hg hr =>
  ⟨hk.grown hg (fun k e => .inl (hr k e).1), hb.kept hg (fun e' => by obtain ⟨_, o, ho, hc⟩ := hr Bn e'.symm; rw [show X.heap[Bn]? = _ from hb] at ho; cases ho; cases hc)⟩

/-- What the law has laid. -/
structure At3 (w : World) (P g N cap : Nat) (stop : Int) (m : List (List UInt8)) (W : World) : Prop where
  bw : Below w.heap.size w W
  t : Boxed W w.heap.size 3 (.int .i64 stop)
  r : Boxed W (w.heap.size + 1) 4 (.bool false)
  h : Boxed W P 23 (.slice (some ⟨g, 0, none⟩) N cap)
  row : ∀ j x, m[j]? = some x → W.cell? ⟨g, j, none⟩ = some (.string (str x))
  lo : w.heap.size + 1 < P
  glt : g < P
theorem At3.start {w w2 : World} {g N cap : Nat} {stop : Int} {m : List (List UInt8)} (h : Below ((w.alloc (.cells #[.int .i64 stop] 3)).alloc (.cells #[.bool false] 4)).heap.size ((w.alloc (.cells #[.int .i64 stop] 3)).alloc (.cells #[.bool false] 4)) w2)
    (hg : g < w2.heap.size) (hrow : ∀ j x, m[j]? = some x → w2.cell? ⟨g, j, none⟩ = some (.string (str x))) : At3 w w2.heap.size g N cap stop m (w2.alloc (.cells #[.slice (some ⟨g, 0, none⟩) N cap] 23)) := by
  have hs := h.size
  simp only [World.size_alloc] at hs
  have hr := Boxed.new (w.alloc (.cells #[.int .i64 stop] 3)) 4 (.bool false)
  rw [World.size_alloc] at hr
  have ht := (Boxed.new w 3 (.int .i64 stop)).alloc (.cells #[.bool false] 4)
  have hb := ((Below.refl _ w).alloc (Nat.le_refl _) (.cells #[.int .i64 stop] 3)).alloc (by simp) (.cells #[.bool false] 4)
  refine ⟨(hb.trans (h.mono hb.size)).alloc (by omega) _, (ht.kept (below_grown h) (by simp)).alloc _, (hr.kept (below_grown h) (by simp)).alloc _, Boxed.new w2 _ _, fun j x hj => ?_, by omega, hg⟩
  exact ((Below.refl _ w2).alloc (Nat.le_refl _) _).cell (p := ⟨g, j, none⟩) hg |>.trans (hrow j x hj)
theorem At3.to {w W W' : World} {P g N cap : Nat} {stop : Int} {m : List (List UInt8)} (h : At3 w P g N cap stop m W) (hb : Below W.heap.size W W') : At3 w P g N cap stop m W' :=
  ⟨h.bw.trans (hb.mono h.bw.size), h.t.kept (below_grown hb) (by simp), h.r.kept (below_grown hb) (by simp), h.h.kept (below_grown hb) (by simp), fun j x hj => (hb.cell (p := ⟨g, j, none⟩) (Nat.lt_trans h.glt h.h.lt)).trans (h.row j x hj), h.lo, h.glt⟩
theorem At3.kept {w W W' : World} {P g N cap K : Nat} {stop : Int} {m : List (List UInt8)} (h : At3 w P g N cap stop m W) (hk : Kept2 K K W W') (hK : P < K) : At3 w P g N cap stop m W' :=
  have hlo := h.lo
  have hgl := h.glt
  ⟨hk.below h.bw (by omega) (by omega) h.bw.size, hk.heap h.t (by omega) (by omega), hk.heap h.r (by omega) (by omega), hk.heap h.h (by omega) (by omega), fun j x hj => hk.cell (h.row j x hj) (by simp only; omega) (by simp only; omega), h.lo, h.glt⟩
end Go.Proofs.Ytikkblakncflfaa
