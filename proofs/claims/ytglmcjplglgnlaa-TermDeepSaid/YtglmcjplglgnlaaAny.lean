/-
  A region that draws its order, walked step by step: what only reads is taken first where it may; where several may come up, one way for each.
-/
import Derived.Test.YtglmcjplglgnlaaPlan
namespace Go.Proofs.Ytglmcjplglgnlaa
open Go.RowKit

/-- What is left of the region (n: how many operations; dn: which have come up), kept from what would lay it open. -/
structure AnyGo (P : Program) (ops : Array Oper) (Q : Exit → Act → World → Prop) (S : World → Prop) (n : Nat) (dn : List Nat) (a : Act) (w : World) : Prop where
  out : S w → wpAnyH P .any ops Q S n (mkL ops.size dn) a w

section
variable {P : Program} {ops : Array Oper} {Q : Exit → Act → World → Prop} {S : World → Prop} {n : Nat} {dn : List Nat} {a a' : Act} {w : World}

/-- May i be taken ahead of all else? -/
def takeF (ops : Array Oper) (dn : List Nat) (i : Nat) : Bool := !isGoCall (opAt ops i) && (ops[i]?).isSome && (freeF ops ops.size dn i && (readyF ops ops.size dn).contains i)

theorem AnyGo.take (i : Nat) (d : Option Tmp) (v : Value) {o : Oper} (ho : ops[i]? = some o) (hns : Region.noSelect ops = true) (hq : PanicPlain Q) (hok : takeF ops dn i = true) (hd : o.dst = d) (hw : Region.wanted o (yielded ops a.tmps) = true) (hy : ∀ w, S w → (execOp a.eval o).run P w = .ok (.value v) w) (ha : a.put d v = a') (h : AnyGo P ops Q S n (i :: dn) a' w) : AnyGo P ops Q S (n + 1) dn a w := ⟨fun hS => by
  unfold takeF at hok
  simp only [Bool.and_eq_true] at hok
  obtain ⟨_, hf, hr⟩ := hok
  subst hd ha
  refine wpAnyH_take ho hns (by rw [free_mkL]; exact hf) (by rw [ready_mkL]; exact hr) (fun c a w h => hq c a _ _ w h) (.inl ⟨hw, hy⟩) hS ?_
  rw [mkL_cons]; exact h.out hS⟩

theorem AnyGo.skip (i : Nat) (d : Option Tmp) {o : Oper} (ho : ops[i]? = some o) (hns : Region.noSelect ops = true) (hq : PanicPlain Q) (hok : takeF ops dn i = true) (hd : o.dst = d) (hw : Region.wanted o (yielded ops a.tmps) = false) (ha : a.put d undef = a') (h : AnyGo P ops Q S n (i :: dn) a' w) : AnyGo P ops Q S (n + 1) dn a w := ⟨fun hS => by
  unfold takeF at hok
  simp only [Bool.and_eq_true] at hok
  obtain ⟨_, hf, hr⟩ := hok
  subst hd ha
  refine wpAnyH_take ho hns (by rw [free_mkL]; exact hf) (by rw [ready_mkL]; exact hr) (fun c a w h => hq c a _ _ w h) (.inr ⟨hw, rfl⟩) hS ?_
  rw [mkL_cons]; exact h.out hS⟩

/-- One alone may come up. -/
theorem AnyGo.one {i : Nat} {o : Oper} (hr : readyF ops ops.size dn = [i]) (ho : ops[i]? = some o) (hw : Region.wanted o (yielded ops a.tmps) = true) (h : ∀ K' : Act → World → Prop, Shut (∀ a w, S w → AnyGo P ops Q S n (i :: dn) a w → K' a w) → Oper.wp P o a w K' Q) : AnyGo P ops Q S (n + 1) dn a w := ⟨fun hS => by
  refine wpAnyH_ready (rs := [i]) (by rw [ready_mkL]; exact hr) (by simp) (AllReadyH.cons ho (fun K hK => ?_) AllReadyH.nil)
  rw [if_pos hw]
  exact h K (fun a w hS hp => hK.out _ _ hS (fun hS => by rw [mkL_cons]; exact hp.out hS))⟩
/-- One alone may come up, and is passed over: a call whose guard is false. -/
theorem AnyGo.pass (i : Nat) (d : Option Tmp) {o : Oper} (hr : readyF ops ops.size dn = [i]) (ho : ops[i]? = some o) (hd : o.dst = d) (hw : Region.wanted o (yielded ops a.tmps) = false) (ha : a.put d undef = a') (h : AnyGo P ops Q S n (i :: dn) a' w) : AnyGo P ops Q S (n + 1) dn a w := ⟨fun hS => by
  subst hd ha
  refine wpAnyH_ready (rs := [i]) (by rw [ready_mkL]; exact hr) (by simp) (AllReadyH.cons ho (fun K hK => ?_) AllReadyH.nil)
  rw [if_neg (by rw [hw]; simp)]
  exact hK.out _ _ hS (fun hS => by rw [mkL_cons]; exact h.out hS)⟩
/-- One of two. -/
theorem AnyGo.two {i j : Nat} {o p : Oper} (hr : readyF ops ops.size dn = [i, j]) (ho : ops[i]? = some o) (hp : ops[j]? = some p) (hw : Region.wanted o (yielded ops a.tmps) = true) (hv : Region.wanted p (yielded ops a.tmps) = true)
    (h : ∀ K' : Act → World → Prop, Shut (∀ a w, S w → AnyGo P ops Q S n (i :: dn) a w → K' a w) → Oper.wp P o a w K' Q)
    (g : ∀ K' : Act → World → Prop, Shut (∀ a w, S w → AnyGo P ops Q S n (j :: dn) a w → K' a w) → Oper.wp P p a w K' Q) : AnyGo P ops Q S (n + 1) dn a w := ⟨fun hS => by
  refine wpAnyH_ready (rs := [i, j]) (by rw [ready_mkL]; exact hr) (by simp) (AllReadyH.cons ho (fun K hK => ?_) (AllReadyH.cons hp (fun K hK => ?_) AllReadyH.nil))
  · rw [if_pos hw]
    exact h K (fun a w hS hp => hK.out _ _ hS (fun hS => by rw [mkL_cons]; exact hp.out hS))
  · rw [if_pos hv]
    exact g K (fun a w hS hp => hK.out _ _ hS (fun hS => by rw [mkL_cons]; exact hp.out hS))⟩
theorem AnyGo.fin (hr : readyF ops ops.size dn = []) (h : Q .normal a w) : AnyGo P ops Q S n dn a w := ⟨fun _ => wpAnyH_done (by rw [ready_mkL]; exact hr) h _⟩

theorem AnyGo.stronger {S2 : World → Prop} (h : ∀ w, S2 w → S w) (hw : S2 w) (hp : AnyGo P ops Q S2 n dn a w) : AnyGo P ops Q S n dn a w :=
  ⟨fun _ => wpAnyH_stronger h _ _ _ _ (hp.out hw)⟩

theorem AnyGo.region {id : Nat} (S : World → Prop) (hm : P.follows .mixedOrders = true) (hn : ops.size = n) (hS : S w.drew)
    (h : ∀ w2, w2 = w.drew → AnyGo P ops Q S n [] a w2) : (Code.region id ops true).wp P Q a w :=
  wp_region_held hm (by have := (h _ rfl).out hS; rw [← hn] at this; rw [mkL_nil]; exact this)
end
end Go.Proofs.Ytglmcjplglgnlaa
