/-
  A region that draws its order and holds calls, walked along a plan: what only reads comes first where it may, a call where nothing else may come up. What a read needs is a condition S on the world that every step keeps; a call may make it stronger.
-/
import Derived.Test.YtglmcjplglgnlaaKit
namespace Go.Proofs.Ytglmcjplglgnlaa
open Go.RowKit

/-- A call of a Go function. -/
def isGoCall (o : Oper) : Bool := match o.op with
  | .call c => (match c.callee with | .value _ => true | _ => false)
  | _ => false

/-- The plan may be followed: what is no call may come up and is free; a call is all that may come up. -/
def planOk (ops : Array Oper) : List Nat → Array Bool → Bool
  | [], listed => (Region.ready .any ops listed).isEmpty
  | i :: r, listed => (match ops[i]? with
      | none => false
      | some o => bif isGoCall o then (match Region.ready .any ops listed with | [j] => j == i | _ => false) else Region.free .any ops listed i && (Region.ready .any ops listed).contains i) && planOk ops r (listed.setIfInBounds i true)

def PanicPlain (Q : Exit → Act → World → Prop) : Prop := ∀ c (a : Act) (d : Option Tmp) (v : Value) (w : World), Q (.panic c) (a.put d v) w → Q (.panic c) a w

theorem wpAnyH_stronger {P : Program} {md : Region.Mode} {ops : Array Oper} {Q : Exit → Act → World → Prop} {S S2 : World → Prop} (h : ∀ w, S2 w → S w) :
    ∀ (fuel : Nat) (listed : Array Bool) (a : Act) (w : World), wpAnyH P md ops Q S2 fuel listed a w → wpAnyH P md ops Q S fuel listed a w
  | 0, _, _, _, hh => hh
  | fuel + 1, _, _, _, hh => ⟨hh.1, fun i hi => wpOp_mono (fun a' w' h' => ⟨h _ h'.1, wpAnyH_stronger h fuel _ a' w' h'.2⟩) (hh.2 i hi)⟩

/-- What is left of the region, kept from what would lay it open. -/
structure PlanGo (P : Program) (ops : Array Oper) (Q : Exit → Act → World → Prop) (S : World → Prop) (π : List Nat) (a : Act) (w : World) : Prop where
  out : ∀ listed, planOk ops π listed = true → Region.noSelect ops = true → PanicPlain Q → S w → wpAnyH P .any ops Q S π.length listed a w

section
variable {P : Program} {ops : Array Oper} {Q : Exit → Act → World → Prop} {S : World → Prop} {π : List Nat} {a a' : Act} {w : World} {i : Nat} {o : Oper}

theorem planOk_cons {listed : Array Bool} (ho : ops[i]? = some o) (h : planOk ops (i :: π) listed = true) :
    (isGoCall o = true → Region.ready .any ops listed = [i]) ∧ (isGoCall o = false → Region.free .any ops listed i = true ∧ (Region.ready .any ops listed).contains i = true) ∧ planOk ops π (listed.setIfInBounds i true) = true := by
  unfold planOk at h
  rw [ho] at h
  simp only [Bool.and_eq_true] at h
  obtain ⟨h1, h2⟩ := h
  refine ⟨fun hc => ?_, fun hc => ?_, h2⟩
  · rw [hc, cond_true] at h1
    split at h1
    · rename_i j e
      rw [e, beq_iff_eq.1 h1]
    · cases h1
  · rw [hc, cond_false, Bool.and_eq_true] at h1
    exact h1

theorem PlanGo.skip (ho : ops[i]? = some o) (hw : Region.wanted o (yielded ops a.tmps) = false) (ha : a.put o.dst undef = a') (h : PlanGo P ops Q S π a' w) : PlanGo P ops Q S (i :: π) a w := ⟨fun listed hok hns hq hS => by
  obtain ⟨h1, h2, h3⟩ := planOk_cons ho hok
  subst ha
  cases hc : isGoCall o
  · obtain ⟨hf, hr⟩ := h2 hc
    exact wpAnyH_take ho hns hf hr (fun c a w h => hq c a _ _ w h) (.inr ⟨hw, rfl⟩) hS (h.out _ h3 hns hq hS)
  · refine wpAnyH_ready (rs := [i]) (h1 hc) (by simp) (AllReadyH.cons ho (fun K hK => ?_) AllReadyH.nil)
    rw [if_neg (by rw [hw]; simp)]
    exact hK.out _ _ hS (fun hS => h.out _ h3 hns hq hS)⟩

theorem PlanGo.take {v : Value} (ho : ops[i]? = some o) (hc : isGoCall o = false) (hw : Region.wanted o (yielded ops a.tmps) = true) (hy : ∀ w, S w → (execOp a.eval o).run P w = .ok (.value v) w) (ha : a.put o.dst v = a') (h : PlanGo P ops Q S π a' w) : PlanGo P ops Q S (i :: π) a w := ⟨fun listed hok hns hq hS => by
  obtain ⟨_, h2, h3⟩ := planOk_cons ho hok
  subst ha
  obtain ⟨hf, hr⟩ := h2 hc
  exact wpAnyH_take ho hns hf hr (fun c a w h => hq c a _ _ w h) (.inl ⟨hw, hy⟩) hS (h.out _ h3 hns hq hS)⟩

theorem PlanGo.call (ho : ops[i]? = some o) (hc : isGoCall o = true) (hw : Region.wanted o (yielded ops a.tmps) = true) (h : ∀ K' : Act → World → Prop, Shut (∀ a w, S w → PlanGo P ops Q S π a w → K' a w) → Oper.wp P o a w K' Q) : PlanGo P ops Q S (i :: π) a w := ⟨fun listed hok hns hq hS => by
  obtain ⟨h1, _, h3⟩ := planOk_cons ho hok
  refine wpAnyH_ready (rs := [i]) (h1 hc) (by simp) (AllReadyH.cons ho (fun K hK => ?_) AllReadyH.nil)
  rw [if_pos hw]
  exact h K (fun a w hS hp => hK a w hS (fun hS => hp.out _ h3 hns hq hS))⟩

theorem PlanGo.done (h : Q .normal a w) : PlanGo P ops Q S [] a w := ⟨fun listed hok _ _ _ => by
  unfold planOk at hok
  exact wpAnyH_done (List.isEmpty_iff.1 hok) h _⟩

theorem PlanGo.stronger {S2 : World → Prop} (h : ∀ w, S2 w → S w) (hw : S2 w) (hp : PlanGo P ops Q S2 π a w) : PlanGo P ops Q S π a w :=
  ⟨fun listed hok hns hq _ => wpAnyH_stronger h _ _ _ _ (hp.out listed hok hns hq hw)⟩

theorem PlanGo.region {id : Nat} (S : World → Prop) (π : List Nat) (hm : P.follows .mixedOrders = true) (hns : Region.noSelect ops = true) (hq : PanicPlain Q) (hl : π.length = ops.size) (hok : planOk ops π (Array.replicate ops.size false) = true) (hS : S w.drew)
    (h : ∀ w2, w2 = w.drew → PlanGo P ops Q S π a w2) : (Code.region id ops true).wp P Q a w :=
  wp_region_held hm (by have := (h _ rfl).out _ hok hns hq hS; rw [hl] at this; exact this)

theorem PlanGo.eq (ha : a = a') (h : PlanGo P ops Q S π a' w) : PlanGo P ops Q S π a w := by rw [ha]; exact h

/-! ### The plan's check, in a form that the kernel reckons fast: what has come up is a list of numbers -/
def mkL (n : Nat) (done : List Nat) : Array Bool := ((List.range n).map fun j => done.contains j).toArray
def inL (n : Nat) (done : List Nat) (i : Nat) (d : Bool) : Bool := bif Nat.blt i n then done.contains i else d
theorem getD_mkL (n : Nat) (done : List Nat) (i : Nat) (d : Bool) : (mkL n done).getD i d = inL n done i d := by
  unfold mkL inL
  by_cases h : i < n
  · rw [show Nat.blt i n = true by rw [Nat.blt_eq]; exact h, cond_true]
    simp [Array.getD, h]
  · rw [show Nat.blt i n = false by rw [← Bool.not_eq_true, Nat.blt_eq]; exact h, cond_false]
    simp [Array.getD, h]
theorem mkL_nil (n : Nat) : Array.replicate n false = mkL n [] := by
  unfold mkL
  apply Array.ext
  · simp
  · intro i h1 h2; simp
theorem mkL_cons (n : Nat) (done : List Nat) (i : Nat) : (mkL n done).setIfInBounds i true = mkL n (i :: done) := by
  unfold mkL
  rw [List.setIfInBounds_toArray]
  congr 1
  apply List.ext_getElem
  · simp
  · intro j h1 h2
    rw [List.getElem_set]
    simp only [List.getElem_map, List.getElem_range, List.contains_cons]
    by_cases h : i = j
    · subst h; simp
    · rw [if_neg h, show (j == i) = false by rw [beq_eq_false_iff_ne]; exact fun e => h e.symm, Bool.false_or]
def readyF (ops : Array Oper) (n : Nat) (done : List Nat) : List Nat :=
  (List.range ops.size).filter fun i => !inL n done i true && ((ops[i]?).map (·.after.all fun e => !Region.binds .any e || inL n done e.on false)).getD false
theorem ready_mkL (ops : Array Oper) (n : Nat) (done : List Nat) : Region.ready .any ops (mkL n done) = readyF ops n done := by
  unfold Region.ready readyF
  simp only [getD_mkL]
def freeF (ops : Array Oper) (n : Nat) (done : List Nat) (i : Nat) : Bool :=
  match ops[i]? with
  | none => false
  | some oi => (List.range ops.size).all fun j => j == i || inL n done j true || match ops[j]? with
      | some oj => oj.after.any (fun e => Region.binds .any e && e.on == i) || oi.apart ops oj
      | none => true
theorem free_mkL (ops : Array Oper) (n : Nat) (done : List Nat) (i : Nat) : Region.free .any ops (mkL n done) i = freeF ops n done i := by
  unfold Region.free freeF
  cases ops[i]? with
  | none => rfl
  | some oi =>
    simp only [getD_mkL]
    congr 1
def planF (ops : Array Oper) (n : Nat) : List Nat → List Nat → Bool
  | [], done => (readyF ops n done).isEmpty
  | i :: r, done => (match ops[i]? with
      | none => false
      | some o => bif isGoCall o then (match readyF ops n done with | [j] => j == i | _ => false) else freeF ops n done i && (readyF ops n done).contains i) && planF ops n r (i :: done)
theorem planF_ok (ops : Array Oper) (n : Nat) : ∀ (π done : List Nat), planF ops n π done = planOk ops π (mkL n done)
  | [], done => by unfold planF planOk; rw [ready_mkL]
  | i :: r, done => by
    unfold planF planOk
    rw [planF_ok ops n r (i :: done), ready_mkL, free_mkL, mkL_cons]

/-- As region, over whatever follows: what follows is kept out of the steps' way; the plan's check is the fast one. -/
theorem PlanGo.regionQ {id : Nat} (S : World → Prop) (π : List Nat) (hm : P.follows .mixedOrders = true) (hns : Region.noSelect ops = true) (hq : PanicPlain Q) (hl : π.length = ops.size) (hok : planF ops ops.size π [] = true) (hS : S w.drew)
    (h : ∀ Q0 : Exit → Act → World → Prop, Shut (∀ a w, Q .normal a w → Q0 .normal a w) → ∀ w2, w2 = w.drew → PlanGo P ops Q0 S π a w2) : (Code.region id ops true).wp P Q a w :=
  PlanGo.region S π hm hns hq hl (by rw [mkL_nil, ← planF_ok]; exact hok) hS (h Q (fun _ _ h => h))

/-! ### Steps by an operation's number: every condition is closed, for the kernel alone -/
def noOp : Oper := { dst := none, op := .move (.tmp 0), type := 0, pos := "", after := #[], guard := none }
def opAt (ops : Array Oper) (i : Nat) : Oper := (ops[i]?).getD noOp
theorem opAt_some (h : (ops[i]?).isSome = true) : ops[i]? = some (opAt ops i) := by
  unfold opAt
  cases e : ops[i]? with
  | none => rw [e] at h; cases h
  | some o => rfl

theorem PlanGo.skipI (d : Option Tmp) (hi : (ops[i]?).isSome = true) (hd : (opAt ops i).dst = d) (hw : Region.wanted (opAt ops i) (yielded ops a.tmps) = false) (ha : a.put d undef = a') (h : PlanGo P ops Q S π a' w) : PlanGo P ops Q S (i :: π) a w :=
  PlanGo.skip (opAt_some hi) hw (by rw [hd]; exact ha) h
theorem PlanGo.takeI (d : Option Tmp) (v : Value) (hi : (ops[i]?).isSome = true) (hd : (opAt ops i).dst = d) (hc : isGoCall (opAt ops i) = false) (hw : Region.wanted (opAt ops i) (yielded ops a.tmps) = true) (hy : ∀ w, S w → (execOp a.eval (opAt ops i)).run P w = .ok (.value v) w) (ha : a.put d v = a') (h : PlanGo P ops Q S π a' w) : PlanGo P ops Q S (i :: π) a w :=
  PlanGo.take (opAt_some hi) hc hw hy (by rw [hd]; exact ha) h
theorem PlanGo.callI (d : Option Tmp) (f : FuncId) (vals : Array Value) {R : Ending → World → Prop} (hi : (ops[i]?).isSome = true) (hd : (opAt ops i).dst = d) (hc : isGoCall (opAt ops i) = true) (hw : Region.wanted (opAt ops i) (yielded ops a.tmps) = true)
    (hrun : ∀ w, (execOp a.eval (opAt ops i)).run P w = .ok (.enter f vals) w) (hcall : Calls P f vals w R) (hR : ∀ e w', R e w' → ∃ v, e = .returned v ∧ S w' ∧ PlanGo P ops Q S π (a.put d v) w') : PlanGo P ops Q S (i :: π) a w :=
  PlanGo.call (opAt_some hi) hc hw (fun K' hK => by
    unfold Oper.wp
    rw [hrun w, Oper.upon_enter]
    refine hcall.mono fun e w' h => ?_
    obtain ⟨v, rfl, hS, hp⟩ := hR e w' h
    rw [hd]
    exact hK.out _ _ hS hp)
end
end Go.Proofs.Ytglmcjplglgnlaa
