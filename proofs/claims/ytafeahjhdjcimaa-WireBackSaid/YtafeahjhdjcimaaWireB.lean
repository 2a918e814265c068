/-
  The program's take: a step is done only while nothing is wrong.
-/
import Derived.Test.YtafeahjhdjcimaaWireA
namespace Go.Proofs.Ytafeahjhdjcimaa
open Go.RowKit Go.Joins

theorem take_no (p fv : Value) (l : List UInt8) (f : Int) (w : World) (h : PR p l f w) (h0 : f ≠ 0) :
    Calls Try.prog 45 #[p, fv] w fun e w' => e = .returned (.tuple #[]) ∧ w = w' := by
  have HE := keep (err_any p l f w h)
  have hf : (f == 0) = false := by simpa using h0
  clear h h0
  go_enter Try.func45, Try.ntmps45
  go_wp2_with fail
  refine HE.out.mono ?_
  rintro e w' ⟨rfl, rfl⟩
  go_wp2_with fail
  exact bodyPost_ret (results_none (by rfl) _ _ _) rfl ⟨rfl, rfl⟩

/-- The world behind a step: what the step says of it, and the reader's place or error turned. -/
def Took (b : Nat) (j : Nat) (v : Value) (Q : World → Prop) (w' : World) : Prop := ∃ w1, Q w1 ∧ w' = w1.setCell ⟨b, j, none⟩ v
/-- What a step answers. -/
def StepTo (nx ft : Int) (Q : World → Prop) (e : Ending) (w' : World) : Prop := e = .returned (.tuple #[.int .i64 nx, .int .i64 ft]) ∧ Q w'

theorem take_yes (b : Nat) (s : ByteArray) (a k : Nat) (caps : Array Value) (nx : Int) (Q : World → Prop) (w : World) (h : RdAt b s a 0 w) (hs : s.size ≤ 1000000)
    (hq : ∀ w', Q w' → w'.frozen? ⟨b, 1, none⟩ = false ∧ ∃ v, w'.cell? ⟨b, 1, none⟩ = some v)
    (hk : ∀ (args : Array Value) (w : World), (callFunc k args).run Try.prog w = .ok (.enter k args) w)
    (hstep : ∀ n, Calls Try.prog k (#[.string s, .int .i64 a] ++ caps) (w.drewN n) (StepTo nx 0 Q)) :
    Calls Try.prog 45 #[.pointer (some ⟨b, 0, none⟩), .func (.func k) #[] caps] w fun e w' => e = .returned (.tuple #[]) ∧ Took b 1 (.int .i64 nx) Q w' := by
  have HE := keep (err_any (.pointer (some ⟨b, 0, none⟩)) _ 0 w ⟨.inr ⟨b, s, a, rfl, rfl, hs, h⟩⟩)
  obtain ⟨c0, c1, c2, z1, z2⟩ := h.cells
  have HS := keep hstep
  have HQ := keep hq
  clear h hs hstep hq
  go_enter Try.func45, Try.ntmps45
  go_wp2_with fail
  refine HE.out.mono ?_
  rintro e w' ⟨rfl, rfl⟩
  go_wp2_with fail
  go_region_with (refine (HS.out 1).mono ?_; rintro e w1 ⟨rfl, hq⟩; obtain ⟨q1, q2, q3⟩ := HQ.out w1 hq; have HQ1 := keep hq; clear hq)
  all_goals
    go_wp2_with fail
    go_end0
    exact ⟨rfl, _, HQ1.out, rfl⟩

theorem take_bad (b : Nat) (s : ByteArray) (a k : Nat) (caps : Array Value) (nx ft : Int) (Q : World → Prop) (w : World) (h : RdAt b s a 0 w) (hs : s.size ≤ 1000000) (hft : ft ≠ 0)
    (hq : ∀ w', Q w' → w'.frozen? ⟨b, 2, none⟩ = false ∧ ∃ v, w'.cell? ⟨b, 2, none⟩ = some v)
    (hk : ∀ (args : Array Value) (w : World), (callFunc k args).run Try.prog w = .ok (.enter k args) w)
    (hstep : ∀ n, Calls Try.prog k (#[.string s, .int .i64 a] ++ caps) (w.drewN n) (StepTo nx ft Q)) :
    Calls Try.prog 45 #[.pointer (some ⟨b, 0, none⟩), .func (.func k) #[] caps] w fun e w' => e = .returned (.tuple #[]) ∧ Took b 2 (.int .i64 ft) Q w' := by
  have HE := keep (err_any (.pointer (some ⟨b, 0, none⟩)) _ 0 w ⟨.inr ⟨b, s, a, rfl, rfl, hs, h⟩⟩)
  obtain ⟨c0, c1, c2, z1, z2⟩ := h.cells
  have HS := keep hstep
  have HQ := keep hq
  have hf : (ft == 0) = false := by simpa using hft
  clear h hs hstep hq hft
  go_enter Try.func45, Try.ntmps45
  go_wp2_with fail
  refine HE.out.mono ?_
  rintro e w' ⟨rfl, rfl⟩
  go_wp2_with fail
  go_region_with (refine (HS.out 1).mono ?_; rintro e w1 ⟨rfl, hq⟩; obtain ⟨q1, q2, q3⟩ := HQ.out w1 hq; have HQ1 := keep hq; clear hq)
  all_goals
    go_wp2_with fail
    exact bodyPost_ret (results_none (by rfl) _ _ _) rfl ⟨rfl, _, HQ1.out, rfl⟩

/-- What a step leaves: the reader as it was, the variable c that it has written; all else is as it was. -/
structure StepQ (b c : Nat) (s : ByteArray) (a : Nat) (v : Value) (t : TypeId) (W w' : World) : Prop where
  rd : RdAt b s a 0 w'
  var : w'.heap[c]? = some (.cells #[v] t (0, 0))
  kept : Kept (.pointer (some ⟨c, 0, none⟩)) W w'

theorem StepQ.undrew {b c : Nat} {s : ByteArray} {a : Nat} {v : Value} {t : TypeId} {W w' : World} {n : Nat} (h : StepQ b c s a v t (W.drewN n) w') : StepQ b c s a v t W w' := ⟨h.rd, h.var, ⟨h.kept.os, h.kept.tape, h.kept.output, h.kept.size, h.kept.block⟩⟩
theorem StepQ.store {b c : Nat} {s : ByteArray} {a : Nat} {v u : Value} {t : TypeId} {W : World} (hr : RdAt b s a 0 W) (hc : W.heap[c]? = some (.cells #[u] t (0, 0))) (hn : b ≠ c) : StepQ b c s a v t W (W.setCell ⟨c, 0, none⟩ v) :=
  ⟨⟨hr.le, by rw [Below.heap_setCell _ _ _ _ hn]; exact hr.at_⟩, one_setCell hc, (Kept.refl _ _).setCell (.inl rfl) _⟩
theorem StepQ.still {b c : Nat} {s : ByteArray} {a : Nat} {v : Value} {t : TypeId} {W : World} (hr : RdAt b s a 0 W) (hc : W.heap[c]? = some (.cells #[v] t (0, 0))) : StepQ b c s a v t W W := ⟨hr, hc, Kept.refl _ _⟩
theorem StepQ.free1 {b c : Nat} {s : ByteArray} {a : Nat} {v : Value} {t : TypeId} {W : World} : ∀ w', StepQ b c s a v t W w' → w'.frozen? ⟨b, 1, none⟩ = false ∧ ∃ v, w'.cell? ⟨b, 1, none⟩ = some v :=
  fun _ h => ⟨h.rd.cells.2.2.2.1, _, h.rd.cells.2.1⟩
theorem StepQ.free2 {b c : Nat} {s : ByteArray} {a : Nat} {v : Value} {t : TypeId} {W : World} : ∀ w', StepQ b c s a v t W w' → w'.frozen? ⟨b, 2, none⟩ = false ∧ ∃ v, w'.cell? ⟨b, 2, none⟩ = some v :=
  fun _ h => ⟨h.rd.cells.2.2.2.2, _, h.rd.cells.2.2.1⟩

theorem StepTo.undrew {b c : Nat} {s : ByteArray} {a : Nat} {v : Value} {t : TypeId} {W : World} {nx ft : Int} {k : Nat} {args : Array Value} (h : ∀ n, Calls Try.prog k args (W.drewN n) (StepTo nx ft (StepQ b c s a v t (W.drewN n)))) :
    ∀ n, Calls Try.prog k args (W.drewN n) (StepTo nx ft (StepQ b c s a v t W)) := fun n => (h n).mono fun _ _ ⟨h1, h2⟩ => ⟨h1, h2.undrew⟩

theorem Took.ok {b c : Nat} {s : ByteArray} {a nx : Nat} {v : Value} {t : TypeId} {w W w' : World} (h : Took b 1 (.int .i64 nx) (StepQ b c s a v t W) w') (hW : Below w.heap.size w W) (hc : w.heap.size ≤ c) (hb : b < w.heap.size) (hn : nx ≤ s.size) :
    w'.cell? ⟨c, 0, none⟩ = some v ∧ RdAt b s nx 0 w' ∧ Kept (.pointer (some ⟨b, 0, none⟩)) w w' := by
  obtain ⟨w1, ⟨hr, hv, hk⟩, rfl⟩ := h
  refine ⟨?_, hr.setAt hn, ?_⟩
  · exact cell_of_one ((Below.heap_setCell _ _ _ _ (by show c ≠ b; omega)).trans hv)
  · exact (Kept.of (hW.trans (hk.below (fun k e => by cases e; exact hc) hW.size))).setCell (.inl rfl) _
theorem Took.bad {b c : Nat} {s : ByteArray} {a : Nat} {ft : Int} {v : Value} {t : TypeId} {w W w' : World} (h : Took b 2 (.int .i64 ft) (StepQ b c s a v t W) w') (hW : Below w.heap.size w W) (hc : w.heap.size ≤ c) (hb : b < w.heap.size) :
    w'.cell? ⟨c, 0, none⟩ = some v ∧ RdAt b s a ft w' ∧ Kept (.pointer (some ⟨b, 0, none⟩)) w w' := by
  obtain ⟨w1, ⟨hr, hv, hk⟩, rfl⟩ := h
  refine ⟨?_, hr.setErr _, ?_⟩
  · exact cell_of_one ((Below.heap_setCell _ _ _ _ (by show c ≠ b; omega)).trans hv)
  · exact (Kept.of (hW.trans (hk.below (fun k e => by cases e; exact hc) hW.size))).setCell (.inl rfl) _

/-! ### Num -/
theorem getV_head (s : ByteArray) (a : Nat) : getV s a = if headE (s.data.toList.drop a) = 0 then (headU (s.data.toList.drop a), a + (getL (s.data.toList.drop a) 0 0).2.1, 0) else (0, 0, headE (s.data.toList.drop a)) := rfl
theorem head_le {s : ByteArray} {a : Nat} (ha : a ≤ s.size) (h : headE (s.data.toList.drop a) = 0) : a + (getL (s.data.toList.drop a) 0 0).2.1 ≤ s.size := by
  rcases getL_three (s.data.toList.drop a) 0 0 with ⟨_, _, _, h3⟩ | ⟨h0, _⟩
  · rw [List.length_drop, ← size_list] at h3; omega
  · exact absurd h h0
theorem head_drop (s : ByteArray) (a : Nat) : headL (s.data.toList.drop a) = s.data.toList.drop (a + (getL (s.data.toList.drop a) 0 0).2.1) := by
  unfold headL; rw [List.drop_drop]

theorem numStep (b c : Nat) (s : ByteArray) (a : Nat) (v0 : Value) (t : TypeId) (W : World) (hr : RdAt b s a 0 W) (hs : s.size ≤ 1000000) (hc : W.heap[c]? = some (.cells #[v0] t (0, 0))) (hn : b ≠ c) :
    Calls Try.prog 46 (#[.string s, .int .i64 a] ++ #[.pointer (some ⟨c, 0, none⟩)]) W (StepTo (getV s a).2.1 (getV s a).2.2 (StepQ b c s a (.int .u64 (getV s a).1) t W)) := by
  have HG := keep (get_in s a W hs hr.le)
  have HQ := keep (StepQ.store (v := .int .u64 (getV s a).1) hr hc hn)
  have cv := cell_of_one hc
  have cf := free_of_one hc
  generalize getV s a = x at *
  obtain ⟨u, nx, ft⟩ := x
  clear hr hs hc hn
  show Calls Try.prog 46 #[.string s, .int .i64 a, .pointer (some ⟨c, 0, none⟩)] W _
  go_enter Try.func46, Try.ntmps46
  go_wp2_with fail
  refine HG.out.mono ?_
  rintro e w' ⟨rfl, rfl⟩
  unfold tup3
  go_wp2_with fail
  go_ret2
  exact ⟨rfl, HQ.out⟩

theorem enters {P : Program} {f : FuncId} {fn : Func} {c : Code} (hf : P.funcs[f]? = some fn) (hname : (fn.name == "runtime.NumGoroutine") = false) (hb : fn.body = some c) (args : Array Value) (w : World) :
    (callFunc f args).run P w = .ok (.enter f args) w := by
  have h1 : fn.name ≠ "runtime.NumGoroutine" := by simpa using hname
  simp [callFunc, hf, h1, hb]

/-- A read: the step that is handed in is done while nothing is wrong; V: what stands in the variable c afterwards; x: what is left and what is wrong. -/
theorem take_any (p : Value) (l : List UInt8) (f : Int) (w W : World) (c k : Nat) (caps : Array Value) (v0 V : Value) (x : Rd) (t : TypeId)
    (hk : ∀ (args : Array Value) (w : World), (callFunc k args).run Try.prog w = .ok (.enter k args) w)
    (h : PR p l f w) (hW : Below w.heap.size w W) (hc : w.heap.size ≤ c) (hcW : W.heap[c]? = some (.cells #[v0] t (0, 0)))
    (h0 : f ≠ 0 → V = v0 ∧ x = (l, f))
    (hstep : f = 0 → ∀ b s a, p = .pointer (some ⟨b, 0, none⟩) → l = s.data.toList.drop a → s.size ≤ 1000000 → b ≠ c → a ≤ s.size → ∃ nx ft : Int,
      (∀ W', RdAt b s a 0 W' → W'.heap = W.heap → Calls Try.prog k (#[.string s, .int .i64 a] ++ caps) W' (StepTo nx ft (StepQ b c s a V t W'))) ∧
      ((ft = 0 ∧ ∃ m : Nat, nx = m ∧ m ≤ s.size ∧ x = (s.data.toList.drop m, 0)) ∨ (ft ≠ 0 ∧ x = (l, ft)))) :
    Calls Try.prog 45 #[p, .func (.func k) #[] caps] W fun e w' => e = .returned (.tuple #[]) ∧ w'.cell? ⟨c, 0, none⟩ = some V ∧ RdTo p x w w' := by
  by_cases hf : f = 0
  · subst hf
    rcases h.out with ⟨rfl, rfl, h9⟩ | ⟨b, s, a, rfl, rfl, hs, hr⟩
    · cases h9
    · have hbw := lt_of_block hr.at_
      have hrW : RdAt b s a 0 W := hr.kept (p := .pointer none) (Kept.of hW) (by simp [blk])
      obtain ⟨nx, ft, hcalls, hcase⟩ := hstep rfl b s a rfl rfl hs (by omega) hr.le
      have hst := StepTo.undrew (fun n => hcalls (W.drewN n) ⟨hrW.le, hrW.at_⟩ rfl)
      rcases hcase with ⟨rfl, m, rfl, hm, rfl⟩ | ⟨hft, rfl⟩
      · refine (take_yes b s a k caps _ _ W hrW hs StepQ.free1 hk hst).mono ?_
        rintro e w' ⟨rfl, hT⟩
        obtain ⟨x1, x2, x3⟩ := hT.ok hW hc hbw hm
        exact ⟨rfl, x1, ⟨.inr ⟨b, s, _, rfl, rfl, hs, x2⟩⟩, x3⟩
      · refine (take_bad b s a k caps nx ft _ W hrW hs hft StepQ.free2 hk hst).mono ?_
        rintro e w' ⟨rfl, hT⟩
        obtain ⟨x1, x2, x3⟩ := hT.bad hW hc hbw
        exact ⟨rfl, x1, ⟨.inr ⟨b, s, _, rfl, rfl, hs, x2⟩⟩, x3⟩
  · obtain ⟨rfl, rfl⟩ := h0 hf
    have hp : PR p l f W := h.kept (p := .pointer none) (Kept.of hW) (fun b e => by cases e)
    refine (take_no p _ l f W hp hf).mono ?_
    rintro e w' ⟨rfl, rfl⟩
    exact ⟨rfl, cell_of_one hcW, hp, Kept.of hW⟩
end Go.Proofs.Ytafeahjhdjcimaa
