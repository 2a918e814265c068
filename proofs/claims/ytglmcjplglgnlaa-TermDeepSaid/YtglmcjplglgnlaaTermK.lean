/-
  Maps whose entries are known: what a look-up finds, what a new entry makes of them.
-/
import Derived.Test.YtglmcjplglgnlaaChecked
import Derived.Test.YtglmcjplglgnlaaStr
import Derived.Maps.Own
import Derived.Maps.RangeRun
import Derived.DeepKeys4
namespace Go.Proofs.Ytglmcjplglgnlaa
open Go.RowKit Go.ChangeMaps Go.MapKept
open Go.Maps (Keyed)

/-- Block b is a map of just these entries, under this clock. -/
def MapAt (w : World) (b : Nat) (es : List MapEntry) (c : Nat) : Prop := w.heap[b]? = some (.map es.toArray c)
theorem MapAt.lt {w : World} {b : Nat} {es : List MapEntry} {c : Nat} (h : MapAt w b es c) : b < w.heap.size := (Array.getElem?_eq_some_iff.1 h).1
theorem MapAt.kept {w w' : World} {b : Nat} {es : List MapEntry} {c : Nat} (h : MapAt w b es c) (hb : w'.heap[b]? = w.heap[b]?) : MapAt w' b es c := hb.trans h
theorem MapAt.to {w w' : World} {b : Nat} {es : List MapEntry} {c n : Nat} (h : MapAt w b es c) (hb : Below n w w') (hn : b < n) : MapAt w' b es c := h.kept (hb.block b hn)
theorem MapAt.grown {w w' : World} {b : Nat} {es : List MapEntry} {c : Nat} {row : Option Nat} (h : MapAt w b es c) (hg : w.grownBy w' row) (hn : some b ≠ row) : MapAt w' b es c := h.kept (hg.block b h.lt hn)
theorem MapAt.made (w : World) : MapAt (w.alloc (.map #[] 0)) w.heap.size [] 0 := (MapKept.heap_alloc w _).1

section
variable {P : Program} {w : World} {b c : Nat} {es : List MapEntry} {k e t : TypeId} {key : Value} {kl : Lit}

theorem run_look_hit (h : MapAt w b es c) (K : Keyed P k) (ht : P.underlying t = some (.map k e)) (hk : keyOf P k key = some kl) (hes : ∀ x ∈ es, ∃ l, keyOf P k x.key = some l) {v : Value} (h1 : ∃ x ∈ es, x.key = key) (h2 : ∀ x ∈ es, x.key = key → x.val = v) :
    (Instr.lookup t (.map (some b)) key false).run P w = .ok v w := by
  have hb : w.heap[b]? = some (.map es.toArray c) := h
  rcases K.find w hk es hes with ⟨_, hn⟩ | ⟨j, x, hr, hx, hxk⟩
  · obtain ⟨x, hx, e1⟩ := h1
    exact absurd e1 (hn x hx)
  · have hv := h2 x (List.mem_of_getElem? hx) hxk
    subst hv
    simp [Instr.lookup, run_underlying ht, MapKept.run_getObj_map hb, K.check w _ hk, hr, Result.andThen]
theorem run_look_miss (h : MapAt w b es c) (K : Keyed P k) (ht : P.underlying t = some (.map k e)) (hk : keyOf P k key = some kl) (hes : ∀ x ∈ es, ∃ l, keyOf P k x.key = some l) {v : Value} (hz : (zeroValue e).run P w = .ok v w) (h2 : ∀ x ∈ es, x.key ≠ key) :
    (Instr.lookup t (.map (some b)) key false).run P w = .ok v w := by
  have hb : w.heap[b]? = some (.map es.toArray c) := h
  rcases K.find w hk es hes with ⟨hr, hn⟩ | ⟨j, x, hr, hx, hxk⟩
  · simp [Instr.lookup, run_underlying ht, MapKept.run_getObj_map hb, K.check w _ hk, hr, hz, Result.andThen]
  · exact absurd hxk (h2 x (List.mem_of_getElem? hx))
theorem run_store_new (h : MapAt w b es c) (K : Keyed P k) (ht : P.underlying t = some (.map k e)) (hk : keyOf P k key = some kl) (hes : ∀ x ∈ es, ∃ l, keyOf P k x.key = some l) (h2 : ∀ x ∈ es, x.key ≠ key) (val : Value) :
    ∃ w', (Instr.mapUpdate t (.map (some b)) key val).run P w = .ok () w' ∧ MapAt w' b (es ++ [⟨key, val, c⟩]) (c + 1) ∧ w.grownBy w' (some b) := by
  have hb : w.heap[b]? = some (.map es.toArray c) := h
  rcases K.find w hk es hes with ⟨hr, hn⟩ | ⟨j, x, hr, hx, hxk⟩
  · refine ⟨setBlock w b (.map (es.toArray.push ⟨key, val, c⟩) (c + 1)), ?_, ?_, ⟨rfl, rfl, rfl, by simp [setBlock], fun i _ hi => heap_setBlock_other hb _ (fun e => hi (by rw [e]))⟩⟩
    · simp [Instr.mapUpdate, run_underlying ht, MapKept.run_getObj_map hb, K.check w _ hk, hr, MapKept.run_setObj_map _ hb, Result.andThen, setBlock]
    · unfold MapAt
      rw [heap_setBlock_same hb]
      simp
  · exact absurd hxk (h2 x (List.mem_of_getElem? hx))

theorem wpList_insert_new {ops : Array Oper} {rest : List Oper} {o : Oper} {a : Act} {Q : Exit → Act → World → Prop} (hg : o.guard = none) (m x v : Operand) (hop : o.op = Op.insert t m x v)
    (K : Keyed P k) (ht : P.underlying t = some (.map k e)) (h : MapAt w b es c) (hes : ∀ x ∈ es, ∃ l, keyOf P k x.key = some l) (key val : Value) (kl : Lit) (hm : a.eval m = .map (some b)) (hx : a.eval x = key) (hv : a.eval v = val) (hk : keyOf P k key = some kl) (h2 : ∀ x ∈ es, x.key ≠ key)
    (hK : ∀ w', MapAt w' b (es ++ [⟨key, val, c⟩]) (c + 1) → w.grownBy w' (some b) → wpList P ops Q rest (a.put o.dst undef) w') : wpList P ops Q (o :: rest) a w := by
  refine wpList_plain hg fun K' hK' => ?_
  obtain ⟨w', hrun, r1, r2⟩ := run_store_new h K ht hk hes h2 val
  unfold Oper.wp
  simp [execOp, hop, hm, hx, hv, hrun, Result.andThen]
  exact hK' _ _ (hK w' r1 r2)
theorem wpList_update_new {ops : Array Oper} {rest : List Oper} {o : Oper} {a : Act} {Q : Exit → Act → World → Prop} (hg : o.guard = none) (m x v : Operand) (hop : o.op = Op.mapUpdate t m x v)
    (K : Keyed P k) (ht : P.underlying t = some (.map k e)) (h : MapAt w b es c) (hes : ∀ x ∈ es, ∃ l, keyOf P k x.key = some l) (key val : Value) (kl : Lit) (hm : a.eval m = .map (some b)) (hx : a.eval x = key) (hv : a.eval v = val) (hk : keyOf P k key = some kl) (h2 : ∀ x ∈ es, x.key ≠ key)
    (hK : ∀ w', MapAt w' b (es ++ [⟨key, val, c⟩]) (c + 1) → w.grownBy w' (some b) → wpList P ops Q rest (a.put o.dst undef) w') : wpList P ops Q (o :: rest) a w := by
  refine wpList_plain hg fun K' hK' => ?_
  obtain ⟨w', hrun, r1, r2⟩ := run_store_new h K ht hk hes h2 val
  unfold Oper.wp
  simp [execOp, hop, hm, hx, hv, hrun, Result.andThen]
  exact hK' _ _ (hK w' r1 r2)
end

/-! ### The program's two kinds of keys -/
theorem keyInt : Keyed Try.prog 3 := Maps.int_keyed Try.underlying3
theorem keyed_op {n : Int} (h : (Lit.int .i64 n).wf = true) : keyOf Try.prog 3 (.int .i64 n) = some (.int .i64 n) := Maps.keyOf_int_mk Try.underlying3 h
theorem laidOutP : laidOutB Try.prog = true := by kernel_rfl
theorem wideSign : (match Try.prog.underlying 56 with | some (.array _ _) | some (.struct _) => true | _ => false) = true := by kernel_rfl
theorem keySign : Keyed Try.prog 56 := Keyed.of_law (deep_law_laid laidOutP (m := 2) (by omega) (of_decide_eq_true (by kernel_rfl)) (by kernel_rfl) wideSign)
/-- A sign: its text and its level. -/
def sgn2 (s : ByteArray) (l : Int) : Value := .agg #[.string s, .int .i64 l]
theorem keyTypeSign : Try.prog.keyType 56 = true := by kernel_rfl
theorem cellsSign : Try.prog.cellsOf 56 = 2 := by kernel_rfl
theorem cellsStr1 : Try.prog.cellsOf 9 = 1 := by kernel_rfl
theorem cellsInt1 : Try.prog.cellsOf 3 = 1 := by kernel_rfl
theorem typesN : ∃ n, Try.prog.types.size + 1 = n + 2 := ⟨Try.prog.types.size - 1, by have : 1 ≤ Try.prog.types.size := of_decide_eq_true (by kernel_rfl); omega⟩
theorem keyed_sign {s : ByteArray} {l : Int} (hs : s.size ≤ maxLen) (h : (Lit.int .i64 l).wf = true) : ∃ kl, keyOf Try.prog 56 (sgn2 s l) = some kl := by
  obtain ⟨n, hn⟩ := typesN
  unfold keyOf
  rw [Try.underlying56]
  simp only [keyTypeSign, hn]
  have hf : (sgn2 s l).formed Try.prog 56 = true := by simp [sgn2, Value.formed, Try.underlying56, cellsSign]
  rw [hf]
  simp [sgn2, Value.cells, Program.keyLits, Try.underlying56, cellsSign, Try.underlying9, Try.underlying3, cellsStr1, cellsInt1, hs, h]
end Go.Proofs.Ytglmcjplglgnlaa
