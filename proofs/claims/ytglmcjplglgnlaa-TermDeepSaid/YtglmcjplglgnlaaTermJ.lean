/-
  slices.Insert of nodes into a row of nodes.
-/
import Derived.Test.YtglmcjplglgnlaaTermI
namespace Go.Proofs.Ytglmcjplglgnlaa
open Go.RowKit Go.Joins

/-- copy, as one step: elements of k cells, n of them, over the row in block g, from the place off on. -/
theorem wp_copy_k {P : Program} {o : Oper} {a : Act} {w : World} {K : Act → World → Prop} {Q : Exit → Act → World → Prop} (d s : Operand) (dT sT : TypeId)
    (ho : o.op = .call { callee := .builtin .copy, args := #[d, s], argTypes := #[dT, sT] }) (elem : TypeId) (hu : P.underlying dT = some (.slice elem)) (k : Nat) (hsz : (P.info? elem).map (·.size) = some k)
    (g off gs offs : Nat) (dLen dCap sLen sCap : Nat) (hd : a.eval d = .slice (some ⟨g, off, none⟩) dLen dCap) (hs : a.eval s = .slice (some ⟨gs, offs, none⟩) sLen sCap)
    (cur : List Value) (t : TypeId) (hg : w.heap[g]? = some (.cells cur.toArray t (0, 0))) (cs : List Value) (n : Nat) (hn : n = Nat.min sLen dLen) (hcl : cs.length = n * k)
    (hsrc : ∀ j v, cs[j]? = some v → w.cell? ⟨gs, offs + j, none⟩ = some v)
    (hfit : off + cs.length ≤ cur.length) (h1 : ∀ v ∈ cs, v.oneCell' = true) (ds : Option Tmp) (hds : o.dst = ds)
    (h : ∀ w', w'.heap[g]? = some (.cells (splice cur off cs).toArray t (0, 0)) → w.grownBy w' (some g) → K (a.put ds (.int .i64 (n : Int))) w') : Oper.wp P o a w K Q := by
  subst hds
  have hl := run_loadCells_list (P := P) w ⟨gs, offs, none⟩ cs (fun j v hj => by rw [Addr.add_mid]; exact hsrc j v hj)
  have hst := run_storeCells_at P g off t cs 0 cur.toArray w hg (by simpa using hfit) h1
  have hrun : (Builtin.copy_ #[dT, sT] o.type #[.slice (some ⟨g, off, none⟩) dLen dCap, .slice (some ⟨gs, offs, none⟩) sLen sCap]).run P w = .ok (goInt n) (w.setRow g (splice cur off cs).toArray) := by
    cases hq : P.info? elem with
    | none => simp [hq] at hsz
    | some i =>
      have hi : i.size = k := by simpa [hq] using hsz
      rw [hcl] at hl
      simp [Builtin.copy_, run_underlying hu, Builtin.lenOf, Builtin.firstCells, sizeOf, typeInfo, hq, hi, ← hn, hl, hst, splice]
  have hK := h _ (by rw [setRow_heap w g _ _ t _ hg]) (grown_row w g _)
  unfold Oper.wp
  simp [execOp, ho, resolve, invoke, builtin, hd, hs, hrun, Result.andThen]
  exact hK
theorem wpList_copy_k {P : Program} {ops : Array Oper} {rest : List Oper} {o : Oper} {a : Act} {w : World} {Q : Exit → Act → World → Prop} (hgd : o.guard = none) (d s : Operand) (dT sT : TypeId)
    (ho : o.op = .call { callee := .builtin .copy, args := #[d, s], argTypes := #[dT, sT] }) (elem : TypeId) (hu : P.underlying dT = some (.slice elem)) (k : Nat) (hsz : (P.info? elem).map (·.size) = some k)
    (g off gs offs : Nat) (dLen dCap sLen sCap : Nat) (hd : a.eval d = .slice (some ⟨g, off, none⟩) dLen dCap) (hs : a.eval s = .slice (some ⟨gs, offs, none⟩) sLen sCap)
    (cur : List Value) (t : TypeId) (hg : w.heap[g]? = some (.cells cur.toArray t (0, 0))) (cs : List Value) (n : Nat) (hn : n = Nat.min sLen dLen) (hcl : cs.length = n * k)
    (hsrc : ∀ j v, cs[j]? = some v → w.cell? ⟨gs, offs + j, none⟩ = some v)
    (hfit : off + cs.length ≤ cur.length) (h1 : ∀ v ∈ cs, v.oneCell' = true)
    (h : ∀ w', w'.heap[g]? = some (.cells (splice cur off cs).toArray t (0, 0)) → w.grownBy w' (some g) → wpList P ops Q rest (a.put o.dst (.int .i64 (n : Int))) w') : wpList P ops Q (o :: rest) a w :=
  wpList_plain hgd fun _ hKK => wp_copy_k d s dT sT ho elem hu k hsz g off gs offs dLen dCap sLen sCap hd hs cur t hg cs n hn hcl hsrc hfit h1 _ rfl fun w' h2 h3 => hKK _ _ (h w' h2 h3)

/-- A slice of nodes cut ahead: not all of its room. -/
theorem run_from_n (b n c lo : Nat) (hlo : lo ≤ n) (hc : lo < c) (W : World) :
    (Instr.slice 24 (.slice (some ⟨b, 0, none⟩) n c) (some (.int .i64 (lo : Int))) none none).run Try.prog W = .ok (.slice (some ⟨b, lo * 5, none⟩) (n - lo) (c - lo)) W := by
  have ht' : Try.prog.underlying 24 = some (.slice (Try.prog.elem 24)) := by simp [Program.elem, Try.underlying24]
  have he : Try.prog.elem 24 = 42 := by simp [Program.elem, Try.underlying24]
  rw [run_slice_l W 24 _ _ _ ht' .i64 _ (by omega) (by omega), he, sizeOfN]
  have h0 : ¬ c = lo := by omega
  by_cases h1 : lo = 0
  · subst h1; simp [Result.andThen, sliced, Addr.add, h0]
  · simp [Result.andThen, sliced, Addr.add, h0]; omega
theorem run_upto_n (b n c hi : Nat) (hh : hi ≤ c) (W : World) :
    (Instr.slice 24 (.slice (some ⟨b, 0, none⟩) n c) none (some (.int .i64 (hi : Int))) none).run Try.prog W = .ok (.slice (some ⟨b, 0, none⟩) hi c) W := by
  have ht' : Try.prog.underlying 24 = some (.slice (Try.prog.elem 24)) := by simp [Program.elem, Try.underlying24]
  have he : Try.prog.elem 24 = 42 := by simp [Program.elem, Try.underlying24]
  rw [run_slice_h W 24 _ _ _ ht' .i64 _ (by omega) (by omega), he, sizeOfN]
  simp [Result.andThen, sliced, Addr.add]

/-! ### What comes of the cells -/
theorem ins_cells {cur : List Value} {l xs : List Nd} {i : Nat} (hi : i ≤ l.length) (hc : cur.take (l.length * 5) = ncs l) (hcl : (l.length + xs.length) * 5 ≤ cur.length) :
    (splice (splice cur ((i + xs.length) * 5) (ncs (l.drop i))) (i * 5) (ncs xs)).take ((l.length + xs.length) * 5) = ncs (l.take i ++ xs ++ l.drop i) := by
  have hA : (splice cur ((i + xs.length) * 5) (ncs (l.drop i))).take (i * 5) = ncs (l.take i) := by
    unfold splice
    rw [List.take_append_of_le_length (by rw [List.length_take]; omega), List.take_take, Nat.min_eq_left (by omega), ← ncs_take, ← hc, List.take_take, Nat.min_eq_left (by omega)]
  have hD : (splice cur ((i + xs.length) * 5) (ncs (l.drop i))).drop ((i + xs.length) * 5) = ncs (l.drop i) ++ cur.drop ((i + xs.length) * 5 + (ncs (l.drop i)).length) := by
    unfold splice
    rw [List.drop_append_of_le_length (by rw [List.length_take]; omega), List.drop_eq_nil_of_le (by rw [List.length_take]; omega), List.nil_append]
  generalize splice cur ((i + xs.length) * 5) (ncs (l.drop i)) = S at hA hD
  unfold splice
  rw [hA, show i * 5 + (ncs xs).length = (i + xs.length) * 5 by rw [ncs_len]; omega, hD, ncs_append, ncs_append, ← List.append_assoc, ← List.append_assoc]
  refine List.take_left' ?_
  rw [List.length_append, List.length_append, ncs_len, ncs_len, ncs_len, List.length_take, List.length_drop, Nat.min_eq_left hi]
  omega
theorem ins_cells2 {cur : List Value} {l xs : List Nd} {i : Nat} (hi : i ≤ l.length) (hc : cur.take (i * 5) = ncs (l.take i)) :
    (splice (splice cur (i * 5) (ncs xs)) ((i + xs.length) * 5) (ncs (l.drop i))).take ((l.length + xs.length) * 5) = ncs (l.take i ++ xs ++ l.drop i) := by
  have hA : (splice cur (i * 5) (ncs xs)).take ((i + xs.length) * 5) = ncs (l.take i) ++ ncs xs := by
    unfold splice
    rw [hc, ← List.append_assoc]
    refine List.take_left' ?_
    rw [List.length_append, ncs_len, ncs_len, List.length_take, Nat.min_eq_left hi]
    omega
  generalize splice cur (i * 5) (ncs xs) = S at hA
  unfold splice
  rw [hA, ncs_append, ncs_append, ← List.append_assoc]
  refine List.take_left' ?_
  rw [List.length_append, List.length_append, ncs_len, ncs_len, ncs_len, List.length_take, List.length_drop, Nat.min_eq_left hi]
  omega

/-- What Insert answers: the row with the others in it. -/
def InsTo (B : Nat) (v : Value) (l : List Nd) (w : World) (e : Ending) (w' : World) : Prop :=
  ∃ v', e = .returned v' ∧ w'.ownsRow B 42 5 v' l.length (ncs l) ∧ w.grownBy w' v.ownBlock ∧ (v'.ownBlock = v.ownBlock ∨ v'.ownBlock = some w.heap.size)

set_option maxRecDepth 100000 in
set_option maxHeartbeats 4000000 in
theorem insert_none (B : Nat) (v u : Value) (l xs : List Nd) (i : Nat) (hi : i < l.length) (hl : l.length ≤ 100000) (h0 : xs.length = 0) (w : World) (h : w.ownsRow B 42 5 v l.length (ncs l)) (Bu : Nat) (hu : w.ownsRow Bu 42 5 u xs.length (ncs xs)) :
    Calls Try.prog 28 #[v, .int .i64 (i : Int), u] w fun e w' => InsTo B v l w e w' := by
  have HO := keep h
  obtain ⟨uo, uc, rfl⟩ := own_form hu
  obtain ⟨g, cap, cur, rfl, hb, hg, h1, h2, h3, h4⟩ := own_open h (by omega)
  obtain ⟨n, hn⟩ : ∃ n, n = l.length := ⟨_, rfl⟩
  rw [h0]
  have hsl := run_from_n g n cap i (by omega) (by omega)
  rw [← hn] at hi hl h1 ⊢
  have hnI : (n : Int) ≤ 100000 := by omega
  have HN := keep hn
  clear h hu hb hg h2 h3 h4 hn h0
  go_enter Try.func28, Try.ntmps28
  go_wp2_with fail
  go_ret
  exact ⟨_, rfl, by rw [HN.out]; exact HO.out, ⟨rfl, rfl, rfl, Nat.le_refl _, fun _ _ _ => rfl⟩, .inl rfl⟩

set_option maxRecDepth 100000 in
set_option maxHeartbeats 4000000 in
theorem insert_shift (B : Nat) (l xs : List Nd) (i : Nat) (hi : i < l.length) (hl : l.length + xs.length ≤ 100000) (h0 : 0 < xs.length) (w : World) (g cap : Nat) (h : w.ownsRow B 42 5 (.slice (some ⟨g, 0, none⟩) l.length cap) l.length (ncs l)) (Bu gu cu : Nat) (hu : w.ownsRow Bu 42 5 (.slice (some ⟨gu, 0, none⟩) xs.length cu) xs.length (ncs xs)) (hne : gu ≠ g) (hroom : l.length + xs.length ≤ cap) :
    Calls Try.prog 28 #[.slice (some ⟨g, 0, none⟩) l.length cap, .int .i64 (i : Int), .slice (some ⟨gu, 0, none⟩) xs.length cu] w fun e w' => InsTo B (.slice (some ⟨g, 0, none⟩) l.length cap) (l.take i ++ xs ++ l.drop i) w e w' := by
  obtain ⟨g', cap', cur, e, hb, hg, h1, h2, h3, h4⟩ := own_open h (by omega)
  simp only [Value.slice.injEq, Option.some.injEq, Addr.mk.injEq, and_true, true_and] at e
  obtain ⟨rfl, rfl⟩ := e
  obtain ⟨gu', cu', curu, e, _, hgu, hu1, hu2, hu3, hu4⟩ := own_open hu h0
  simp only [Value.slice.injEq, Option.some.injEq, Addr.mk.injEq, and_true, true_and] at e
  obtain ⟨rfl, rfl⟩ := e
  have hcapI : (cap : Int) ≤ 9223372036854775807 := by unfold maxLen at h2; omega
  have HLEN := keep (show (l.take i ++ xs ++ l.drop i).length = l.length + xs.length by simp; omega)
  have HDL := keep (show (ncs (l.drop i)).length = (l.length - i) * 5 by rw [ncs_len, List.length_drop])
  have HXL := keep (ncs_len xs)
  have HFIN := keep (ins_cells (xs := xs) (by omega : i ≤ l.length) h4 (by omega))
  have HSRC : Keep (∀ j v, (ncs (l.drop i))[j]? = some v → cur[i * 5 + j]? = some v) := keep (fun j v hj => by
    rw [← ncs_drop, List.getElem?_drop, ← h4, List.getElem?_take] at hj
    split at hj
    · exact hj
    · cases hj)
  have HSRU : Keep (∀ j v, (ncs xs)[j]? = some v → curu[0 + j]? = some v) := keep (fun j v hj => by
    rw [← hu4, List.getElem?_take] at hj
    rw [Nat.zero_add]
    split at hj
    · exact hj
    · cases hj)
  have hov : ∀ (o : Nat) (lb cb : Nat), (callFunc 41 #[.slice (some ⟨gu, 0, none⟩) xs.length cu, .slice (some ⟨g, o, none⟩) lb cb]).run Try.prog w = .ok (.value (.bool false)) w := fun o lb cb => by
    have hsa : w.shape? gu = some (42, curu.length) := by unfold World.shape?; rw [hgu]; simp
    have hsb : w.shape? g = some (42, cur.length) := by unfold World.shape?; rw [hg]; simp
    have hf : ∀ k, w.frozen? ⟨gu, k, none⟩ = false := fun k => frozen_of_row w gu k _ _ hgu
    rw [run_callFunc_extern Try.func41 (by kernel_rfl) (by kernel_rfl) (by kernel_rfl) (e := Extern.SlicesOverlaps.overlaps #[24, 24] #[4]) (by kernel_rfl),
      Lib.run_overlaps_apart w 24 4 42 Try.underlying24 5 sizeOfN ⟨gu, 0, none⟩ ⟨g, o, none⟩ xs.length cu lb cb hne 42 42 curu.length cur.length hsa hsb (by omega) (hf 0) (hf _)]
    rfl
  obtain ⟨n, hn⟩ : ∃ n, n = l.length := ⟨_, rfl⟩
  obtain ⟨m, hm⟩ : ∃ m, m = xs.length := ⟨_, rfl⟩
  obtain ⟨p, hp⟩ : ∃ p, p = n - i := ⟨_, rfl⟩
  obtain ⟨p2, hp2⟩ : ∃ p2, p2 = n + m - i := ⟨_, rfl⟩
  obtain ⟨r, hr⟩ : ∃ r, r = n + m := ⟨_, rfl⟩
  obtain ⟨o1, ho1⟩ : ∃ o1, o1 = i * 5 := ⟨_, rfl⟩
  obtain ⟨o2, ho2⟩ : ∃ o2, o2 = (i + m) * 5 := ⟨_, rfl⟩
  obtain ⟨c1, hc1⟩ : ∃ c1, c1 = cap - i := ⟨_, rfl⟩
  obtain ⟨c2, hc2⟩ : ∃ c2, c2 = cap - (i + m) := ⟨_, rfl⟩
  have hs1 := run_from_n g n cap i (by omega) (by omega)
  have hs2 := run_upto_n g n cap (n + m) (by omega)
  have hs3 := run_from_n g r cap (i + m) (by omega) (by omega)
  have hs4 := run_from_n g r cap i (by omega) (by omega)
  rw [show r - (i + m) = p by omega, ← ho2, ← hc2, Int.natCast_add] at hs3
  rw [show r - i = p2 by omega, ← ho1, ← hc1] at hs4
  rw [← hp, ← ho1, ← hc1] at hs1
  rw [Int.natCast_add, ← hr] at hs2
  rw [← hn, ← hm] at HLEN HFIN hl hroom
  rw [← hn] at hi HDL ⊢
  rw [← hm] at HXL hov h0 ⊢
  rw [← ho1] at HFIN HSRC
  rw [← ho2] at HFIN
  rw [← hr] at HFIN HLEN
  rw [← hp] at HDL
  have HEQ := keep (show p = n - i ∧ p2 = n + m - i ∧ r = n + m ∧ o1 = i * 5 ∧ o2 = (i + m) * 5 ∧ i < n ∧ n + m ≤ cap ∧ cur.length = cap * 5 ∧ cap ≤ maxLen ∧ B ≤ g from ⟨hp, hp2, hr, ho1, ho2, hi, hroom, h3, h2, hb⟩)
  have HG := keep hg
  have HGU := keep hgu
  have hnI : (n : Int) ≤ 100000 := by omega
  have hmI : (m : Int) ≤ 100000 := by omega
  have hm0 : ¬ ((m : Int) = 0) := by omega
  have hin : ¬ ((i : Int) = (n : Int)) := by omega
  have hnc : ¬ ((cap : Int) < (n : Int) + (m : Int)) := by omega
  have hN := HLEN.out
  clear h hu hg hgu h1 h2 h3 h4 hu1 hu2 hu3 hu4 hb hn hm hp hp2 hr ho1 ho2 hc1 hc2 hN
  go_enter Try.func28, Try.ntmps28
  go_wp2_with (simp only [hov])
  have hw1 : IntKind.i64.wrap ((i : Int) + (m : Int)) = (i : Int) + (m : Int) := IntWalk.i64_in _ (by omega)
  refine AnyGo.region (fun _ => True) (by kernel_rfl) (by rfl) trivial ?_
  intro wd ewd
  subst ewd
  (refine AnyGo.take 0 (some 69) ?_ (a' := ?_) rfl (by kernel_rfl) (fun _ _ d _ _ h => by cases d <;> exact h) (by kernel_rfl) (by rfl) (by kernel_rfl) ?_ ?_ ?_; rotate_left 2; (focus (intro W hW; (try dsimp only at hW); go_simp; (try with_reducible rfl))); (focus (simp only [Act.put, List.setIfInBounds_toArray]; rfl)))
  (refine AnyGo.take 1 (some 70) ?_ (a' := ?_) rfl (by kernel_rfl) (fun _ _ d _ _ h => by cases d <;> exact h) (by kernel_rfl) (by rfl) (by kernel_rfl) ?_ ?_ ?_; rotate_left 2; (focus (intro W hW; (try dsimp only at hW); go_simp; (try with_reducible rfl))); (focus (simp only [Act.put, List.setIfInBounds_toArray]; rfl)))
  (refine AnyGo.take 2 (some 71) ?_ (a' := ?_) rfl (by kernel_rfl) (fun _ _ d _ _ h => by cases d <;> exact h) (by kernel_rfl) (by rfl) (by kernel_rfl) ?_ ?_ ?_; rotate_left 2; (focus (intro W hW; (try dsimp only at hW); go_simp; (try with_reducible rfl))); (focus (simp only [Act.put, List.setIfInBounds_toArray]; rfl)))
  (refine AnyGo.take 3 (some 72) ?_ (a' := ?_) rfl (by kernel_rfl) (fun _ _ d _ _ h => by cases d <;> exact h) (by kernel_rfl) (by rfl) (by kernel_rfl) ?_ ?_ ?_; rotate_left 2; (focus (intro W hW; (try dsimp only at hW); go_simp; (try with_reducible rfl))); (focus (simp only [Act.put, List.setIfInBounds_toArray]; rfl)))
  (refine AnyGo.take 4 (some 73) ?_ (a' := ?_) rfl (by kernel_rfl) (fun _ _ d _ _ h => by cases d <;> exact h) (by kernel_rfl) (by rfl) (by kernel_rfl) ?_ ?_ ?_; rotate_left 2; (focus (intro W hW; (try dsimp only at hW); go_simp; (try with_reducible rfl))); (focus (simp only [Act.put, List.setIfInBounds_toArray]; rfl)))
  (refine AnyGo.take 5 (some 74) ?_ (a' := ?_) rfl (by kernel_rfl) (fun _ _ d _ _ h => by cases d <;> exact h) (by kernel_rfl) (by rfl) (by kernel_rfl) ?_ ?_ ?_; rotate_left 2; (focus (intro W hW; (try dsimp only at hW); go_simp; (try with_reducible rfl))); (focus (simp only [Act.put, List.setIfInBounds_toArray]; rfl)))
  (refine AnyGo.take 6 (some 75) ?_ (a' := ?_) rfl (by kernel_rfl) (fun _ _ d _ _ h => by cases d <;> exact h) (by kernel_rfl) (by rfl) (by kernel_rfl) ?_ ?_ ?_; rotate_left 2; (focus (intro W hW; (try dsimp only at hW); go_simp; (try with_reducible rfl))); (focus (simp only [Act.put, List.setIfInBounds_toArray]; rfl)))
  (refine AnyGo.take 7 (some 76) ?_ (a' := ?_) rfl (by kernel_rfl) (fun _ _ d _ _ h => by cases d <;> exact h) (by kernel_rfl) (by rfl) (by kernel_rfl) ?_ ?_ ?_; rotate_left 2; (focus (intro W hW; (try dsimp only at hW); go_simp; (try with_reducible rfl))); (focus (simp only [Act.put, List.setIfInBounds_toArray]; rfl)))
  refine AnyGo.one (i := 8) (by kernel_rfl) rfl (by kernel_rfl) (fun K' hK' => ?_)
  refine wp_copy_k (.tmp 73) (.tmp 76) 24 24 rfl 42 Try.underlying24 5 sizeN g o2 g o1 p c2 p2 c1 rfl rfl cur 42 HG.out (ncs (l.drop i)) p (by have := HEQ.out; simp only [Nat.min_def]; split <;> omega) HDL.out
    (fun j v hj => cell_at (W := w.drew) HG.out (HSRC.out j v hj)) (by have := HEQ.out; have := HDL.out; omega) (ncs_one _) (some 77) rfl ?_
  intro w1 hg1 hgr1
  refine hK'.out _ _ trivial ?_
  have HG1 := keep hg1
  have HGR1 : Keep (w.grownBy w1 (some g)) := keep ⟨hgr1.os, hgr1.tape, hgr1.output, hgr1.size, hgr1.block⟩
  clear hK' K' hg1 hgr1 hov hw1
  (try simp only [Act.put, List.setIfInBounds_toArray])
  refine AnyGo.fin (by kernel_rfl) ?_
  (try simp only [List.set_cons_succ, List.set_cons_zero])
  have HGU1 : Keep (w1.heap[gu]? = some (.cells curu.toArray 42 (0, 0))) := keep ((HGR1.out.block gu (Array.getElem?_eq_some_iff.1 HGU.out).1 (fun e => by injection e with e; exact hne e)).trans HGU.out)
  go_wp2_with (refine wpList_copy_k rfl (.tmp 80) (.tmp 81) 24 24 rfl 42 Try.underlying24 5 sizeN g o1 gu 0 p2 c1 m cu rfl rfl (splice cur o2 (ncs (l.drop i))) 42 HG1.out (ncs xs) m (by have := HEQ.out; simp only [Nat.min_def]; split <;> omega) HXL.out (fun j v hj => cell_at HGU1.out (HSRU.out j v hj)) (by have := HEQ.out; have := HDL.out; have := HXL.out; rw [length_splice _ _ _ (by omega)]; omega) (ncs_one _) ?_)
  intro w2 hg2 hgr2
  have HG2 := keep hg2
  have HGR2 := keep hgr2
  clear hg2 hgr2
  go_wp2_with fail
  go_ret
  refine ⟨_, rfl, ?_, HGR1.out.trans HGR2.out, .inl rfl⟩
  have hE := HEQ.out
  have hD := HDL.out
  have hX := HXL.out
  exact own_shut (by omega) HG2.out (by omega) (by omega) (by rw [length_splice _ _ _ (by rw [length_splice _ _ _ (by omega)]; omega), length_splice _ _ _ (by omega)]; omega) HLEN.out HFIN.out
end Go.Proofs.Ytglmcjplglgnlaa
