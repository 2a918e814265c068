/-
  The map turned round: kinds of nodes by their signs.
-/
import Derived.Test.YtglmcjplglgnlaaTermS
namespace Go.Proofs.Ytglmcjplglgnlaa
open Go.RowKit Go.ChangeMaps Go.MapKept

/-- Block b is a map that has for each sign its kind, and nothing else. -/
structure KMap (w : World) (b : Nat) : Prop where
  out : ∃ es c, MapAt w b es c ∧ (∀ x ∈ es, ∃ y ∈ signE, x.key = y.val ∧ x.val = y.key) ∧ (∀ y ∈ signE, ∃ x ∈ es, x.key = y.val ∧ x.val = y.key)
theorem KMap.kept {w w' : World} {b : Nat} (h : KMap w b) (hb : w'.heap[b]? = w.heap[b]?) : KMap w' b := by
  obtain ⟨es, c, h1, h2, h3⟩ := h.out
  exact ⟨es, c, h1.kept hb, h2, h3⟩
theorem KMap.to {w w' : World} {b n : Nat} (h : KMap w b) (hb : Below n w w') (hn : b < n) : KMap w' b := h.kept (hb.block b hn)
theorem KMap.lt {w : World} {b : Nat} (h : KMap w b) : b < w.heap.size := by
  obtain ⟨es, c, h1, _⟩ := h.out
  exact h1.lt
theorem val_keys {es : List MapEntry} (h : ∀ x ∈ es, ∃ y ∈ signE, x.key = y.val ∧ x.val = y.key) : ∀ x ∈ es, ∃ l, keyOf Try.prog 56 x.key = some l := fun x hx => by
  obtain ⟨y, hy, e, _⟩ := h x hx
  obtain ⟨op, s, l, _, h1, _, _, h2, _, _, h3, h4⟩ := sign_form y hy
  rw [e, h1]
  exact keyed_sign (by unfold maxLen; omega) (wf_small (by omega) (by omega))
theorem knd_find {s : ByteArray} {l op : Int} (h : knd s l = op) (h0 : op ≠ 0) : sgS op = s ∧ sgL op = l ∧ 3 ≤ op ∧ op ≤ 17 := by
  unfold knd at h
  split at h
  · next x hx =>
    subst h
    have h1 := List.find?_some hx
    have h2 := List.mem_of_find?_eq_some hx
    simp only [Bool.and_eq_true, decide_eq_true_eq, beq_iff_eq] at h1
    obtain ⟨h3, h4⟩ := h1
    simp only [signT, List.mem_cons, List.not_mem_nil, or_false] at h2
    subst h3 h4
    rcases h2 with rfl | rfl | rfl | rfl | rfl | rfl | rfl | rfl | rfl | rfl | rfl | rfl | rfl | rfl | rfl <;> exact ⟨by simp [sgS, signT], by simp [sgL, signT], by decide, by decide⟩
  · exact absurd h.symm h0
theorem knd_there {s : ByteArray} {l op : Int} (h3 : 3 ≤ op) (h17 : op ≤ 17) (hs : sgS op = s) (hl : sgL op = l) : knd s l = op := by
  subst hs hl
  rcases op_known op with rfl | rfl | rfl | rfl | rfl | rfl | rfl | rfl | rfl | rfl | rfl | rfl | rfl | rfl | rfl | h
  all_goals first
    | (simp [knd, sgS, sgL, signT, str_iff]; done)
    | omega
theorem zeroInt (w : World) : (zeroValue 3).run Try.prog w = .ok (.int .i64 0) w := by kernel_rfl
theorem look_kind {w : World} {b : Nat} (h : KMap w b) {s : ByteArray} {l : Int} (hs : s.size ≤ maxLen) (hl : (Lit.int .i64 l).wf = true) :
    (Instr.lookup 43 (.map (some b)) (.agg #[.string s, .int .i64 l]) false).run Try.prog w = .ok (.int .i64 (knd s l)) w := by
  obtain ⟨es, c, hm, h1, h2⟩ := h.out
  obtain ⟨kl, hk⟩ := keyed_sign hs hl
  have hk' : keyOf Try.prog 56 (.agg #[.string s, .int .i64 l]) = some kl := hk
  obtain ⟨op, hop⟩ : ∃ op, knd s l = op := ⟨_, rfl⟩
  rw [hop]
  by_cases h0 : op = 0
  · subst h0
    refine run_look_miss hm keySign Try.underlying43 hk' (val_keys h1) (zeroInt w) (fun x hx e => ?_)
    obtain ⟨y, hy, e1, _⟩ := h1 x hx
    obtain ⟨op', s', l', g1, g2, g3, g4, g5, g6, g7, _⟩ := sign_form y hy
    rw [e1, g2] at e
    unfold sgn2 at e
    simp only [Value.agg.injEq] at e
    simp at e
    obtain ⟨rfl, rfl⟩ := e
    have := knd_there g6 g7 g3 g4
    omega
  · obtain ⟨e1, e2, e3, e4⟩ := knd_find hop h0
    obtain ⟨y, hy, hyk⟩ := sign_there e3 e4
    have hyv := sign_val y hy op hyk
    rw [e1, e2] at hyv
    obtain ⟨x, hx, hxk, hxv⟩ := h2 y hy
    refine run_look_hit hm keySign Try.underlying43 hk' (val_keys h1) ⟨x, hx, by rw [hxk, hyv]; rfl⟩ (fun z hz e => ?_)
    obtain ⟨y', hy', g1, g2⟩ := h1 z hz
    have : y' = y := sign_one y' hy' y hy (by rw [← g1, e, hyv]; rfl)
    rw [g2, this, hyk]

/-- Between two rounds of kinds: what has been handed out has been turned round, and nothing else. -/
structure KindsAt (w : World) (sb km r : Nat) (wr : World) (seen : Array Nat) : Prop where
  out : wr.heap[r]? = some (.mapIter (some sb) 15 seen 15) ∧ MapAt wr sb signE 15 ∧ Below w.heap.size w wr ∧
    ∃ es c, MapAt wr km es c ∧ (∀ x ∈ es, ∃ y ∈ signE, seen.contains y.born = true ∧ x.key = y.val ∧ x.val = y.key) ∧ (∀ y ∈ signE, seen.contains y.born = true → ∃ x ∈ es, x.key = y.val ∧ x.val = y.key)
theorem born_lt : ∀ x ∈ signE.toArray.toList, x.born < 15 := by
  intro x hx
  simp only [signE, List.mem_cons, List.not_mem_nil, or_false] at hx
  rcases hx with rfl | rfl | rfl | rfl | rfl | rfl | rfl | rfl | rfl | rfl | rfl | rfl | rfl | rfl | rfl <;> decide
theorem born_nodup : (signE.toArray.toList.map (·.born)).Nodup := by decide
theorem born_one : ∀ x ∈ signE, ∀ y ∈ signE, x.born = y.born → x = y := by
  intro x hx y hy e
  simp only [signE, List.mem_cons, List.not_mem_nil, or_false] at hx hy
  rcases hx with rfl | rfl | rfl | rfl | rfl | rfl | rfl | rfl | rfl | rfl | rfl | rfl | rfl | rfl | rfl
  all_goals
    rcases hy with rfl | rfl | rfl | rfl | rfl | rfl | rfl | rfl | rfl | rfl | rfl | rfl | rfl | rfl | rfl
    all_goals first
      | rfl
      | (simp at e; done)
theorem KindsAt.left {w wr : World} {sb km r : Nat} {seen : Array Nat} (h : KindsAt w sb km r wr seen) : wr.rangeLeft sb r = (leftOf signE.toArray seen).size := by
  obtain ⟨h1, h2, _⟩ := h.out
  have h2' : wr.heap[sb]? = some (.map signE.toArray 15) := h2
  simp only [World.rangeLeft, h1, h2']
/-- Nothing is left: all are turned round. -/
theorem KindsAt.fin {w wr : World} {sb km r : Nat} {seen : Array Nat} (h : KindsAt w sb km r wr seen) (h0 : (leftOf signE.toArray seen).size = 0) : KMap wr km := by
  obtain ⟨_, _, _, es, c, h1, h2, h3⟩ := h.out
  refine ⟨es, c, h1, fun x hx => ?_, fun y hy => h3 y hy ?_⟩
  · obtain ⟨y, hy, _, e⟩ := h2 x hx
    exact ⟨y, hy, e⟩
  · simpa using all_seen signE.toArray seen h0 y (by simpa using hy)
theorem set_iter {w w1 : World} (hal : w1 = w ∨ w1 = w.drew) {r : Nat} {o o' : Obj} (hr : w.heap[r]? = some o) : (setBlock w1 r o').heap[r]? = some o' ∧ w.grownBy (setBlock w1 r o') (some r) ∧ (setBlock w1 r o').heap.size = w.heap.size := by
  have hr1 : w1.heap[r]? = some o := by rcases hal with rfl | rfl <;> exact hr
  have hs := heap_set (o' := o') hr1
  refine ⟨hs.1, ?_, ?_⟩
  · rcases hal with rfl | rfl <;> exact ⟨rfl, rfl, rfl, by simp [setBlock], fun i _ hi => hs.2 i (fun e1 => hi (by rw [e1]))⟩
  · rcases hal with rfl | rfl <;> simp [setBlock]

set_option maxRecDepth 100000 in
set_option maxHeartbeats 4000000 in
theorem kinds_any (w : World) : Calls Try.prog 16 #[] w fun e w' => ∃ km, e = .returned (.map (some km)) ∧ w.heap.size ≤ km ∧ KMap w' km ∧ Below w.heap.size w w' := by
  have hmk : ∀ (W : World) (n : Int), (Instr.makeMap 43 (some (.int .i64 n))).run Try.prog W = .ok (.map (some W.heap.size)) (W.alloc (.map #[] 0)) := fun W n => by
    simp only [Instr.makeMap, run_underlying Try.underlying43, Sem.run_bind, Result.andThen_ok, asInt, asIntOf, Sem.run_pure]
    rfl
  go_enter Try.func16, Try.ntmps16
  go_wp2_with fail
  refine (sigs_any _).mono ?_
  rintro e w1 ⟨rfl, hm, hb⟩
  have hlen : ∀ ty, (Builtin.len_ #[57] ty #[.map (some w.heap.size)]).run Try.prog w1 = .ok (.int .i64 15) w1 := fun ty => by
    have hm' : w1.heap[w.heap.size]? = some (.map signE.toArray 15) := hm
    simp [Builtin.len_, MapKept.run_getObj_map hm']
    rfl
  have hsl : w.heap.size < w1.heap.size := hm.lt
  have hm1 := hm.to ((Below.refl _ w1).alloc (Nat.le_refl _) (.map #[] 0)) hsl
  have hrg := run_range_map (w1.alloc (.map #[] 0)) 57 3 56 w.heap.size signE.toArray 15 Try.underlying57 hm1
  have H0 : Keep (KindsAt w w.heap.size w1.heap.size (w1.heap.size + 1) ((w1.alloc (.map #[] 0)).alloc (.mapIter (some w.heap.size) 15 #[] 15)) #[]) :=
    ⟨⟨by have := (MapKept.heap_alloc (w1.alloc (.map #[] 0)) (.mapIter (some w.heap.size) 15 #[] 15)).1; rwa [World.size_alloc] at this, hm1.to ((Below.refl _ (w1.alloc (.map #[] 0))).alloc (Nat.le_refl _) _) (by simp; omega),
      (hb.alloc hb.size _).alloc (by have := hb.size; simp; omega) _, [], 0, (MapAt.made w1).to ((Below.refl _ (w1.alloc (.map #[] 0))).alloc (Nat.le_refl _) _) (by simp), by simp, by simp⟩⟩
  have HZ := keep hsl
  have HB1 := keep hb.size
  clear hm hb hm1 hsl
  simp only [World.size_alloc] at hrg
  go_wp2_with fail
  go_loopw [3] (fun _ wr => ∃ seen, Keep (KindsAt w w.heap.size w1.heap.size (w1.heap.size + 1) wr seen)) (fun _ wr => wr.rangeLeft w.heap.size (w1.heap.size + 1))
  case atStart => exact ⟨#[], H0⟩
  case round =>
    obtain ⟨seen, HK⟩ := hrel
    clear H0 hrg hlen hmk
    obtain ⟨hi, hm, hb, es, c, hkm, hk1, hk2⟩ := HK.out.out
    have hleft := HK.out.left
    rcases run_next_at (P := Try.prog) wr 0 (w1.heap.size + 1) w.heap.size 15 15 seen signE.toArray 15 hi hm born_lt (Nat.le_refl _) with ⟨h0, hrun⟩ | ⟨x, hx, w2, hal, hrun⟩
    · have hfin := keep (HK.out.fin h0)
      have HB := keep hb
      clear hi hm hb hkm hk1 hk2 hleft h0
      go_wp2_with fail
      go_ret
      exact ⟨_, rfl, by have := HB1.out; omega, hfin.out, HB.out⟩
    · obtain ⟨hxm, hxs⟩ := mem_left hx
      have hxm' : x ∈ signE := by simpa using hxm
      have hlt := left_shrinks _ _ _ hx
      obtain ⟨op, s, l, hkey, hval, _, _, hs0, _, _, hl1, hl2⟩ := sign_form x hxm'
      obtain ⟨hs1, hs2, hs3⟩ := set_iter (o' := .mapIter (some w.heap.size) 15 (seen.push x.born) 15) hal hi
      obtain ⟨w3, hw3⟩ : ∃ w3, w3 = setBlock w2 (w1.heap.size + 1) (.mapIter (some w.heap.size) 15 (seen.push x.born) 15) := ⟨_, rfl⟩
      rw [← hw3] at hrun hs1 hs2 hs3
      have hz := HZ.out
      have hm3 := hm.grown hs2 (fun e => by injection e with e; omega)
      have hkm3 := hkm.grown hs2 (fun e => by injection e with e; omega)
      have hb3 := hb.trans (grown_below hs2 (by omega) hb.size)
      have hent := run_entry_at (P := Try.prog) w3 (w1.heap.size + 1) w.heap.size 15 seen signE.toArray 15 x hs1 hm3 hxm born_nodup
      have hne : ∀ z ∈ es, z.key ≠ .agg #[.string s, .int .i64 l] := fun z hz e => by
        obtain ⟨y, hy, g1, g2, _⟩ := hk1 z hz
        have : y = x := sign_one y hy x hxm' (by rw [← g2, e, hval]; rfl)
        subst this
        rw [hxs] at g1
        cases g1
      obtain ⟨kl, hk⟩ := keyed_sign (s := s) (l := l) (by unfold maxLen; omega) (wf_small (by omega) (by omega))
      rw [hkey, hval] at hrun hent
      unfold sgn2 at hrun hent hk
      have hB4 := hb3.alloc hb3.size (.cells #[.string s, .int .i64 l] 56)
      have hm4 := hm3.grown (World.grownBy_alloc w3 (.cells #[.string s, .int .i64 l] 56) none) (by simp)
      have hkm4 := hkm3.grown (World.grownBy_alloc w3 (.cells #[.string s, .int .i64 l] 56) none) (by simp)
      have hi4 : (w3.alloc (.cells #[.string s, .int .i64 l] 56)).heap[w1.heap.size + 1]? = some (.mapIter (some w.heap.size) 15 (seen.push x.born) 15) := ((World.grownBy_alloc w3 _ none).block _ (Array.getElem?_eq_some_iff.1 hs1).1 (by simp)).trans hs1
      have HM4 := keep (show _ ∧ _ ∧ _ from ⟨hB4, hm4, hi4⟩)
      have HX := keep (show x ∈ signE ∧ x.key = .int .i64 op ∧ x.val = .agg #[.string s, .int .i64 l] from ⟨hxm', hkey, hval⟩)
      have HKM := keep hkm4
      have HV := keep (val_keys (fun z hz => by obtain ⟨y, hy, _, e⟩ := hk1 z hz; exact ⟨y, hy, e⟩))
      have HNE := keep hne
      have HK1 := keep hk1
      have HK2 := keep hk2
      have HLT := keep hlt
      have HLEFT := keep hleft
      have HKL := keep hk
      clear hi hm hb hkm hk1 hk2 hleft hxm hxs hxm' hkey hval hs0 hl1 hl2 hs1 hs2 hs3 hw3 hal hx hm3 hkm3 hb3 hne hk hB4 hm4 hkm4 hi4 hlt hz
      go_wp2_with (refine wpList_update_new rfl _ _ _ rfl keySign Try.underlying43 HKM.out HV.out (.agg #[.string s, .int .i64 l]) (.int .i64 op) kl rfl rfl rfl HKL.out HNE.out ?_)
      intro w5 hm5 hg5
      have HM5 := keep hm5
      have HG5 := keep hg5
      clear hm5 hg5 hrun hent
      go_wp2_with fail
      have hnew : KindsAt w w.heap.size w1.heap.size (w1.heap.size + 1) w5 (seen.push x.born) := by
        obtain ⟨hB4, hm4, hi4⟩ := HM4.out
        obtain ⟨hx1, hx2, hx3⟩ := HX.out
        have hz := HZ.out
        refine ⟨((HG5.out.block _ (Array.getElem?_eq_some_iff.1 hi4).1 (fun e => by injection e with e; omega)).trans hi4), hm4.grown HG5.out (fun e => by injection e with e; omega), hB4.trans (grown_below HG5.out (by have := HB1.out; omega) hB4.size), _, _, HM5.out, fun z hz => ?_, fun y hy hyc => ?_⟩
        · rcases List.mem_append.1 hz with hz | hz
          · obtain ⟨y, hy, g1, g2⟩ := HK1.out z hz
            exact ⟨y, hy, by rw [contains_push, g1]; rfl, g2⟩
          · simp only [List.mem_cons, List.not_mem_nil, or_false] at hz
            subst hz
            exact ⟨x, hx1, by rw [contains_push]; simp, hx3.symm, hx2.symm⟩
        · rw [contains_push, Bool.or_eq_true] at hyc
          rcases hyc with hyc | hyc
          · obtain ⟨z, hz, e⟩ := HK2.out y hy hyc
            exact ⟨z, List.mem_append_left _ hz, e⟩
          · have : y = x := born_one y hy x hx1 (by simpa using hyc)
            subst this
            exact ⟨_, List.mem_append_right _ (List.mem_cons_self), hx3.symm, hx2.symm⟩
      go_roundw
      case rel => exact ⟨_, ⟨hnew⟩⟩
      case measure => rw [hnew.left, HLEFT.out]; exact HLT.out
end Go.Proofs.Ytglmcjplglgnlaa
