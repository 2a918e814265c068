/-
  The line of a number, and where it begins: the program's find, Line and At.
-/
import Derived.Test.YtikkblakncflfaaSpotC
namespace Go.Proofs.Ytikkblakncflfaa
open Go.RowKit Go.Shelf
attribute [local go_sem] Oper.semAt_some

/-- Line n: where it begins, the line, whether there is one. -/
def fnd (s : List UInt8) (n : Int) : Int × List UInt8 × Bool := match (if n < 1 then none else (lines s)[(n - 1).toNat]?) with
  | some x => (((startL (lines s) (n - 1).toNat : Nat) : Int), x, true)
  | none => (0, [], false)
theorem fnd_hit {s : List UInt8} {k : Nat} {x : List UInt8} (h : (lines s)[k]? = some x) : fnd s ((k : Int) + 1) = (((startL (lines s) k : Nat) : Int), x, true) := by
  unfold fnd
  rw [if_neg (by omega), show ((k : Int) + 1 - 1).toNat = k by omega, h]
theorem fnd_none {s : List UInt8} {n : Int} (h : ∀ k : Nat, n = (k : Int) + 1 → (lines s).length ≤ k) : fnd s n = (0, [], false) := by
  unfold fnd
  by_cases h1 : n < 1
  · rw [if_pos h1]
  · rw [if_neg h1, List.getElem?_eq_none (h (n - 1).toNat (by omega))]

/-- What the loop adds up. -/
def acc : List Ln → Int := List.foldl (fun a x => IntKind.i64.wrap (a + IntKind.i64.wrap (((str x.2).size : Int) + 1))) 0
theorem acc_snoc (p : List Ln) (x : Ln) : acc (p ++ [x]) = IntKind.i64.wrap (acc p + IntKind.i64.wrap (((str x.2).size : Int) + 1)) := by simp [acc]
theorem acc_start {s : List UInt8} (hs : s.length ≤ 100000) : ∀ k, k ≤ (lines s).length → acc (prs 1 ((lines s).take k)) = (startL (lines s) k : Nat) ∧ startL (lines s) k ≤ s.length + 1 := by
  intro k
  induction k with
  | zero => intro _; exact ⟨by simp [prs, acc, startL_zero], by rw [startL_zero]; omega⟩
  | succ k ih =>
    intro hk
    obtain ⟨h1, h2⟩ := ih (by omega)
    have hx : (lines s)[k]? = some ((lines s)[k]'(by omega)) := List.getElem?_eq_getElem (by omega)
    generalize (lines s)[k]'(by omega) = x at hx
    have h3 := line_le hx
    have h4 := startL_succ _ _ _ hx
    refine ⟨?_, by omega⟩
    rw [List.take_add_one, hx, show (some x : Option (List UInt8)).toList = [x] from rfl, prs_snoc, acc_snoc, h1, h4, str_size]
    rw [show IntKind.i64.wrap ((x.length : Int) + 1) = (x.length : Int) + 1 from IntWalk.i64_in _ ⟨by omega, by omega⟩]
    rw [show ((startL (lines s) k : Nat) : Int) + ((x.length : Int) + 1) = ((startL (lines s) k + (x.length + 1) : Nat) : Int) by omega]
    exact IntWalk.i64_in _ ⟨by omega, by omega⟩
theorem prs_take {α : Type} {a : Nat} {l : List α} {p : List (Nat × α)} {x : Nat × α} (h : p ++ [x] <+: prs a l) : p = prs a (l.take p.length) ∧ l[p.length]? = some x.2 ∧ x.1 = a + p.length := by
  have hl := h.length_le
  rw [prs_length, List.length_append, List.length_singleton] at hl
  have hx : (prs a l)[p.length]? = some x := by
    obtain ⟨r, hr⟩ := h
    rw [← hr]; simp
  rw [prs_get] at hx
  obtain ⟨y, hy, rfl⟩ := Option.map_eq_some_iff.1 hx
  refine ⟨?_, hy, rfl⟩
  have h1 : p = (prs a l).take p.length := (List.prefix_iff_eq_take.1 ((List.prefix_append p [_]).trans h))
  have h2 : prs a l = prs a (l.take p.length) ++ prs (a + (l.take p.length).length) (l.drop p.length) := by rw [← prs_append, List.take_append_drop]
  rw [h2, List.take_append_of_le_length (by rw [prs_length, List.length_take]; omega)] at h1
  rwa [List.take_of_length_le (by rw [prs_length, List.length_take]; omega)] at h1

/-- Between two rounds. -/
def FI (w : World) (n : Int) (pre : List Ln) (W : World) : Prop := Boxed W w.heap.size 3 (.int .i64 n) ∧ (Boxed W (w.heap.size + 1) 3 (.int .i64 0) ∧ (Boxed W (w.heap.size + 1 + 1) 9 (.string ⟨#[]⟩) ∧ (Boxed W (w.heap.size + 1 + 1 + 1) 4 (.bool false) ∧ (Boxed W (w.heap.size + 1 + 1 + 1 + 1) 3 (.int .i64 (acc pre)) ∧ (Below w.heap.size w W ∧ ∀ x ∈ pre, (x.1 : Int) ≠ n)))))
theorem FI.own (w w3 : World) (n : Int) (hw : w.heap.size ≤ w3.heap.size) : OwnFrom w3.heap.size (FI w n) :=
  OwnFrom.and (Own.from (boxed_own _ _ (fun _ => Value.int .i64 n)) _) (OwnFrom.and (Own.from (boxed_own _ _ (fun _ => Value.int .i64 0)) _) (OwnFrom.and (Own.from (boxed_own _ _ (fun _ => Value.string ⟨#[]⟩)) _)
    (OwnFrom.and (Own.from (boxed_own _ _ (fun _ => Value.bool false)) _) (OwnFrom.and (Own.from (boxed_own _ _ (fun pre : List Ln => Value.int .i64 (acc pre))) _) (OwnFrom.and (ownFrom_below (Nat.le_refl _) hw) (ownFrom_pure _ _))))))
/-- How a round leaves: the line is found. -/
def FX (w : World) (n : Int) (c : Code) (pre : List Ln) (W : World) : Prop := c = .ret ∧ ∃ (p : List Ln) (x : Ln), pre = p ++ [x] ∧ (x.1 : Int) = n ∧ (Boxed W (w.heap.size + 1) 3 (.int .i64 (acc p)) ∧ (Boxed W (w.heap.size + 1 + 1) 9 (.string (str x.2)) ∧ (Boxed W (w.heap.size + 1 + 1 + 1) 4 (.bool true) ∧ Below w.heap.size w W)))
theorem FX.own (w w3 : World) (n : Int) (c : Code) (hw : w.heap.size ≤ w3.heap.size) : OwnFrom w3.heap.size (FX w n c) := by
  rintro pre X Y row ⟨h1, p, x, h2, h3, h4⟩ hg hr
  exact ⟨h1, p, x, h2, h3, (OwnFrom.and (Own.from (boxed_own _ _ (fun _ : Unit => Value.int .i64 (acc p))) _) (OwnFrom.and (Own.from (boxed_own _ _ (fun _ => Value.string (str x.2))) _) (OwnFrom.and (Own.from (boxed_own _ _ (fun _ => Value.bool true)) _) (ownFrom_below (Nat.le_refl _) hw)))) () X Y row h4 hg hr⟩
theorem ret_cell {X : World} {B D : Nat} {t : TypeId} {v : Value} (hb : Boxed X B t v) (hK : X.heap[D]? = some (.deferred (some []))) : (X.putObj D (.deferred none)).cell? ⟨B, 0, none⟩ = some v :=
  cell_kept hb.cell (grownBy_putObj' _ D (.deferred none)) (fun r e => by cases e; exact ⟨_, hK, rfl⟩)
/-- The activation of a round. -/
def actF (s : ByteArray) (n : Int) (B : Nat) (x : Ln) : Act := { tmps := #[.string s, .int .i64 n, undef, .pointer (some ⟨B, 0, none⟩), .pointer (some ⟨B + 1, 0, none⟩), .pointer (some ⟨B + 1 + 1, 0, none⟩), .pointer (some ⟨B + 1 + 1 + 1, 0, none⟩), .pointer (some ⟨B + 1 + 1 + 1 + 1, 0, none⟩), .int .i64 (x.1 : Int), .string (str x.2), .string s, .func (.func 16) #[] #[.pointer (some ⟨B + 1 + 1 + 1 + 1 + 1, 0, none⟩)], .int .i64 (x.1 : Int), .string (str x.2), undef, undef, undef, undef, undef, undef, undef, undef, undef, undef], defers := [] }

set_option maxRecDepth 100000 in
set_option maxHeartbeats 8000000 in
theorem find_any (s : ByteArray) (n : Int) (hs : s.size ≤ 100000) (w : World) : Calls Try.prog 15 #[.string s, .int .i64 n] w fun e w' => e = .returned (.tuple #[.int .i64 (fnd s.data.toList n).1, .string (str (fnd s.data.toList n).2.1), .bool (fnd s.data.toList n).2.2]) ∧ Below w.heap.size w w' := by
  have HS := keep hs
  have hsI : (s.size : Int) ≤ 100000 := by omega
  have b0 := Boxed.new w 3 (.int .i64 n)
  have b1 := Boxed.new (w.alloc (.cells #[.int .i64 n] 3)) 3 (.int .i64 0)
  have b2 := Boxed.new ((w.alloc (.cells #[.int .i64 n] 3)).alloc (.cells #[.int .i64 0] 3)) 9 (.string ⟨#[]⟩)
  have b3 := Boxed.new (((w.alloc (.cells #[.int .i64 n] 3)).alloc (.cells #[.int .i64 0] 3)).alloc (.cells #[.string ⟨#[]⟩] 9)) 4 (.bool false)
  have b4 := Boxed.new ((((w.alloc (.cells #[.int .i64 n] 3)).alloc (.cells #[.int .i64 0] 3)).alloc (.cells #[.string ⟨#[]⟩] 9)).alloc (.cells #[.bool false] 4)) 3 (.int .i64 0)
  have b5 := Boxed.new (((((w.alloc (.cells #[.int .i64 n] 3)).alloc (.cells #[.int .i64 0] 3)).alloc (.cells #[.string ⟨#[]⟩] 9)).alloc (.cells #[.bool false] 4)).alloc (.cells #[.int .i64 0] 3)) 9 (.string s)
  simp only [World.size_alloc] at b1 b2 b3 b4 b5
  have HI0 : Keep (FI w n [] ((((((w.alloc (.cells #[.int .i64 n] 3)).alloc (.cells #[.int .i64 0] 3)).alloc (.cells #[.string ⟨#[]⟩] 9)).alloc (.cells #[.bool false] 4)).alloc (.cells #[.int .i64 0] 3)).alloc (.cells #[.string s] 9))) :=
    ⟨⟨((((b0.alloc _).alloc _).alloc _).alloc _).alloc _, (((b1.alloc _).alloc _).alloc _).alloc _, ((b2.alloc _).alloc _).alloc _, (b3.alloc _).alloc _, b4.alloc _, ((((((Below.refl _ w).alloc (Nat.le_refl _) _).alloc (by simp) _).alloc (by simp; omega) _).alloc (by simp; omega) _).alloc (by simp; omega) _).alloc (by simp; omega) _, by simp⟩⟩
  have HSZ : Keep (((((((w.alloc (.cells #[.int .i64 n] 3)).alloc (.cells #[.int .i64 0] 3)).alloc (.cells #[.string ⟨#[]⟩] 9)).alloc (.cells #[.bool false] 4)).alloc (.cells #[.int .i64 0] 3)).alloc (.cells #[.string s] 9)).heap.size = w.heap.size + 6) := ⟨by simp⟩
  have HST := keep (each_stops 3 (w.heap.size + 1 + 1 + 1 + 1 + 1) s hs _ b5)
  clear hs b0 b1 b2 b3 b4 b5
  refine (callsIn_wide (n := 4)).1 ?_
  refine callsIn_of_wp_marks Try.func15 rfl trivial ?_ rfl
  simp only [Try.ntmps15, List.size_toArray, List.length_cons, List.length_nil, Nat.reduceAdd, Nat.reduceSub, Array.replicate_succ, Array.replicate_zero, List.push_toArray, List.append_toArray, List.nil_append, List.cons_append]
  gi_wp2_with (refine ⟨trivial, ?_⟩; gi_at_call 10; refine (callsIn_wide.2 (each_any _ _)).mono ?_; rintro e w' ⟨rfl, rfl⟩)
  generalize ((((((w.alloc (.cells #[.int .i64 n] 3)).alloc (.cells #[.int .i64 0] 3)).alloc (.cells #[.string ⟨#[]⟩] 9)).alloc (.cells #[.bool false] 4)).alloc (.cells #[.int .i64 0] 3)).alloc (.cells #[.string s] 9)) = w3 at *
  refine wpIn_rangeFunc_ownH (n := 4) rfl (by omega) (gf := 16) (lb := #[.pointer (some ⟨w.heap.size + 1 + 1 + 1 + 1 + 1, 0, none⟩)]) rfl trivial (enters_of Try.func16 (by kernel_rfl) rfl)
    HST.out (fun _ _ => trivial) (fun _ _ _ _ _ _ _ _ => trivial) (Below.refl _ _) (fun _ => rfl)
    (FI w n) (FX w n) (FI.own w w3 n (by rw [HSZ.out]; omega)) (fun c => FX.own w w3 n c (by rw [HSZ.out]; omega)) HI0.out (fun x a' _ => a' = actF s n w.heap.size x) (fun _ _ _ _ _ _ hs _ _ => hs) ?assign ?body ?done ?stop
  case assign =>
    rintro l pre x W K hi hK
    dsimp only [encL]
    gi_wp2
    exact hK _ W (KeepsFrom.refl _ _) trivial hi rfl
  case body =>
    rintro l pre x a' W hl _ ⟨h0, h1, h2, h3, h4, hB, hne⟩ rfl hlt
    unfold actF
    have hc0 := h0.cell
    have hc4 := h4.cell
    have hf1 := h1.frozen
    have hf2 := h2.frozen
    have hf3 := h3.frozen
    have hf4 := h4.frozen
    have hc1 := h1.cell
    have hc2 := h2.cell
    have hc3 := h3.cell
    have H0 := keep h0
    have H1 := keep h1
    have H2 := keep h2
    have H3 := keep h3
    have H4 := keep h4
    have HB := keep hB
    have HNE := keep hne
    have HACC := keep (acc_snoc pre x)
    obtain ⟨A, hA⟩ : ∃ A, A = acc pre := ⟨_, rfl⟩
    have HA := keep hA
    rw [← hA] at hc4 HACC H4
    clear h0 h1 h2 h3 h4 hB hne hl hlt hA
    by_cases hx : (x.1 : Int) = n
    · have HX := keep hx
      have hb : ((x.1 : Int) == n) = true := by simp [hx]
      clear hx
      gi_wp2
      refine ⟨(((KeepsOthers.setCell _ _ _).trans (KeepsOthers.setCell _ _ _)).trans (KeepsOthers.setCell _ _ _)).from _, rfl, pre, x, rfl, HX.out, ?_, ?_, ?_, ?_⟩
      · rw [← HA.out]; exact ((H1.out.set _).other (by omega) _).other (by omega) _
      · exact ((H2.out.other (by omega) _).set _).other (by omega) _
      · exact ((H3.out.other (by omega) _).other (by omega) _).set _
      · exact ((HB.out.setCell (p := ⟨w.heap.size + 1, 0, none⟩) (by simp) _).setCell (p := ⟨w.heap.size + 1 + 1, 0, none⟩) (by simp; omega) _).setCell (p := ⟨w.heap.size + 1 + 1 + 1, 0, none⟩) (by simp; omega) _
    · have HX := keep hx
      have hb : ((x.1 : Int) == n) = false := by simpa using hx
      clear hx
      gi_wp2
      refine ⟨(KeepsOthers.setCell _ _ _).from _, trivial, H0.out.other (by omega) _, H1.out.other (by omega) _, H2.out.other (by omega) _, H3.out.other (by omega) _, ?_, ?_, ?_⟩
      · rw [HACC.out, IntWalk.i64_left, IntWalk.i64_left]; exact H4.out.set _
      · exact HB.out.setCell (p := ⟨w.heap.size + 1 + 1 + 1 + 1, 0, none⟩) (by simp; omega) _
      · intro y hy
        rcases List.mem_append.1 hy with h | h
        · exact HNE.out y h
        · rw [List.mem_singleton.1 h]; exact HX.out
  case done =>
    rintro D zs W hD rfl ⟨h0, h1, h2, h3, h4, hB, hne⟩ hK
    have HE : Keep (fnd s.data.toList n = (0, [], false)) := ⟨fnd_none fun k hk => by
      rcases Nat.lt_or_ge k (lines s.data.toList).length with hlt | hge
      · have hx : (prs 1 (lines s.data.toList))[k]? = some (1 + k, (lines s.data.toList)[k]) := by rw [prs_get, List.getElem?_eq_getElem hlt]; rfl
        exact absurd (by simp only; omega) (hne _ (List.mem_of_getElem? hx))
      · exact hge⟩
    have hf1 := h1.frozen
    have hf2 := h2.frozen
    have hf3 := h3.frozen
    have hc1 := h1.cell
    have hc2 := h2.cell
    have hc3 := h3.cell
    have HDB : Keep (w.heap.size + 5 < D) := ⟨by have := HSZ.out; omega⟩
    have H1 := keep h1
    have H2 := keep h2
    have H3 := keep h3
    have HB := keep hB
    have HK := keep hK
    clear h0 h1 h2 h3 h4 hB hne hK hD
    gi_wp2
    have HDB := HDB.out
    have k0 : ∀ (V : World) (B : Nat) (v : Value), V.heap[D]? = some (.deferred (some [])) → D ≠ B → (V.setCell ⟨B, 0, none⟩ v).heap[D]? = some (.deferred (some [])) := fun V B v h hne => (heap_setCell_other _ _ _ _ (by simpa using hne)).trans h
    have hK3 := k0 _ (w.heap.size + 1 + 1 + 1) (.bool false) (k0 _ (w.heap.size + 1 + 1) (.string ⟨#[]⟩) (k0 _ (w.heap.size + 1) (.int .i64 0) HK.out (by omega)) (by omega)) (by omega)
    have c1 := ret_cell (((H1.out.set (.int .i64 0)).other (B' := w.heap.size + 1 + 1) (by omega) (.string ⟨#[]⟩)).other (B' := w.heap.size + 1 + 1 + 1) (by omega) (.bool false)) hK3
    have c2 := ret_cell (((H2.out.other (B' := w.heap.size + 1) (by omega) (.int .i64 0)).set (.string ⟨#[]⟩)).other (B' := w.heap.size + 1 + 1 + 1) (by omega) (.bool false)) hK3
    have c3 := ret_cell (((H3.out.other (B' := w.heap.size + 1) (by omega) (.int .i64 0)).other (B' := w.heap.size + 1 + 1) (by omega) (.string ⟨#[]⟩)).set (.bool false)) hK3
    have hB3 := ((HB.out.setCell (p := ⟨w.heap.size + 1, 0, none⟩) (by simp) (.int .i64 0)).setCell (p := ⟨w.heap.size + 1 + 1, 0, none⟩) (by simp; omega) (.string ⟨#[]⟩)).setCell (p := ⟨w.heap.size + 1 + 1 + 1, 0, none⟩) (by simp; omega) (.bool false)
    refine ⟨by simp, .inl ⟨_, _, rfl, run_takeDeferred hK3, ?_⟩⟩
    refine ⟨.tuple #[.int .i64 0, .string ⟨#[]⟩, .bool false], ?_, by rw [HE.out]; rfl, hB3.trans (belowK_b (w := w) (Nat.le_refl _) _ D _ _ (by omega) hK3 rfl rfl)⟩
    simp [results, Try.f15, go_sem, c1, c2, c3]
  case stop =>
    rintro D c pre W hD hp ⟨rfl, p, x, rfl, hx, h1, h2, h3, hB⟩ hK
    obtain ⟨hp1, hp2, hp3⟩ := prs_take hp
    have hlt : p.length < (lines s.data.toList).length := (List.getElem?_eq_some_iff.1 hp2).1
    have hac := (acc_start (s := s.data.toList) (by rw [← size_list]; exact HS.out) p.length (Nat.le_of_lt hlt)).1
    rw [← hp1] at hac
    have HE : Keep (fnd s.data.toList n = (acc p, x.2, true)) := ⟨by rw [hac, ← fnd_hit hp2]; congr 1; omega⟩
    have HDB : Keep (w.heap.size + 5 < D) := ⟨by have := HSZ.out; omega⟩
    have c1 := ret_cell h1 hK
    have c2 := ret_cell h2 hK
    have c3 := ret_cell h3 hK
    gi_wp2
    refine ⟨by simp, .inl ⟨_, _, rfl, run_takeDeferred hK, ?_⟩⟩
    refine ⟨.tuple #[.int .i64 (acc p), .string (str x.2), .bool true], ?_, by rw [HE.out], hB.trans (belowK_b (w := w) (Nat.le_refl _) _ D _ _ (by have := HDB.out; omega) hK rfl rfl)⟩
    simp [results, Try.f15, go_sem, c1, c2, c3]

set_option maxHeartbeats 1000000 in
theorem line_any (s : ByteArray) (n : Int) (hs : s.size ≤ 100000) (w : World) : Calls Try.prog 9 #[.string s, .int .i64 n] w fun e w' => e = .returned (.tuple #[.string (str (fnd s.data.toList n).2.1), .bool (fnd s.data.toList n).2.2]) ∧ Below w.heap.size w w' := by
  have HF := keep (find_any s n hs w)
  generalize fnd s.data.toList n = F at *
  obtain ⟨A, x, b⟩ := F
  clear hs
  go_enter Try.func9, Try.ntmps9
  go_wp2_with (go_at_call 15; refine HF.out.mono ?_; rintro e w' ⟨rfl, hb⟩; have HB := keep hb; clear hb)
  go_ret2
  exact ⟨rfl, HB.out⟩

/-- The place of a line and a column. -/
def att (s : List UInt8) (l c : Int) : Int × Bool := if (fnd s l).2.2 = true ∧ 1 ≤ c ∧ c ≤ ((fnd s l).2.1.length : Int) + 1 then ((fnd s l).1 + c - 1, true) else (0, false)
theorem fnd_cases (s : List UInt8) (n : Int) : (∃ (k : Nat) (x : List UInt8), n = (k : Int) + 1 ∧ (lines s)[k]? = some x ∧ fnd s n = (((startL (lines s) k : Nat) : Int), x, true)) ∨ ((∀ k : Nat, n = (k : Int) + 1 → (lines s).length ≤ k) ∧ fnd s n = (0, [], false)) := by
  by_cases h : ∃ k : Nat, n = (k : Int) + 1 ∧ k < (lines s).length
  · obtain ⟨k, rfl, hk⟩ := h
    exact .inl ⟨k, _, rfl, List.getElem?_eq_getElem hk, fnd_hit (List.getElem?_eq_getElem hk)⟩
  · have h' : ∀ k : Nat, n = (k : Int) + 1 → (lines s).length ≤ k := fun k hk => by
      rcases Nat.lt_or_ge k (lines s).length with h1 | h1
      · exact absurd ⟨k, hk, h1⟩ h
      · exact h1
    exact .inr ⟨h', fnd_none h'⟩

set_option maxHeartbeats 2000000 in
theorem at_any (s : ByteArray) (l c : Int) (hs : s.size ≤ 100000) (w : World) : Calls Try.prog 14 #[.string s, .int .i64 l, .int .i64 c] w fun e w' => e = .returned (.tuple #[.int .i64 (att s.data.toList l c).1, .bool (att s.data.toList l c).2]) ∧ Below w.heap.size w w' := by
  have HF := keep (find_any s l hs w)
  have hbd : 0 ≤ (fnd s.data.toList l).1 ∧ (fnd s.data.toList l).1 + (fnd s.data.toList l).2.1.length ≤ 100000 := by
    rcases fnd_cases s.data.toList l with ⟨k, x, _, h2, h3⟩ | ⟨_, h3⟩
    · rw [h3]; have := line_le h2; rw [← size_list] at this; simp only; omega
    · rw [h3]; simp
  have HA : Keep (∀ (v : Int) (b : Bool), att s.data.toList l c = (v, b) → Ending.returned (.tuple #[.int .i64 v, .bool b]) = .returned (.tuple #[.int .i64 (att s.data.toList l c).1, .bool (att s.data.toList l c).2])) := ⟨fun v b h => by rw [h]⟩
  have hatt : att s.data.toList l c = if (fnd s.data.toList l).2.2 = true ∧ 1 ≤ c ∧ c ≤ ((fnd s.data.toList l).2.1.length : Int) + 1 then ((fnd s.data.toList l).1 + c - 1, true) else (0, false) := rfl
  generalize att s.data.toList l c = R at *
  generalize fnd s.data.toList l = F at *
  obtain ⟨A, x, b⟩ := F
  simp only at hbd hatt
  have HATT := keep hatt
  have hsz : (str x).size = x.length := str_size x
  obtain ⟨z, hz⟩ : ∃ z, z = (str x).size := ⟨_, rfl⟩
  have HZ := keep hz
  have hA0 := hbd.1
  have hA1 : A + (z : Int) ≤ 100000 := by rw [hz, hsz]; exact hbd.2
  have HX : Keep ((x.length : Int) = (z : Int)) := ⟨by rw [hz, hsz]⟩
  have hzw : IntKind.i64.wrap ((z : Int) + 1) = (z : Int) + 1 := IntWalk.i64_in _ ⟨by omega, by omega⟩
  have hzs := hz.symm
  clear hs hbd hatt hsz hz
  have hud : ∀ b : Bool, (undef = Value.bool b) = False := fun b => by unfold undef; simp
  cases b with
  | false =>
    have HE := HA.out 0 false (by rw [HATT.out, if_neg (by simp)])
    have HEE := keep HE
    clear HE HA hzs
    go_enter Try.func14, Try.ntmps14
    go_wp2_with (go_at_call 15; refine HF.out.mono ?_; rintro e w' ⟨rfl, hb⟩; have HB := keep hb; clear hb)
    go_ret2
    exact ⟨HEE.out, HB.out⟩
  | true =>
    by_cases h1 : c < 1
    · have HE := HA.out 0 false (by rw [HATT.out, if_neg (by omega)])
      have HEE := keep HE
      clear HE HA hzs
      go_enter Try.func14, Try.ntmps14
      go_wp2_with (go_at_call 15; refine HF.out.mono ?_; rintro e w' ⟨rfl, hb⟩; have HB := keep hb; clear hb)
      go_ret2
      exact ⟨HEE.out, HB.out⟩
    · by_cases h2 : (z : Int) + 1 < c
      · have HE := HA.out 0 false (by rw [HATT.out, if_neg (by have := HX.out; omega)])
        have HEE := keep HE
        clear HE HA
        go_enter Try.func14, Try.ntmps14
        go_wp2_with (go_at_call 15; refine HF.out.mono ?_; rintro e w' ⟨rfl, hb⟩; have HB := keep hb; clear hb)
        go_ret2
        exact ⟨HEE.out, HB.out⟩
      · have HE := HA.out (A + c - 1) true (by rw [HATT.out, if_pos (by have := HX.out; exact ⟨rfl, by omega, by omega⟩)])
        have HEE := keep HE
        have h3 : c ≤ (z : Int) + 1 := by omega
        have h4 : 1 ≤ c := by omega
        clear HE HA
        go_enter Try.func14, Try.ntmps14
        go_wp2_with (go_at_call 15; refine HF.out.mono ?_; rintro e w' ⟨rfl, hb⟩; have HB := keep hb; clear hb)
        go_ret2
        exact ⟨HEE.out, HB.out⟩

set_option maxHeartbeats 2000000 in
theorem live_any (w : World) : Calls Try.prog 7 #[] w fun e w' => e = .returned (.bool true) ∧ w = w' := by
  have HO := keep (of_any ⟨#[97, 10, 98, 99]⟩ 3 (by decide) w)
  have HL := keep (lines_any ⟨#[97, 10, 98, 99]⟩ (by decide) w)
  rw [show ofP ((⟨#[97, 10, 98, 99]⟩ : ByteArray).data.toList.take (3 : Int).toNat) = (1, 1) by decide] at HO
  rw [show ofP ((⟨#[97, 10, 98, 99]⟩ : ByteArray).data.toList) = (1, 2) by decide] at HL
  go_enter Try.func7, Try.ntmps7
  go_wp2_with (first
    | (go_at_call 12; refine HO.out.mono ?_; rintro e w' ⟨rfl, rfl⟩)
    | (go_at_call 11; refine HL.out.mono ?_; rintro e w' ⟨rfl, rfl⟩))
  go_ret
  exact ⟨rfl, rfl⟩
end Go.Proofs.Ytikkblakncflfaa
