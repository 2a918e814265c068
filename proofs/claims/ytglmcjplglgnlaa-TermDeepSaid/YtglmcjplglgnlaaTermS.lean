/-
  The program's signs and kinds: the map that is made by a function, the map turned round; Sign, Level.
-/
import Derived.Test.YtglmcjplglgnlaaTermK
import Derived.Test.YtglmcjplglgnlaaTermM
import Derived.Test.YtglmcjplglgnlaaLoop
import Derived.Maps.RangeWalk
namespace Go.Proofs.Ytglmcjplglgnlaa
open Go.RowKit Go.ChangeMaps Go.MapKept

/-- What stands in the map. -/
def signE : List MapEntry := [⟨.int .i64 17, sgn2 (str [124, 124]) 1, 0⟩, ⟨.int .i64 16, sgn2 (str [38, 38]) 2, 1⟩, ⟨.int .i64 10, sgn2 (str [61, 61]) 3, 2⟩, ⟨.int .i64 11, sgn2 (str [33, 61]) 3, 3⟩, ⟨.int .i64 12, sgn2 (str [60]) 3, 4⟩, ⟨.int .i64 13, sgn2 (str [60, 61]) 3, 5⟩, ⟨.int .i64 14, sgn2 (str [62]) 3, 6⟩, ⟨.int .i64 15, sgn2 (str [62, 61]) 3, 7⟩, ⟨.int .i64 5, sgn2 (str [43]) 4, 8⟩, ⟨.int .i64 6, sgn2 (str [45]) 4, 9⟩, ⟨.int .i64 7, sgn2 (str [42]) 5, 10⟩, ⟨.int .i64 8, sgn2 (str [47]) 5, 11⟩, ⟨.int .i64 9, sgn2 (str [37]) 5, 12⟩, ⟨.int .i64 3, sgn2 (str [45]) 6, 13⟩, ⟨.int .i64 4, sgn2 (str [33]) 6, 14⟩]
theorem sign_form : ∀ x ∈ signE, ∃ (op : Int) (s : ByteArray) (l : Int), x.key = .int .i64 op ∧ x.val = sgn2 s l ∧ sgS op = s ∧ sgL op = l ∧ s.size ≤ 2 ∧ 3 ≤ op ∧ op ≤ 17 ∧ 1 ≤ l ∧ l ≤ 6 := by
  intro x hx
  simp only [signE, List.mem_cons, List.not_mem_nil, or_false] at hx
  rcases hx with rfl | rfl | rfl | rfl | rfl | rfl | rfl | rfl | rfl | rfl | rfl | rfl | rfl | rfl | rfl
  all_goals exact ⟨_, _, _, rfl, rfl, by simp [sgS, signT], by simp [sgL, signT], by decide, by decide, by decide, by decide, by decide⟩
theorem wf_small {n : Int} (h : -1000 ≤ n) (h2 : n ≤ 1000) : (Lit.int .i64 n).wf = true := WalkArith.wf_i64 (by omega)
theorem sign_keys : ∀ x ∈ signE, ∃ l, keyOf Try.prog 3 x.key = some l := fun x hx => by
  obtain ⟨op, s, l, h, _, _, _, _, h1, h2, _⟩ := sign_form x hx
  rw [h]
  exact ⟨_, keyed_op (wf_small (by omega) (by omega))⟩
theorem sign_val : ∀ x ∈ signE, ∀ op : Int, x.key = .int .i64 op → x.val = sgn2 (sgS op) (sgL op) := fun x hx op e => by
  obtain ⟨op', s, l, h, h1, rfl, rfl, _⟩ := sign_form x hx
  rw [h] at e
  injection e with _ e
  rw [← e, h1]
theorem sign_there {op : Int} (h3 : 3 ≤ op) (h17 : op ≤ 17) : ∃ x ∈ signE, x.key = .int .i64 op := by
  rcases op_known op with rfl | rfl | rfl | rfl | rfl | rfl | rfl | rfl | rfl | rfl | rfl | rfl | rfl | rfl | rfl | h
  all_goals first
    | (simp [signE]; done)
    | omega
/-- Two entries with one sign are one. -/
theorem sign_one : ∀ x ∈ signE, ∀ y ∈ signE, x.val = y.val → x = y := by
  intro x hx y hy e
  simp only [signE, List.mem_cons, List.not_mem_nil, or_false] at hx hy
  rcases hx with rfl | rfl | rfl | rfl | rfl | rfl | rfl | rfl | rfl | rfl | rfl | rfl | rfl | rfl | rfl
  all_goals
    rcases hy with rfl | rfl | rfl | rfl | rfl | rfl | rfl | rfl | rfl | rfl | rfl | rfl | rfl | rfl | rfl
    all_goals first
      | rfl
      | (simp [sgn2, str_iff] at e; done)

/-! ### What a look-up finds -/
theorem zeroSign (w : World) : (zeroValue 56).run Try.prog w = .ok (sgn2 (str []) 0) w := by kernel_rfl
theorem look_sign {w : World} {b : Nat} (h : MapAt w b signE 15) {op : Int} (ho : (Lit.int .i64 op).wf = true) :
    (Instr.lookup 57 (.map (some b)) (.int .i64 op) false).run Try.prog w = .ok (.agg #[.string (sgS op), .int .i64 (sgL op)]) w := by
  by_cases hi : 3 ≤ op ∧ op ≤ 17
  · exact run_look_hit h keyInt Try.underlying57 (keyed_op ho) sign_keys (sign_there hi.1 hi.2) (fun x hx e => sign_val x hx op e)
  · have hn : op < 3 ∨ 17 < op := by omega
    rw [sgS_out hn, sgL_out hn]
    exact run_look_miss h keyInt Try.underlying57 (keyed_op ho) sign_keys (zeroSign w) (fun x hx e => by
      obtain ⟨op', s, l, h1, _, _, _, _, h2, h3, _⟩ := sign_form x hx
      rw [h1] at e
      injection e with _ e
      omega)

set_option maxRecDepth 100000 in
set_option maxHeartbeats 4000000 in
theorem sigs_any (w : World) : Calls Try.prog 21 #[] w fun e w' => e = .returned (.map (some w.heap.size)) ∧ MapAt w' w.heap.size signE 15 ∧ Below w.heap.size w w' := by
  have hmm := @run_makeMap Try.prog
  have HM0 : Keep (MapAt (w.alloc (.map #[] 0)) w.heap.size (signE.take 0) 0) := keep (MapAt.made w)
  have HB0 : Keep (Below w.heap.size w (w.alloc (.map #[] 0))) := keep ((Below.refl _ w).alloc (Nat.le_refl _) _)
  go_enter Try.func21, Try.ntmps21
  go_wp2_with (refine wpList_insert_new (t := 57) (k := 3) (e := 56) (b := w.heap.size) (es := signE.take 0) (c := 0) rfl _ _ _ rfl keyInt Try.underlying57 HM0.out (fun x hx => sign_keys x (List.mem_of_mem_take hx)) (.int .i64 17) (sgn2 (str [124, 124]) 1) (.int .i64 17) rfl rfl rfl (keyed_op rfl) (by simp [signE]) ?_)
  intro w1 hm hg
  have HM1 : Keep (MapAt w1 w.heap.size (signE.take 1) 1) := keep hm
  have HB1 := keep (HB0.out.trans (grown_below hg (Nat.le_refl _) HB0.out.size))
  clear hm hg
  go_wp2_with (refine wpList_insert_new (t := 57) (k := 3) (e := 56) (b := w.heap.size) (es := signE.take 1) (c := 1) rfl _ _ _ rfl keyInt Try.underlying57 HM1.out (fun x hx => sign_keys x (List.mem_of_mem_take hx)) (.int .i64 16) (sgn2 (str [38, 38]) 2) (.int .i64 16) rfl rfl rfl (keyed_op rfl) (by simp [signE]) ?_)
  intro w2 hm hg
  have HM2 : Keep (MapAt w2 w.heap.size (signE.take 2) 2) := keep hm
  have HB2 := keep (HB1.out.trans (grown_below hg (Nat.le_refl _) HB1.out.size))
  clear hm hg
  go_wp2_with (refine wpList_insert_new (t := 57) (k := 3) (e := 56) (b := w.heap.size) (es := signE.take 2) (c := 2) rfl _ _ _ rfl keyInt Try.underlying57 HM2.out (fun x hx => sign_keys x (List.mem_of_mem_take hx)) (.int .i64 10) (sgn2 (str [61, 61]) 3) (.int .i64 10) rfl rfl rfl (keyed_op rfl) (by simp [signE]) ?_)
  intro w3 hm hg
  have HM3 : Keep (MapAt w3 w.heap.size (signE.take 3) 3) := keep hm
  have HB3 := keep (HB2.out.trans (grown_below hg (Nat.le_refl _) HB2.out.size))
  clear hm hg
  go_wp2_with (refine wpList_insert_new (t := 57) (k := 3) (e := 56) (b := w.heap.size) (es := signE.take 3) (c := 3) rfl _ _ _ rfl keyInt Try.underlying57 HM3.out (fun x hx => sign_keys x (List.mem_of_mem_take hx)) (.int .i64 11) (sgn2 (str [33, 61]) 3) (.int .i64 11) rfl rfl rfl (keyed_op rfl) (by simp [signE]) ?_)
  intro w4 hm hg
  have HM4 : Keep (MapAt w4 w.heap.size (signE.take 4) 4) := keep hm
  have HB4 := keep (HB3.out.trans (grown_below hg (Nat.le_refl _) HB3.out.size))
  clear hm hg
  go_wp2_with (refine wpList_insert_new (t := 57) (k := 3) (e := 56) (b := w.heap.size) (es := signE.take 4) (c := 4) rfl _ _ _ rfl keyInt Try.underlying57 HM4.out (fun x hx => sign_keys x (List.mem_of_mem_take hx)) (.int .i64 12) (sgn2 (str [60]) 3) (.int .i64 12) rfl rfl rfl (keyed_op rfl) (by simp [signE]) ?_)
  intro w5 hm hg
  have HM5 : Keep (MapAt w5 w.heap.size (signE.take 5) 5) := keep hm
  have HB5 := keep (HB4.out.trans (grown_below hg (Nat.le_refl _) HB4.out.size))
  clear hm hg
  go_wp2_with (refine wpList_insert_new (t := 57) (k := 3) (e := 56) (b := w.heap.size) (es := signE.take 5) (c := 5) rfl _ _ _ rfl keyInt Try.underlying57 HM5.out (fun x hx => sign_keys x (List.mem_of_mem_take hx)) (.int .i64 13) (sgn2 (str [60, 61]) 3) (.int .i64 13) rfl rfl rfl (keyed_op rfl) (by simp [signE]) ?_)
  intro w6 hm hg
  have HM6 : Keep (MapAt w6 w.heap.size (signE.take 6) 6) := keep hm
  have HB6 := keep (HB5.out.trans (grown_below hg (Nat.le_refl _) HB5.out.size))
  clear hm hg
  go_wp2_with (refine wpList_insert_new (t := 57) (k := 3) (e := 56) (b := w.heap.size) (es := signE.take 6) (c := 6) rfl _ _ _ rfl keyInt Try.underlying57 HM6.out (fun x hx => sign_keys x (List.mem_of_mem_take hx)) (.int .i64 14) (sgn2 (str [62]) 3) (.int .i64 14) rfl rfl rfl (keyed_op rfl) (by simp [signE]) ?_)
  intro w7 hm hg
  have HM7 : Keep (MapAt w7 w.heap.size (signE.take 7) 7) := keep hm
  have HB7 := keep (HB6.out.trans (grown_below hg (Nat.le_refl _) HB6.out.size))
  clear hm hg
  go_wp2_with (refine wpList_insert_new (t := 57) (k := 3) (e := 56) (b := w.heap.size) (es := signE.take 7) (c := 7) rfl _ _ _ rfl keyInt Try.underlying57 HM7.out (fun x hx => sign_keys x (List.mem_of_mem_take hx)) (.int .i64 15) (sgn2 (str [62, 61]) 3) (.int .i64 15) rfl rfl rfl (keyed_op rfl) (by simp [signE]) ?_)
  intro w8 hm hg
  have HM8 : Keep (MapAt w8 w.heap.size (signE.take 8) 8) := keep hm
  have HB8 := keep (HB7.out.trans (grown_below hg (Nat.le_refl _) HB7.out.size))
  clear hm hg
  go_wp2_with (refine wpList_insert_new (t := 57) (k := 3) (e := 56) (b := w.heap.size) (es := signE.take 8) (c := 8) rfl _ _ _ rfl keyInt Try.underlying57 HM8.out (fun x hx => sign_keys x (List.mem_of_mem_take hx)) (.int .i64 5) (sgn2 (str [43]) 4) (.int .i64 5) rfl rfl rfl (keyed_op rfl) (by simp [signE]) ?_)
  intro w9 hm hg
  have HM9 : Keep (MapAt w9 w.heap.size (signE.take 9) 9) := keep hm
  have HB9 := keep (HB8.out.trans (grown_below hg (Nat.le_refl _) HB8.out.size))
  clear hm hg
  go_wp2_with (refine wpList_insert_new (t := 57) (k := 3) (e := 56) (b := w.heap.size) (es := signE.take 9) (c := 9) rfl _ _ _ rfl keyInt Try.underlying57 HM9.out (fun x hx => sign_keys x (List.mem_of_mem_take hx)) (.int .i64 6) (sgn2 (str [45]) 4) (.int .i64 6) rfl rfl rfl (keyed_op rfl) (by simp [signE]) ?_)
  intro w10 hm hg
  have HM10 : Keep (MapAt w10 w.heap.size (signE.take 10) 10) := keep hm
  have HB10 := keep (HB9.out.trans (grown_below hg (Nat.le_refl _) HB9.out.size))
  clear hm hg
  go_wp2_with (refine wpList_insert_new (t := 57) (k := 3) (e := 56) (b := w.heap.size) (es := signE.take 10) (c := 10) rfl _ _ _ rfl keyInt Try.underlying57 HM10.out (fun x hx => sign_keys x (List.mem_of_mem_take hx)) (.int .i64 7) (sgn2 (str [42]) 5) (.int .i64 7) rfl rfl rfl (keyed_op rfl) (by simp [signE]) ?_)
  intro w11 hm hg
  have HM11 : Keep (MapAt w11 w.heap.size (signE.take 11) 11) := keep hm
  have HB11 := keep (HB10.out.trans (grown_below hg (Nat.le_refl _) HB10.out.size))
  clear hm hg
  go_wp2_with (refine wpList_insert_new (t := 57) (k := 3) (e := 56) (b := w.heap.size) (es := signE.take 11) (c := 11) rfl _ _ _ rfl keyInt Try.underlying57 HM11.out (fun x hx => sign_keys x (List.mem_of_mem_take hx)) (.int .i64 8) (sgn2 (str [47]) 5) (.int .i64 8) rfl rfl rfl (keyed_op rfl) (by simp [signE]) ?_)
  intro w12 hm hg
  have HM12 : Keep (MapAt w12 w.heap.size (signE.take 12) 12) := keep hm
  have HB12 := keep (HB11.out.trans (grown_below hg (Nat.le_refl _) HB11.out.size))
  clear hm hg
  go_wp2_with (refine wpList_insert_new (t := 57) (k := 3) (e := 56) (b := w.heap.size) (es := signE.take 12) (c := 12) rfl _ _ _ rfl keyInt Try.underlying57 HM12.out (fun x hx => sign_keys x (List.mem_of_mem_take hx)) (.int .i64 9) (sgn2 (str [37]) 5) (.int .i64 9) rfl rfl rfl (keyed_op rfl) (by simp [signE]) ?_)
  intro w13 hm hg
  have HM13 : Keep (MapAt w13 w.heap.size (signE.take 13) 13) := keep hm
  have HB13 := keep (HB12.out.trans (grown_below hg (Nat.le_refl _) HB12.out.size))
  clear hm hg
  go_wp2_with (refine wpList_insert_new (t := 57) (k := 3) (e := 56) (b := w.heap.size) (es := signE.take 13) (c := 13) rfl _ _ _ rfl keyInt Try.underlying57 HM13.out (fun x hx => sign_keys x (List.mem_of_mem_take hx)) (.int .i64 3) (sgn2 (str [45]) 6) (.int .i64 3) rfl rfl rfl (keyed_op rfl) (by simp [signE]) ?_)
  intro w14 hm hg
  have HM14 : Keep (MapAt w14 w.heap.size (signE.take 14) 14) := keep hm
  have HB14 := keep (HB13.out.trans (grown_below hg (Nat.le_refl _) HB13.out.size))
  clear hm hg
  go_wp2_with (refine wpList_insert_new (t := 57) (k := 3) (e := 56) (b := w.heap.size) (es := signE.take 14) (c := 14) rfl _ _ _ rfl keyInt Try.underlying57 HM14.out (fun x hx => sign_keys x (List.mem_of_mem_take hx)) (.int .i64 4) (sgn2 (str [33]) 6) (.int .i64 4) rfl rfl rfl (keyed_op rfl) (by simp [signE]) ?_)
  intro w15 hm hg
  have HM15 : Keep (MapAt w15 w.heap.size (signE.take 15) 15) := keep hm
  have HB15 := keep (HB14.out.trans (grown_below hg (Nat.le_refl _) HB14.out.size))
  clear hm hg
  go_wp2_with fail
  go_ret
  exact ⟨rfl, HM15.out, HB15.out⟩

theorem fld_text (s : ByteArray) (l : Int) (w : World) : (Instr.field 56 (.agg #[.string s, .int .i64 l]) 0).run Try.prog w = .ok (.string s) w := by kernel_rfl
theorem fld_level (s : ByteArray) (l : Int) (w : World) : (Instr.field 56 (.agg #[.string s, .int .i64 l]) 1).run Try.prog w = .ok (.int .i64 l) w := by kernel_rfl
theorem tsign_any (op : Int) (ho : (Lit.int .i64 op).wf = true) (w : World) : Calls Try.prog 12 #[.int .i64 op] w fun e w' => e = .returned (.string (sgS op)) ∧ Below w.heap.size w w' := by
  have HL := keep (fun w b (h : MapAt w b signE 15) => look_sign h ho)
  have hfd := fld_text (sgS op) (sgL op)
  clear ho
  go_enter Try.func12, Try.ntmps12
  go_wp2_with fail
  refine (sigs_any _).mono ?_
  rintro e w1 ⟨rfl, hm, hb⟩
  have hl := HL.out _ _ hm
  have HB := keep hb
  clear hm hb HL
  go_wp2_with fail
  go_ret
  exact ⟨rfl, HB.out⟩
theorem tlevel_any (op : Int) (ho : (Lit.int .i64 op).wf = true) (w : World) : Calls Try.prog 14 #[.int .i64 op] w fun e w' => e = .returned (.int .i64 (lvl op)) ∧ Below w.heap.size w w' := by
  have HL := keep (fun w b (h : MapAt w b signE 15) => look_sign h ho)
  clear ho
  by_cases h1 : op = 1
  · subst h1
    go_enter Try.func14, Try.ntmps14
    go_wp2_with fail
    go_ret
    exact ⟨rfl, Below.refl _ _⟩
  · have b1 : (op == 1) = false := by simpa using h1
    by_cases h2 : op = 2
    · subst h2
      go_enter Try.func14, Try.ntmps14
      go_wp2_with fail
      go_ret
      exact ⟨rfl, Below.refl _ _⟩
    · have b2 : (op == 2) = false := by simpa using h2
      have hfd := fld_level (sgS op) (sgL op)
      have HE : Keep (lvl op = sgL op) := keep (if_neg (by omega))
      clear h1 h2
      go_enter Try.func14, Try.ntmps14
      go_wp2_with fail
      refine (sigs_any _).mono ?_
      rintro e w1 ⟨rfl, hm, hb⟩
      have hl := HL.out _ _ hm
      have HB := keep hb
      clear hm hb HL
      go_wp2_with fail
      go_ret
      exact ⟨ret_int HE.out.symm, HB.out⟩
end Go.Proofs.Ytglmcjplglgnlaa
