/-
  The document's lines: a row of texts that grows, of which the last one is stored anew.
-/
import Derived.Test.YtikkblakncflfaaSpotB
import Derived.Test.YtikkblakncflfaaLoop
import Derived.Laws.OwnMore
namespace Go.Proofs.Ytikkblakncflfaa
open Go.RowKit

abbrev TV (x : List UInt8) : Value := .string (str x)
structure Own (w0 : World) (v : Value) (l : List (List UInt8)) (W : World) : Prop where
  own : W.ownsRow w0.heap.size 9 1 v l.length (l.map TV)
  below : Below w0.heap.size w0 W
theorem Own.alloc {w0 W : World} {v : Value} {l : List (List UInt8)} (h : Own w0 v l W) (o : Obj) : Own w0 v l (W.alloc o) := ⟨h.own.alloc _, h.below.alloc h.below.size o⟩
theorem Own.drew {w0 W : World} {v : Value} {l : List (List UInt8)} (h : Own w0 v l W) : Own w0 v l W.drew := ⟨h.own, h.below.drew⟩
theorem elS : (Try.prog.info? 9).map (fun i => (i.zero, i.size, i.bytes)) = some (some (.string ⟨#[]⟩), 1, 16) := by kernel_rfl
theorem wpList_append_t {ops : Array Oper} {rest : List Oper} {o : Oper} {a : Act} {W : World} {Q : Exit → Act → World → Prop} (hgd : o.guard = none) (s x : Operand)
    (ho : o.op = .call { callee := .builtin .append, args := #[s, x], argTypes := #[23, 23] })
    (w0 : World) (v : Value) (l : List (List UInt8)) (hs : a.eval s = v) (h : Own w0 v l W) (hl : l.length ≤ 1000000) (ad : Addr) (c : Nat) (y : List UInt8) (hx : a.eval x = .slice (some ad) 1 c) (ha : W.cell? ad = some (TV y))
    (hK : ∀ v' W', Own w0 v' (l ++ [y]) W' → wpList Try.prog ops Q rest (a.put o.dst v') W') : wpList Try.prog ops Q (o :: rest) a W := by
  obtain ⟨i0, hi, hz0, hz1, hz2⟩ := info_parts elS
  refine wpList_append_own _ hgd s x 23 ho w0.heap.size 9 i0 (.string ⟨#[]⟩) 1 16 Try.underlying23 hi hz0 hz1 hz2 rfl (by decide) v l.length (l.map TV) hs h.own ad 1 c [TV y] hx rfl ?_ ?_ (by unfold maxLen; omega) (by omega) h.below.size ?_
  · intro j u hj
    match j, hj with
    | 0, hj =>
      obtain rfl : TV y = u := by simpa using hj
      rw [show ad.add 0 = ad by simp [Addr.add]]
      exact ha
  · intro u hu
    obtain rfl : u = TV y := by simpa using hu
    rfl
  · intro v' w' hown hgrow _
    refine hK v' w' ⟨?_, h.below.trans ⟨hgrow.os, hgrow.tape, hgrow.output, hgrow.size, fun k hk => hgrow.block k (Nat.lt_of_lt_of_le hk h.below.size) (fun e => ?_)⟩⟩
    · rw [List.length_append, List.map_append]; exact hown
    · have := (h.own.lt k e.symm).1; omega
theorem Own.form {w0 W : World} {v : Value} {q : List (List UInt8)} {y : List UInt8} (h : Own w0 v (q ++ [y]) W) : ∃ g cap, v = .slice (some ⟨g, 0, none⟩) ((q.length + 1 : Nat) : Int).toNat cap ∧ W.ownsRow w0.heap.size 9 1 v (q.length + 1) ((q ++ [y]).map TV) := by
  have ho := h.own
  rw [show (q ++ [y]).length = q.length + 1 by simp] at ho
  obtain ⟨g, cap, hv⟩ := ownsRow_succ ho
  exact ⟨g, cap, by rw [hv]; rfl, ho⟩
theorem map_at (q : List (List UInt8)) (y : List UInt8) : ((q ++ [y]).map TV)[q.length]? = some (TV y) := by simp
theorem map_set (q : List (List UInt8)) (y z : List UInt8) : ((q ++ [y]).map TV).set q.length (TV z) = (q ++ [z]).map TV := by
  simp only [List.map_append, List.map_cons, List.map_nil]
  rw [List.set_append_right (h := by simp)]
  simp

set_option maxRecDepth 100000 in
set_option maxHeartbeats 4000000 in
theorem rall_any (s : ByteArray) (hs : s.size ≤ 100000) (w : World) : Calls Try.prog 8 #[.string s] w fun e w' => ∃ v, e = .returned v ∧ Own w v (lines s.data.toList) w' := by
  have hsI : (s.size : Int) ≤ 100000 := by omega
  have HS := keep hs
  have H0 : Keep (Own w (.slice (some ⟨w.heap.size, 0, none⟩) 1 1) (lines (s.data.toList.take 0)) (w.alloc (.cells #[.string ⟨#[]⟩] 9))) := ⟨⟨World.ownsRow_lit w _ 1 (Nat.le_refl _) (by decide) rfl, (Below.refl _ _).alloc (Nat.le_refl _) _⟩⟩
  clear hs
  go_enter Try.func8, Try.ntmps8
  go_wp2_with fail
  go_loopw [3, 4] (fun v iv wr => ∃ k : Nat, iv = .int .i64 (k : Int) ∧ k ≤ s.size ∧ Keep (Own w v (lines (s.data.toList.take k)) wr)) (fun _ iv _ => s.size - (intOf iv).toNat)
  case atStart => exact ⟨0, rfl, Nat.zero_le _, H0⟩
  case round =>
    obtain ⟨k, rfl, hk, HO⟩ := hrel
    clear H0
    by_cases h2 : k < s.size
    · have h2I : (k : Int) < (s.size : Int) := by omega
      obtain ⟨b, hb1, hb2⟩ := drop_bt s h2
      have HT : Keep (s.data.toList.take (k + 1) = s.data.toList.take k ++ [b]) := ⟨by
        rw [List.take_add_one, ← List.head?_drop, hb1]; rfl⟩
      obtain ⟨q, y, hq, hn⟩ := lines_snoc (s.data.toList.take k) b
      rw [hq] at HO
      have hgb := get_bt s
      have HLQ : Keep ((q ++ [y]).length ≤ 1000000 ∧ q.length ≤ 100000) := ⟨by
        have h1 := lines_length (s.data.toList.take k)
        have h2 := ofP_le (s.data.toList.take k)
        rw [hq] at h1
        rw [List.length_take, ← size_list] at h2
        have h3 := HS.out
        simp at h1 ⊢
        omega⟩
      by_cases h10 : b = 10
      · subst h10
        have hbt : bt s k = 10 := by rw [← hb2]; rfl
        have HN : Keep (lines (s.data.toList.take (k + 1)) = q ++ [y] ++ [[]]) := ⟨by rw [HT.out, hn, if_pos rfl]⟩
        clear hb1 hb2 hq hn
        go_wp2_with (at_builtin; refine wpList_append_t rfl _ _ rfl w _ _ rfl (HO.out.alloc (.cells #[.string ⟨#[]⟩] 9)) HLQ.out.1 ⟨wr.heap.size, 0, none⟩ 1 [] rfl (cell_new1 wr _ _) ?_; intro v' W' ho; have HO' := keep ho; clear ho)
        go_roundw
        case rel => exact ⟨k + 1, by go_num, by omega, ⟨by rw [HN.out]; exact HO'.out⟩⟩
        case measure => simp [intOf]; omega
      · have hbt : (bt s k == 10) = false := by
          rw [← hb2, beq_eq_false_iff_ne]
          intro h
          exact h10 (UInt8.toNat_inj.1 (by simpa using Int.ofNat.inj h))
        have HN : Keep (lines (s.data.toList.take (k + 1)) = q ++ [y ++ [b]]) := ⟨by rw [HT.out, hn, if_neg h10]⟩
        have HX : s.extract k (k + 1) = str [b] := by
          rw [extract_is, hb1, show k + 1 - k = 1 by omega]; rfl
        have HY : str y ++ str [b] = str (y ++ [b]) := str_cat y (str [b])
        have HYL : y.length ≤ 100000 := by
          have h0 : (lines (s.data.toList.take k))[q.length]? = some y := by rw [hq]; simp
          have h1 := line_le h0
          rw [List.length_take, ← size_list] at h1
          have := HS.out
          omega
        have hyz : (str y).size = y.length := str_size y
        have hbz : (str [b]).size = 1 := rfl
        have hcat : (9223372036854775807 < (str y).size + (str [b]).size) = False := by rw [hyz, hbz]; simp; omega
        obtain ⟨g, cap, hv, ho⟩ := HO.out.form
        rw [Int.toNat_natCast] at hv
        subst hv
        have HOW := keep ho
        have HBL := keep HO.out.below
        have hcell : wr.cell? ⟨g, q.length, none⟩ = some (.string (str y)) := by
          rw [ho.cellAt q.length (by omega), map_at]
        have hfr : wr.frozen? ⟨g, q.length, none⟩ = false := ho.frozenAt _
        have HQI : Keep (q.length ≤ 100000) := ⟨HLQ.out.2⟩
        generalize hmm : q.length = m at *
        have hmI : (m : Int) ≤ 100000 := by have := HQI.out; omega
        obtain ⟨N, hN⟩ : ∃ N, N = m + 1 := ⟨_, rfl⟩
        rw [← hN] at HOW ⊢
        have hw1 : IntKind.i64.wrap ((N : Int) - 1) = (m : Int) := by rw [hN, show ((m + 1 : Nat) : Int) - 1 = (m : Int) by omega]; exact IntWalk.i64_in _ ⟨by omega, by omega⟩
        have hmN : (m : Int) < (N : Int) := by omega
        have hm0 : (0 : Int) ≤ (m : Int) := by omega
        have hk1 : (k : Int) + 1 ≤ (s.size : Int) := by omega
        have hk2 : (k : Int) ≤ (k : Int) + 1 := by omega
        have hk0 : (0 : Int) ≤ (k : Int) := by omega
        have hk3 : (0 : Int) ≤ (k : Int) + 1 := by omega
        have hk4 : ((k : Int) + 1).toNat = k + 1 := by omega
        have hkw : IntKind.i64.wrap ((k : Int) + 1) = (k : Int) + 1 := IntWalk.i64_in _ ⟨by omega, by omega⟩
        have HNN := keep hN
        have HMM := keep hmm
        clear hb1 hb2 hq hn h10 HO ho hN hmm HYL hyz hbz
        go_wp2_with fail
        have HNEW : Keep (Own w (.slice (some ⟨g, 0, none⟩) N cap) (q ++ [y ++ [b]]) (wr.setCell ⟨g, m, none⟩ (.string (str (y ++ [b])))).drew) := ⟨by
          have h1 := (HOW.out.stored m (.string (str (y ++ [b])))).1
          rw [← HMM.out, show (Value.string (str (y ++ [b]))) = TV (y ++ [b]) from rfl, map_set] at h1
          have h2 := (HOW.out.lt g rfl).1
          refine ⟨?_, (HBL.out.setCell (p := ⟨g, m, none⟩) h2 _).drew⟩
          rw [show (q ++ [y ++ [b]]).length = N by rw [HNN.out, ← HMM.out]; simp, ← HMM.out]
          exact h1⟩
        go_region
        go_wp2_with fail
        go_roundw
        case rel => exact ⟨k + 1, by go_num, by omega, ⟨by rw [HN.out]; exact HNEW.out⟩⟩
        case measure => simp [intOf]; omega
    · have hks : s.size = k := by omega
      have h3 : ¬ ((k : Int) < (s.size : Int)) := by omega
      have HE : Keep (s.data.toList.take k = s.data.toList) := ⟨List.take_of_length_le (by rw [← size_list]; omega)⟩
      rw [HE.out] at HO
      clear h2 hks
      go_wp2_with fail
      go_ret
      exact ⟨_, rfl, HO.out⟩
end Go.Proofs.Ytikkblakncflfaa
