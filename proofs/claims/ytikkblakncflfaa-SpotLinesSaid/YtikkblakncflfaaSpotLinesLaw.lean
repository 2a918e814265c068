/-
  For every string and every two ints, retracelaw07.SpotLines answers true, and what it is given reads as before. No condition.
-/
import Derived.Test.YtikkblakncflfaaRows
import Derived.Test.YtikkblakncflfaaSpotT
namespace Go.Proofs.Ytikkblakncflfaa.spotLines
open Go.ChangeShapes Go.WideShapes Go.ChangeAt Go.RowKit Go.Shelf
open Go.ChangeMaps (open_string shut_string)
attribute [local go_sem] Oper.semAt_some

set_option maxRecDepth 100000 in
set_option maxHeartbeats 8000000 in
theorem walk (s : ByteArray) (n stop : Int) (w : World) (_ : s.size ≤ maxLen) (hn1 : (Lit.int .i64 n).wf = true) (_ : (Lit.int .i64 stop).wf = true) :
    Calls Try.prog 3 #[.string s, .int .i64 n, .int .i64 stop] w fun e w' => e = .returned (.bool true) ∧ Below w.heap.size w w' := by
  have hnb := wf_bounds_i64 hn1
  have HBS0 := keep ((Boxed.new w 3 (.int .i64 stop)).alloc (.cells #[.bool false] 4))
  have hr0 := Boxed.new (w.alloc (.cells #[.int .i64 stop] 3)) 4 (.bool false)
  rw [World.size_alloc] at hr0
  have HBR0 := keep hr0
  have HBW0 := keep (((Below.refl _ w).alloc (Nat.le_refl _) (.cells #[.int .i64 stop] 3)).alloc (by simp) (.cells #[.bool false] 4))
  clear hr0 hn1
  by_cases hbig : (600 : Int) < (s.size : Int)
  · have q1 := HBR0.out.frozen
    have hr1 := Boxed.new (w.alloc (.cells #[.int .i64 stop] 3)) 4 (.bool true)
    rw [World.size_alloc] at hr1
    have q2 := hr1.cell
    have HB1 := keep (((Below.refl _ w).alloc (Nat.le_refl _) (.cells #[.int .i64 stop] 3)).alloc (by simp) (.cells #[.bool true] 4))
    clear hnb hr1
    go_enter Try.func3, Try.ntmps3
    go_wp2_with fail
    refine (live_any _).mono ?_
    rintro e w4 ⟨rfl, rfl⟩
    go_wp2_with fail
    refine bodyPost_ret (v := .bool true) ?_ rfl ⟨rfl, HB1.out⟩
    simp [results, Try.results3, go_sem, q2]
  · have hsI : (s.size : Int) ≤ 600 := by omega
    have hs : s.size ≤ 100000 := by omega
    have hfn := func_nil
    have hNle : (lines s.data.toList).length ≤ 601 := by rw [lines_length]; have := ofP_le s.data.toList; rw [← size_list] at this; omega
    have HALL : Keep (∀ W, Calls Try.prog 8 #[.string s] W fun e w' => ∃ g cap, e = .returned (.slice (some ⟨g, 0, none⟩) (lines s.data.toList).length cap) ∧ Keep (Below W.heap.size W w' ∧ g < w'.heap.size ∧ ∀ j x, (lines s.data.toList)[j]? = some x → w'.cell? ⟨g, j, none⟩ = some (TV x))) := ⟨fun W => (rall_any s hs W).mono (by
      rintro e w' ⟨v, rfl, ho⟩
      obtain ⟨g, cap, rfl, h1, h2⟩ := own_slice ho
      exact ⟨g, cap, rfl, ⟨ho.below, h1, h2⟩⟩)⟩
    have HLINE := keep (fun W => line_any s n hs W)
    have HLINES := keep (fun W => lines_any s (by omega) W)
    rw [← lines_length_int] at HLINES
    have HS := keep hs
    have HC := fnd_cases s.data.toList n
    obtain ⟨m, hm⟩ : ∃ m, m = lines s.data.toList := ⟨_, rfl⟩
    have HM := keep hm
    rw [← hm] at HALL HLINES HC hNle
    obtain ⟨N, hN⟩ : ∃ N, N = m.length := ⟨_, rfl⟩
    have HNN := keep hN
    rw [← hN] at HALL HLINES hNle
    have hNI : (N : Int) ≤ 601 := by omega
    have hN0 : (0 : Int) ≤ (N : Int) := by omega
    have hlow : n < 1 ∨ 1 ≤ n := by omega
    clear hbig hs hm hNle HBS0 HBR0 HBW0
    rcases HC with ⟨k, x, rfl, hx, hf⟩ | ⟨hno, hf⟩
    focus
      rw [hf] at HLINE
      simp only at HLINE
      have hkN : (k : Int) < (N : Int) := by have := (List.getElem?_eq_some_iff.1 hx).1; omega
      have hk1 : ¬ ((k : Int) + 1 < 1) := by omega
      have hk2 : ¬ ((N : Int) < (k : Int) + 1) := by omega
      have hk0 : (0 : Int) ≤ (k : Int) := by omega
      have HXX := keep hx
      clear hf hx hN hlow hnb
      refine (callsIn_wide (n := 4)).1 ?_
      refine callsIn_of_wp_marks Try.func3 rfl trivial ?_ rfl
      simp only [Try.ntmps3, List.size_toArray, List.length_cons, List.length_nil, Nat.reduceAdd, Nat.reduceSub, Array.replicate_succ, Array.replicate_zero, List.push_toArray, List.append_toArray, List.nil_append, List.cons_append]
      gi_wp2_with (first
      | (refine ⟨trivial, ?_⟩; gi_at_call 7; refine (callsIn_wide.2 (live_any _)).mono ?_; rintro e1 w' ⟨rfl, rfl⟩)
      | (refine ⟨trivial, ?_⟩; gi_at_call 8; refine (callsIn_wide.2 (HALL.out _)).mono ?_; clear HALL; rintro e1 w2 ⟨g, cap, rfl, HR2⟩; have HA2 := keep (At3.start (w := w) (stop := stop) (N := N) (cap := cap) HR2.out.1 HR2.out.2.1 HR2.out.2.2); clear HR2)
      | (refine ⟨trivial, ?_⟩; gi_at_call 9; refine (callsIn_wide.2 (HLINE.out _)).mono ?_; clear HLINE; rintro e1 w3 ⟨rfl, hb⟩; have HA3 := keep (HA2.out.to hb); have hch := HA3.out.h.cell; have hcl := HA3.out.row _ _ HXX.out; clear hb HA2)
      | (refine ⟨trivial, ?_⟩; gi_at_call 10; refine (callsIn_wide.2 (each_any _ _)).mono ?_; rintro e1 w' ⟨rfl, rfl⟩))
      clear HXX hkN hk1 hk2 hk0 hcl
    rotate_left
    focus
      rcases hlow with hlow | hlow
      focus
        rw [hf] at HLINE
        simp only [str_nil] at HLINE
        clear hf hno hN hnb
        refine (callsIn_wide (n := 4)).1 ?_
        refine callsIn_of_wp_marks Try.func3 rfl trivial ?_ rfl
        simp only [Try.ntmps3, List.size_toArray, List.length_cons, List.length_nil, Nat.reduceAdd, Nat.reduceSub, Array.replicate_succ, Array.replicate_zero, List.push_toArray, List.append_toArray, List.nil_append, List.cons_append]
        gi_wp2_with (first
        | (refine ⟨trivial, ?_⟩; gi_at_call 7; refine (callsIn_wide.2 (live_any _)).mono ?_; rintro e1 w' ⟨rfl, rfl⟩)
        | (refine ⟨trivial, ?_⟩; gi_at_call 8; refine (callsIn_wide.2 (HALL.out _)).mono ?_; clear HALL; rintro e1 w2 ⟨g, cap, rfl, HR2⟩; have HA2 := keep (At3.start (w := w) (stop := stop) (N := N) (cap := cap) HR2.out.1 HR2.out.2.1 HR2.out.2.2); clear HR2)
        | (refine ⟨trivial, ?_⟩; gi_at_call 9; refine (callsIn_wide.2 (HLINE.out _)).mono ?_; clear HLINE; rintro e1 w3 ⟨rfl, hb⟩; have HA3 := keep (HA2.out.to hb); have hch := HA3.out.h.cell; clear hb HA2)
        | (refine ⟨trivial, ?_⟩; gi_at_call 10; refine (callsIn_wide.2 (each_any _ _)).mono ?_; rintro e1 w' ⟨rfl, rfl⟩))
        clear hlow
      rotate_left
      focus
        have hhi : (N : Int) < n := by
          rcases Int.lt_or_le (N : Int) n with h | h
          · exact h
          · have := hno (n - 1).toNat (by omega); omega
        have hlw : ¬ (n < 1) := by omega
        rw [hf] at HLINE
        simp only [str_nil] at HLINE
        clear hf hno hN hnb hlow
        refine (callsIn_wide (n := 4)).1 ?_
        refine callsIn_of_wp_marks Try.func3 rfl trivial ?_ rfl
        simp only [Try.ntmps3, List.size_toArray, List.length_cons, List.length_nil, Nat.reduceAdd, Nat.reduceSub, Array.replicate_succ, Array.replicate_zero, List.push_toArray, List.append_toArray, List.nil_append, List.cons_append]
        gi_wp2_with (first
        | (refine ⟨trivial, ?_⟩; gi_at_call 7; refine (callsIn_wide.2 (live_any _)).mono ?_; rintro e1 w' ⟨rfl, rfl⟩)
        | (refine ⟨trivial, ?_⟩; gi_at_call 8; refine (callsIn_wide.2 (HALL.out _)).mono ?_; clear HALL; rintro e1 w2 ⟨g, cap, rfl, HR2⟩; have HA2 := keep (At3.start (w := w) (stop := stop) (N := N) (cap := cap) HR2.out.1 HR2.out.2.1 HR2.out.2.2); clear HR2)
        | (refine ⟨trivial, ?_⟩; gi_at_call 9; refine (callsIn_wide.2 (HLINE.out _)).mono ?_; clear HLINE; rintro e1 w3 ⟨rfl, hb⟩; have HA3 := keep (HA2.out.to hb); have hch := HA3.out.h.cell; clear hb HA2)
        | (refine ⟨trivial, ?_⟩; gi_at_call 10; refine (callsIn_wide.2 (each_any _ _)).mono ?_; rintro e1 w' ⟨rfl, rfl⟩))
        clear hlw hhi
    all_goals
      have b1 := Boxed.new w3 9 (.string s)
      have b2 := Boxed.new (w3.alloc (.cells #[.string s] 9)) 3 (.int .i64 0)
      rw [World.size_alloc] at b2
      have HP6 := keep (b1.alloc (.cells #[.int .i64 0] 3))
      have HN6 := keep b2
      have HA6 := keep (HA3.out.to (((Below.refl _ w3).alloc (Nat.le_refl _) (.cells #[.string s] 9)).alloc (by simp) (.cells #[.int .i64 0] 3)))
      have HPW : Keep (w2.heap.size < w3.heap.size ∧ ((w3.alloc (.cells #[.string s] 9)).alloc (.cells #[.int .i64 0] 3)).heap.size = w3.heap.size + 1 + 1) := ⟨HA3.out.h.lt, by simp⟩
      clear b1 b2 hch HA3
      generalize (w3.alloc (.cells #[.string s] 9)).alloc (.cells #[.int .i64 0] 3) = w6 at *
      generalize w3.heap.size = K at *
      generalize w2.heap.size = P at *
      refine range_lines 0 59 60 12 13 K s HS.out rfl HP6.out (GoI (K + 1) w6) (GoI.own _ _) ⟨Kept2.refl _ _ _, HN6.out⟩ (Bad m) (fun pre => (pre.length : Int) = stop) (by rw [← HM.out]; exact bad_not m) ?assign ?body ?rest
      case assign =>
        intro L x W K hK
        unfold asg2 at hK
        simp only [List.setIfInBounds_toArray, List.set_cons_succ, List.set_cons_zero] at hK
        gi_wp2
        exact hK
      case body =>
        rintro L pre ⟨i, y⟩ W ⟨hk, hn⟩ hlt
        unfold asg2
        simp only [List.setIfInBounds_toArray, List.set_cons_succ, List.set_cons_zero]
        have ha := HA6.out.kept hk (by have := HPW.out; omega)
        obtain ⟨q, hqq⟩ : ∃ q, q = pre.length := ⟨_, rfl⟩
        have HQQ := keep hqq
        rw [← hqq] at hn hlt
        rw [← HM.out] at hlt
        have hy0 : m[q]? = some (m[q]'hlt) := List.getElem?_eq_getElem hlt
        generalize m[q]'hlt = y0 at hy0
        have hcell := ha.row q y0 hy0
        have HY0 : Keep ((prs 1 m)[pre.length]? = some (1 + q, y0)) := ⟨by rw [prs_get, ← hqq, hy0]; rfl⟩
        have hltI : (q : Int) < (N : Int) := by rw [HNN.out]; omega
        have hge : decide ((N : Int) ≤ (q : Int)) = false := by simp; omega
        have hq0 : (0 : Int) ≤ (q : Int) := by omega
        have hqI : (q : Int) ≤ 601 := by omega
        have ch := ha.h.cell
        have ct := ha.t.cell
        have cr := ha.r.cell
        have fr := ha.r.frozen
        have cn := hn.cell
        have fn := hn.frozen
        have HK := keep hk
        have HNB := keep hn
        have HA := keep ha
        clear hk hn ha hlt hqq hy0
        by_cases hi : i = q + 1
        · subst hi
          by_cases hy : y = y0
          · subst hy
            have cn3 := (HNB.out.set (.int .i64 ((q : Int) + 1))).cell
            have ct3 := (HA.out.t.other (B' := K + 1) (by have := HA.out.lo; have := HPW.out; omega) (.int .i64 ((q : Int) + 1))).cell
            have HPL : Keep (((pre ++ [(q + 1, y)]).length : Int) = (q : Int) + 1) := ⟨by rw [List.length_append, ← HQQ.out]; rfl⟩
            have HEND : Keep (KeepsFrom w6.heap.size W (W.setCell ⟨K + 1, 0, none⟩ (.int .i64 ((q : Int) + 1))) ∧ GoI (K + 1) w6 (pre ++ [(q + 1, y)]) (W.setCell ⟨K + 1, 0, none⟩ (.int .i64 ((q : Int) + 1)))) := ⟨(KeepsOthers.setCell _ _ _).from _, HK.out.grown (grown_set W (K + 1) _) (fun k e => by injection e with e; exact .inr (.inl e.symm)), by rw [HPL.out]; exact HNB.out.set _⟩
            by_cases hst : (q : Int) + 1 = stop
            · have hsb : ((q : Int) + 1 == stop) = true := by simp [hst]
              have HST := keep hst
              clear hst
              gi_wp2
              exact ⟨HEND.out.1, .inr ⟨rfl, by show ((pre ++ [(q + 1, y)]).length : Int) = stop; rw [HPL.out]; exact HST.out, HEND.out.2⟩⟩
            · have hsb : ((q : Int) + 1 == stop) = false := by simp [hst]
              clear hst
              gi_wp2
              exact ⟨HEND.out.1, trivial, HEND.out.2⟩
          · have hyn : ((str y).toList == (str y0).toList) = false := beq_no (fun h => hy (str_inj h))
            have HX := keep hy
            have hud : ∀ b : Bool, (undef = Value.bool b) = False := fun b => by unfold undef; simp
            clear hy
            gi_wp2
            exact ⟨(KeepsOthers.setCell _ _ _).from _, .inl ⟨rfl, pre, _, rfl, fun h => HX.out (by rw [HY0.out] at h; injection h with h; injection h with _ h; exact h.symm)⟩⟩
        · have hin : ((i : Int) != (q : Int) + 1) = true := by simp; omega
          have HX := keep hi
          have hud : ∀ b : Bool, (undef = Value.bool b) = False := fun b => by unfold undef; simp
          clear hi
          gi_wp2
          exact ⟨(KeepsOthers.setCell _ _ _).from _, .inl ⟨rfl, pre, _, rfl, fun h => HX.out (by rw [HY0.out] at h; injection h with h; injection h with h _; omega)⟩⟩
      case rest =>
        rintro D pre W hD hle hT ⟨hk, hn⟩ hDK
        have ha := HA6.out.kept hk (by have := HPW.out; omega)
        obtain ⟨q, hqq⟩ : ∃ q, q = pre.length := ⟨_, rfl⟩
        rw [← hqq] at hn hle hT
        rw [← HM.out, ← HNN.out] at hle hT
        have hqI : (q : Int) ≤ (N : Int) := by omega
        have hq0 : (0 : Int) ≤ (q : Int) := by omega
        have HT : Keep ((q : Int) = (N : Int) ∨ ((q : Int) ≠ (N : Int) ∧ (q : Int) = stop)) := ⟨by
          by_cases e : (q : Int) = (N : Int)
          · exact .inl e
          · rcases hT with h | h
            · exact absurd (by rw [h]) e
            · exact .inr ⟨e, h⟩⟩
        have ch := ha.h.cell
        have ct := ha.t.cell
        have cr := ha.r.cell
        have fr := ha.r.frozen
        have cn := hn.cell
        have HA := keep ha
        have HDK := keep hDK
        have HRL : Keep (w.heap.size + 1 < P ∧ P < K ∧ K + 1 < D) := ⟨by have := HPW.out; have := ha.lo; omega⟩
        clear hk hn ha hDK hD hle hT hqq
        rcases HT.out with hc | ⟨hc1, hc2⟩
        focus
          have hqn : ((q : Int) == (N : Int)) = true := by simp [hc]
          clear hc
          gi_wp2
          refine AnyGo.regionM (fun W' => W'.cell? ⟨K + 1, 0, none⟩ = some (.int .i64 (q : Int)) ∧ W'.cell? ⟨P, 0, none⟩ = some (.slice (some ⟨g, 0, none⟩) N cap) ∧ W'.cell? ⟨w.heap.size, 0, none⟩ = some (.int .i64 stop)) (by kernel_rfl) (by rfl) ⟨cn, ch, ct⟩ ?_
          intro wd ewd
          subst ewd
          (refine AnyGo.take 0 (some 84) ?_ (a' := ?_) rfl (by kernel_rfl) (fun _ _ d _ _ h => by cases d <;> exact h) (by kernel_rfl) (by rfl) (by kernel_rfl) ?_ ?_ ?_; rotate_left 2; (focus (intro W hW; (try dsimp only at hW); go_simp; (try with_reducible rfl))); (focus (simp only [Act.put, List.setIfInBounds_toArray]; rfl)))
          (refine AnyGo.take 1 (some 85) ?_ (a' := ?_) rfl (by kernel_rfl) (fun _ _ d _ _ h => by cases d <;> exact h) (by kernel_rfl) (by rfl) (by kernel_rfl) ?_ ?_ ?_; rotate_left 2; (focus (intro W hW; (try dsimp only at hW); go_simp; (try with_reducible rfl))); (focus (simp only [Act.put, List.setIfInBounds_toArray]; rfl)))
          (refine AnyGo.take 2 (some 86) ?_ (a' := ?_) rfl (by kernel_rfl) (fun _ _ d _ _ h => by cases d <;> exact h) (by kernel_rfl) (by rfl) (by kernel_rfl) ?_ ?_ ?_; rotate_left 2; (focus (intro W hW; (try dsimp only at hW); go_simp; (try with_reducible rfl))); (focus (simp only [Act.put, List.setIfInBounds_toArray]; rfl)))
          (refine AnyGo.take 3 (some 87) ?_ (a' := ?_) rfl (by kernel_rfl) (fun _ _ d _ _ h => by cases d <;> exact h) (by kernel_rfl) (by rfl) (by kernel_rfl) ?_ ?_ ?_; rotate_left 2; (focus (intro W hW; (try dsimp only at hW); go_simp; (try with_reducible rfl))); (focus (simp only [Act.put, List.setIfInBounds_toArray]; rfl)))
          (refine AnyGo.take 4 (some 88) ?_ (a' := ?_) rfl (by kernel_rfl) (fun _ _ d _ _ h => by cases d <;> exact h) (by kernel_rfl) (by rfl) (by kernel_rfl) ?_ ?_ ?_; rotate_left 2; (focus (intro W hW; (try dsimp only at hW); go_simp; (try with_reducible rfl))); (focus (simp only [Act.put, List.setIfInBounds_toArray]; rfl)))
          (refine AnyGo.skip 5 (some 89) (a' := ?_) rfl (by kernel_rfl) (fun _ _ d _ _ h => by cases d <;> exact h) (by kernel_rfl) (by rfl) (by kernel_rfl) ?_ ?_; rotate_left 1; (focus (simp only [Act.put, List.setIfInBounds_toArray]; rfl)))
          (refine AnyGo.skip 6 (some 90) (a' := ?_) rfl (by kernel_rfl) (fun _ _ d _ _ h => by cases d <;> exact h) (by kernel_rfl) (by rfl) (by kernel_rfl) ?_ ?_; rotate_left 1; (focus (simp only [Act.put, List.setIfInBounds_toArray]; rfl)))
          (refine AnyGo.skip 7 (some 91) (a' := ?_) rfl (by kernel_rfl) (fun _ _ d _ _ h => by cases d <;> exact h) (by kernel_rfl) (by rfl) (by kernel_rfl) ?_ ?_; rotate_left 1; (focus (simp only [Act.put, List.setIfInBounds_toArray]; rfl)))
          (refine AnyGo.take 8 (some 92) ?_ (a' := ?_) rfl (by kernel_rfl) (fun _ _ d _ _ h => by cases d <;> exact h) (by kernel_rfl) (by rfl) (by kernel_rfl) ?_ ?_ ?_; rotate_left 2; (focus (intro W hW; (try dsimp only at hW); go_simp; (try with_reducible rfl))); (focus (simp only [Act.put, List.setIfInBounds_toArray]; rfl)))
          (refine AnyGo.take 9 (some 93) ?_ (a' := ?_) rfl (by kernel_rfl) (fun _ _ d _ _ h => by cases d <;> exact h) (by kernel_rfl) (by rfl) (by kernel_rfl) ?_ ?_ ?_; rotate_left 2; (focus (intro W hW; (try dsimp only at hW); go_simp; (try with_reducible rfl))); (focus (simp only [Act.put, List.setIfInBounds_toArray]; rfl)))
          (refine AnyGo.take 10 (some 94) ?_ (a' := ?_) rfl (by kernel_rfl) (fun _ _ d _ _ h => by cases d <;> exact h) (by kernel_rfl) (by rfl) (by kernel_rfl) ?_ ?_ ?_; rotate_left 2; (focus (intro W hW; (try dsimp only at hW); go_simp; (try with_reducible rfl))); (focus (simp only [Act.put, List.setIfInBounds_toArray]; rfl)))
          (refine AnyGo.take 12 (some 96) ?_ (a' := ?_) rfl (by kernel_rfl) (fun _ _ d _ _ h => by cases d <;> exact h) (by kernel_rfl) (by rfl) (by kernel_rfl) ?_ ?_ ?_; rotate_left 2; (focus (intro W hW; (try dsimp only at hW); go_simp; (try with_reducible rfl))); (focus (simp only [Act.put, List.setIfInBounds_toArray]; rfl)))
          (refine AnyGo.take 13 (some 97) ?_ (a' := ?_) rfl (by kernel_rfl) (fun _ _ d _ _ h => by cases d <;> exact h) (by kernel_rfl) (by rfl) (by kernel_rfl) ?_ ?_ ?_; rotate_left 2; (focus (intro W hW; (try dsimp only at hW); go_simp; (try with_reducible rfl))); (focus (simp only [Act.put, List.setIfInBounds_toArray]; rfl)))
        rotate_left
        focus
          have hqn : ((q : Int) == (N : Int)) = false := by simp [hc1]
          have hqs : ((q : Int) == stop) = true := by simp [hc2]
          clear hc1 hc2
          gi_wp2
          refine AnyGo.regionM (fun W' => W'.cell? ⟨K + 1, 0, none⟩ = some (.int .i64 (q : Int)) ∧ W'.cell? ⟨P, 0, none⟩ = some (.slice (some ⟨g, 0, none⟩) N cap) ∧ W'.cell? ⟨w.heap.size, 0, none⟩ = some (.int .i64 stop)) (by kernel_rfl) (by rfl) ⟨cn, ch, ct⟩ ?_
          intro wd ewd
          subst ewd
          (refine AnyGo.take 0 (some 84) ?_ (a' := ?_) rfl (by kernel_rfl) (fun _ _ d _ _ h => by cases d <;> exact h) (by kernel_rfl) (by rfl) (by kernel_rfl) ?_ ?_ ?_; rotate_left 2; (focus (intro W hW; (try dsimp only at hW); go_simp; (try with_reducible rfl))); (focus (simp only [Act.put, List.setIfInBounds_toArray]; rfl)))
          (refine AnyGo.take 1 (some 85) ?_ (a' := ?_) rfl (by kernel_rfl) (fun _ _ d _ _ h => by cases d <;> exact h) (by kernel_rfl) (by rfl) (by kernel_rfl) ?_ ?_ ?_; rotate_left 2; (focus (intro W hW; (try dsimp only at hW); go_simp; (try with_reducible rfl))); (focus (simp only [Act.put, List.setIfInBounds_toArray]; rfl)))
          (refine AnyGo.take 2 (some 86) ?_ (a' := ?_) rfl (by kernel_rfl) (fun _ _ d _ _ h => by cases d <;> exact h) (by kernel_rfl) (by rfl) (by kernel_rfl) ?_ ?_ ?_; rotate_left 2; (focus (intro W hW; (try dsimp only at hW); go_simp; (try with_reducible rfl))); (focus (simp only [Act.put, List.setIfInBounds_toArray]; rfl)))
          (refine AnyGo.take 3 (some 87) ?_ (a' := ?_) rfl (by kernel_rfl) (fun _ _ d _ _ h => by cases d <;> exact h) (by kernel_rfl) (by rfl) (by kernel_rfl) ?_ ?_ ?_; rotate_left 2; (focus (intro W hW; (try dsimp only at hW); go_simp; (try with_reducible rfl))); (focus (simp only [Act.put, List.setIfInBounds_toArray]; rfl)))
          (refine AnyGo.take 4 (some 88) ?_ (a' := ?_) rfl (by kernel_rfl) (fun _ _ d _ _ h => by cases d <;> exact h) (by kernel_rfl) (by rfl) (by kernel_rfl) ?_ ?_ ?_; rotate_left 2; (focus (intro W hW; (try dsimp only at hW); go_simp; (try with_reducible rfl))); (focus (simp only [Act.put, List.setIfInBounds_toArray]; rfl)))
          (refine AnyGo.take 5 (some 89) ?_ (a' := ?_) rfl (by kernel_rfl) (fun _ _ d _ _ h => by cases d <;> exact h) (by kernel_rfl) (by rfl) (by kernel_rfl) ?_ ?_ ?_; rotate_left 2; (focus (intro W hW; (try dsimp only at hW); go_simp; (try with_reducible rfl))); (focus (simp only [Act.put, List.setIfInBounds_toArray]; rfl)))
          (refine AnyGo.take 6 (some 90) ?_ (a' := ?_) rfl (by kernel_rfl) (fun _ _ d _ _ h => by cases d <;> exact h) (by kernel_rfl) (by rfl) (by kernel_rfl) ?_ ?_ ?_; rotate_left 2; (focus (intro W hW; (try dsimp only at hW); go_simp; (try with_reducible rfl))); (focus (simp only [Act.put, List.setIfInBounds_toArray]; rfl)))
          (refine AnyGo.take 7 (some 91) ?_ (a' := ?_) rfl (by kernel_rfl) (fun _ _ d _ _ h => by cases d <;> exact h) (by kernel_rfl) (by rfl) (by kernel_rfl) ?_ ?_ ?_; rotate_left 2; (focus (intro W hW; (try dsimp only at hW); go_simp; (try with_reducible rfl))); (focus (simp only [Act.put, List.setIfInBounds_toArray]; rfl)))
          (refine AnyGo.take 8 (some 92) ?_ (a' := ?_) rfl (by kernel_rfl) (fun _ _ d _ _ h => by cases d <;> exact h) (by kernel_rfl) (by rfl) (by kernel_rfl) ?_ ?_ ?_; rotate_left 2; (focus (intro W hW; (try dsimp only at hW); go_simp; (try with_reducible rfl))); (focus (simp only [Act.put, List.setIfInBounds_toArray]; rfl)))
          (refine AnyGo.take 9 (some 93) ?_ (a' := ?_) rfl (by kernel_rfl) (fun _ _ d _ _ h => by cases d <;> exact h) (by kernel_rfl) (by rfl) (by kernel_rfl) ?_ ?_ ?_; rotate_left 2; (focus (intro W hW; (try dsimp only at hW); go_simp; (try with_reducible rfl))); (focus (simp only [Act.put, List.setIfInBounds_toArray]; rfl)))
          (refine AnyGo.take 10 (some 94) ?_ (a' := ?_) rfl (by kernel_rfl) (fun _ _ d _ _ h => by cases d <;> exact h) (by kernel_rfl) (by rfl) (by kernel_rfl) ?_ ?_ ?_; rotate_left 2; (focus (intro W hW; (try dsimp only at hW); go_simp; (try with_reducible rfl))); (focus (simp only [Act.put, List.setIfInBounds_toArray]; rfl)))
          (refine AnyGo.take 12 (some 96) ?_ (a' := ?_) rfl (by kernel_rfl) (fun _ _ d _ _ h => by cases d <;> exact h) (by kernel_rfl) (by rfl) (by kernel_rfl) ?_ ?_ ?_; rotate_left 2; (focus (intro W hW; (try dsimp only at hW); go_simp; (try with_reducible rfl))); (focus (simp only [Act.put, List.setIfInBounds_toArray]; rfl)))
          (refine AnyGo.take 13 (some 97) ?_ (a' := ?_) rfl (by kernel_rfl) (fun _ _ d _ _ h => by cases d <;> exact h) (by kernel_rfl) (by rfl) (by kernel_rfl) ?_ ?_ ?_; rotate_left 2; (focus (intro W hW; (try dsimp only at hW); go_simp; (try with_reducible rfl))); (focus (simp only [Act.put, List.setIfInBounds_toArray]; rfl)))
        all_goals
          refine AnyGo.one (i := 11) (by kernel_rfl) rfl (by kernel_rfl) (fun K' hK' => ?_)
          go_simp
          refine (HLINES.out _).mono ?_
          rintro e w' ⟨rfl, rfl⟩
          refine hK'.out _ _ ⟨cn, ch, ct⟩ ?_
          clear hK' K'
          (try simp only [Act.put, List.setIfInBounds_toArray])
          (refine AnyGo.take 14 (some 98) ?_ (a' := ?_) rfl (by kernel_rfl) (fun _ _ d _ _ h => by cases d <;> exact h) (by kernel_rfl) (by rfl) (by kernel_rfl) ?_ ?_ ?_; rotate_left 2; (focus (intro W hW; (try dsimp only at hW); go_simp; (try with_reducible rfl))); (focus (simp only [Act.put, List.setIfInBounds_toArray]; rfl)))
          (refine AnyGo.take 15 (some 99) ?_ (a' := ?_) rfl (by kernel_rfl) (fun _ _ d _ _ h => by cases d <;> exact h) (by kernel_rfl) (by rfl) (by kernel_rfl) ?_ ?_ ?_; rotate_left 2; (focus (intro W hW; (try dsimp only at hW); go_simp; (try with_reducible rfl))); (focus (simp only [Act.put, List.setIfInBounds_toArray]; rfl)))
          (refine AnyGo.take 16 (some 100) ?_ (a' := ?_) rfl (by kernel_rfl) (fun _ _ d _ _ h => by cases d <;> exact h) (by kernel_rfl) (by rfl) (by kernel_rfl) ?_ ?_ ?_; rotate_left 2; (focus (intro W hW; (try dsimp only at hW); go_simp; (try with_reducible rfl))); (focus (simp only [Act.put, List.setIfInBounds_toArray]; rfl)))
          refine AnyGo.one (i := 17) (by kernel_rfl) rfl (by kernel_rfl) (fun K' hK' => ?_)
          go_simp
          refine (live_any _).mono ?_
          rintro e w' ⟨rfl, rfl⟩
          refine hK'.out _ _ ⟨cn, ch, ct⟩ ?_
          clear hK' K'
          (try simp only [Act.put, List.setIfInBounds_toArray])
          (refine AnyGo.take 18 (some 102) ?_ (a' := ?_) rfl (by kernel_rfl) (fun _ _ d _ _ h => by cases d <;> exact h) (by kernel_rfl) (by rfl) (by kernel_rfl) ?_ ?_ ?_; rotate_left 2; (focus (intro W hW; (try dsimp only at hW); go_simp; (try with_reducible rfl))); (focus (simp only [Act.put, List.setIfInBounds_toArray]; rfl)))
          refine AnyGo.one (i := 19) (by kernel_rfl) rfl (by kernel_rfl) (fun K' hK' => ?_)
          go_simp
          have hne : ∀ k, k ≠ w.heap.size + 1 → ∀ v, W.drew.cell? ⟨k, 0, none⟩ = some v → (W.drew.setCell ⟨w.heap.size + 1, 0, none⟩ (.bool true)).cell? ⟨k, 0, none⟩ = some v := fun k hk v h => (World.cell?_setCell_other W.drew _ _ _ (by intro c; injection c with c _; exact hk c.symm)).trans h
          refine hK'.out _ _ ⟨hne _ (by have := HRL.out; omega) _ cn, hne _ (by have := HRL.out; omega) _ ch, hne _ (by omega) _ ct⟩ ?_
          clear hK' K'
          refine AnyGo.fin (by kernel_rfl) ?_
          (try simp only [List.set_cons_succ, List.set_cons_zero])
          refine calm_normal ?_
          gi_wp2
          have hr7 : Boxed W.drew (w.heap.size + 1) 4 (.bool false) := HA.out.r
          obtain ⟨hK1, hc5, hB5⟩ := lawEnd HA.out.bw.drew hr7 HDK.out (by omega) (by have := HRL.out; omega) true
          refine ⟨by simp, .inl ⟨_, _, rfl, run_takeDeferred hK1, ?_⟩⟩
          refine ⟨.bool true, ?_, rfl, hB5⟩
          have hc6 : ((W.setCell ⟨w.heap.size + 1, 0, none⟩ (.bool true)).drew.putObj D (.deferred none)).cell? ⟨w.heap.size + 1, 0, none⟩ = some (.bool true) := hc5
          simp [results, Try.f3, go_sem, hc6]
theorem own : ownKnob Try.prog.godebug = none := by kernel_rfl
theorem laid : laidOutB Try.prog = true := by kernel_rfl

set_option maxRecDepth 100000 in
theorem lifted (os : Os) (started : os.Started) (H : Type) (enc : TypeId × Value → H) :
    ReturnsInHanded {} Try.checked os 3 .any (Rows.spotLinesSpec.pre6 enc Try.prog Try.f3 Rows.spotLinesRow.domain false) (Rows.spotLinesSpec.post enc Try.prog Try.f3 false true false false) := by
  refine returnsInHanded_of_change (C := Try.checked) own started (by kernel_rfl) Try.func3
    (ChangeSpec.witness6 (enc := enc) (C := Try.checked) false ⟨#[], #[.string ByteArray.empty, .int .i64 0, .int .i64 0], []⟩ 8 (by kernel_rfl) (by kernel_rfl) (by kernel_rfl) (by kernel_rfl)) ?_
  intro W base args ds gs before hval0 hW hcnd _
  have hval : ∀ (j : Nat) t v, Try.f3.params[j]? = some t → args[j]? = some v → Value.okWide Try.prog W .any base t v := hval0
  have hW' := hW
  obtain ⟨p, q, hA0, hV, rfl, hfz, hnd⟩ := hW
  have hA : DataW.TrodAll enc Try.prog W 0 (fun _ => true) true Try.f3.params.toList args.toList ds p := hA0
  rw [Try.params3] at hA hval
  obtain ⟨v0, vs0, d0, ds0, p0, q0, hargs, rfl, rfl, h0, r0⟩ := trodAll_cons hA
  obtain ⟨v1, vs1, d1, ds1, p1, q1, rfl, rfl, rfl, h1, r1⟩ := trodAll_cons r0
  obtain ⟨v2, vs2, d2, ds2, p2, q2, rfl, rfl, rfl, h2, r2⟩ := trodAll_cons r1
  obtain ⟨rfl, rfl, rfl⟩ := trodAll_nil r2
  obtain rfl : args = #[v0, v1, v2] := by cases args; simp_all
  obtain ⟨rfl, rfl⟩ := trodVars_none hV
  obtain ⟨a0, rfl, rfl, rfl, w0⟩ := open_string Try.underlying9 (hval 0 9 v0 rfl rfl) h0
  obtain ⟨a1, rfl, rfl, rfl, w1⟩ := open_int Try.underlying3 (hval 1 3 v1 rfl rfl) h1
  obtain ⟨a2, rfl, rfl, rfl, w2⟩ := open_int Try.underlying3 (hval 2 3 v2 rfl rfl) h2
  clear hA0 hval0
  simp only [List.append_nil] at hW'
  refine (walk a0 a1 a2 W w0 w1 w2).mono fun e W' ⟨he, hg⟩ => ?_
  subst he
  exact ⟨_, rfl, _, _, _, [], _, [], hW', (trodAll_cons_mk (shut_bool Try.underlying4 _) trodAll_mk0), (trodAll_cons_mk (shut_string Try.underlying9 w0) (trodAll_cons_mk (shut_int Try.underlying3 w1) (trodAll_cons_mk (shut_int Try.underlying3 w2) trodAll_mk0))), rfl, hg.frame _, fun h => by cases h⟩

theorem over : Rows.spotLinesRow.holds Try.pinned (OpenSpec.ofChange Rows.spotLinesSpec) :=
  OpenClaim.holds_of_wide 3 Try.f3 rfl rfl rfl rfl rfl rfl rfl ⟨rfl, rfl, rfl, rfl, rfl⟩ rfl rfl rfl rfl rfl (by kernel_rfl) Try.func3 (by kernel_rfl)
    (of_decide_eq_true (by kernel_rfl)) (by unfold Func.isWrapper; first | (rw [if_pos (by decide +kernel)]; kernel_rfl) | (rw [if_neg (by decide +kernel)]; exact ⟨rfl, rfl⟩))
    (fun os started H enc _ => lifted os started H enc)

/-- The statement. -/
theorem proved : Rows.SpotLinesSaid :=
  over
#print axioms proved
end Go.Proofs.Ytikkblakncflfaa.spotLines
