/-
  The document's Parse; the chapter's example.
-/
import Derived.Test.YtglmcjplglgnlaaTermL
namespace Go.Proofs.Ytglmcjplglgnlaa
open Go.RowKit Go.Joins

theorem rreads_ok (ts : List Tok) (tv : Value) (hlen : ts.length ≤ 1000) : ∀ f : Nat, (∀ g, g ≤ f → RLevOk ts tv g) ∧ ROneOk ts tv f := by
  intro f
  induction f with
  | zero =>
    refine ⟨fun g hg i n d w h1 h6 hd hf h => ?_, fun i d w hd hf h => ?_⟩
    · omega
    · omega
  | succ f ih =>
    obtain ⟨i1, i2⟩ := ih
    refine ⟨fun g hg => ?_, rone_any ts tv f hlen (i1 f (Nat.le_refl _)) i2⟩
    rcases Nat.lt_or_ge g (f + 1) with hlt | hge
    · exact i1 g (by omega)
    · obtain rfl : g = f + 1 := by omega
      intro i n d w h1 h6 hd hf h
      by_cases e6 : n = 6
      · subst e6
        exact rlev_six ts tv f i2 i d w hd (by omega) h
      · exact rlev_low ts tv f hlen i1 i n d w h1 (by omega) hd hf h

set_option maxHeartbeats 4000000 in
theorem rparse_any (ts : List Tok) (tv : Value) (a : Int) (hlen : ts.length ≤ 1000) (w : World) (h : TkRow w.heap.size w tv ts) :
    Calls Try.prog 10 #[tv, .int .i64 a] w fun e w' => GotTo (parseI ts a) w e w' := by
  have HB0 := keep ((Below.refl _ w).alloc (Nat.le_refl _) (.cells #[.slice none 0 0, .int .i64 0, .int .i64 0] 30))
  have HR0 := keep (BoxL.new w [.slice none 0 0, .int .i64 0, .int .i64 0] 30)
  by_cases h0 : a < 0
  · have hR : parseI ts a = ([], 0, 1) := if_pos h0
    rw [hR]
    obtain ⟨o, cap, rfl, -⟩ := h.form
    generalize ts.length = n
    clear h hlen hR HR0 HB0
    go_enter Try.func10, Try.ntmps10
    go_wp2_with fail
    refine bodyPost_ret (v := .agg #[.slice none 0 0, .int .i64 0, .int .i64 1]) ?_ rfl ⟨_, rfl, NIn.nil _ _, (Below.refl _ _).alloc (Nat.le_refl _) _⟩
    simp [results, Try.results10, go_sem]
  · obtain ⟨i, rfl⟩ := Int.eq_ofNat_of_zero_le (by omega : 0 ≤ a)
    have hR : parseI ts (i : Int) = lev ts (fuelOf ts) i 1 0 := by unfold parseI parseP; rw [if_neg h0, Int.toNat_natCast]
    rw [hR]
    have HC := keep ((rreads_ok ts tv hlen (fuelOf ts)).1 (fuelOf ts) (Nat.le_refl _) i 1 0 _ (Nat.le_refl 1) (by omega) (by omega) (by unfold fuelOf; omega) (h.to HB0.out))
    obtain ⟨o, cap, rfl, -⟩ := h.form
    generalize lev ts (fuelOf ts) i 1 0 = R at HC ⊢
    generalize ts.length = n at *
    clear h hlen hR h0
    go_enter Try.func10, Try.ntmps10
    go_wp2_with fail
    refine HC.out.mono ?_
    rintro e w1 ⟨v, rfl, hv, h1⟩
    obtain ⟨vo, vc, rfl⟩ := hv.form
    have HV := keep (hv.mono (lo' := w.heap.size + 1) (by simp))
    have HB1 := keep (HB0.out.trans (h1.mono HB0.out.size))
    have HR1 := keep (HR0.out.to h1)
    have hx0 := HR1.out.row 0 _ rfl
    have hx1 := HR1.out.row 1 _ rfl
    have hx2 := HR1.out.row 2 _ rfl
    have hxf := HR1.out.free
    obtain ⟨hs0, hs1, hs2⟩ := HR1.out.put3
    clear hv h1 HC
    go_wp2_with fail
    refine bodyPost_ret (v := .agg #[.slice vo R.1.length vc, .int .i64 R.2.1, .int .i64 R.2.2]) ?_ rfl ⟨_, rfl, (HV.out.mono (Nat.le_succ _)).put3 w.heap.size (fun c => by have := (HV.out.lt _ c).1; omega) _ _ _, below_put3 HB1.out (Nat.le_refl _) _ _ _⟩
    simp [results, Try.results10, go_sem, hs0, hs1, hs2]

/-! ### The chapter's example -/
def exL : List UInt8 := [97, 45, 49, 45, 98, 42, 50]
def exT : List Tok := [⟨1, str [97], 0, 0⟩, ⟨4, str [45], 0, 1⟩, ⟨2, str [49], 1, 2⟩, ⟨4, str [45], 0, 3⟩, ⟨1, str [98], 0, 4⟩, ⟨4, str [42], 0, 5⟩, ⟨2, str [50], 2, 6⟩, ⟨0, str [], 0, 7⟩]
theorem ex_toks : Toks exL 0 exT (7, 0) :=
  .step 0 1 _ _ _ (by rfl) (by decide) (by decide) (by decide) <| .step 1 2 _ _ _ (by rfl) (by decide) (by decide) (by decide) <| .step 2 3 _ _ _ (by rfl) (by decide) (by decide) (by decide) <|
  .step 3 4 _ _ _ (by rfl) (by decide) (by decide) (by decide) <| .step 4 5 _ _ _ (by rfl) (by decide) (by decide) (by decide) <| .step 5 6 _ _ _ (by rfl) (by decide) (by decide) (by decide) <|
  .step 6 7 _ _ _ (by rfl) (by decide) (by decide) (by decide) <| .fin 7 _ _ (by rfl) rfl
def exN : List Nd := [⟨6, ⟨#[]⟩, 0, 2, 3⟩, ⟨6, ⟨#[]⟩, 0, 2, 1⟩, ⟨2, str [97], 0, 0, 0⟩, ⟨1, ⟨#[]⟩, 1, 0, 2⟩, ⟨7, ⟨#[]⟩, 0, 2, 5⟩, ⟨2, str [98], 0, 0, 4⟩, ⟨1, ⟨#[]⟩, 2, 0, 6⟩]
theorem ex_parse : parseI exT 0 = (exN, 7, 0) := by kernel_rfl
def exL2 : List UInt8 := [97, 43]
def exT2 : List Tok := [⟨1, str [97], 0, 0⟩, ⟨4, str [43], 0, 1⟩, ⟨0, str [], 0, 2⟩]
theorem ex_toks2 : Toks exL2 0 exT2 (2, 0) :=
  .step 0 1 _ _ _ (by rfl) (by decide) (by decide) (by decide) <| .step 1 2 _ _ _ (by rfl) (by decide) (by decide) (by decide) <| .fin 2 _ _ (by rfl) rfl
theorem ex_parse2 : parseI exT2 0 = ([], 2, 11) := by kernel_rfl
theorem ex_sizes : ∀ t ∈ exT, t.S.size ≤ maxLen := by
  intro t ht
  simp only [exT, List.mem_cons, List.not_mem_nil, or_false] at ht
  rcases ht with rfl | rfl | rfl | rfl | rfl | rfl | rfl | rfl <;> (unfold maxLen; decide)
theorem ex_sizes2 : ∀ t ∈ exT2, t.S.size ≤ maxLen := by
  intro t ht
  simp only [exT2, List.mem_cons, List.not_mem_nil, or_false] at ht
  rcases ht with rfl | rfl | rfl <;> (unfold maxLen; decide)
end Go.Proofs.Ytglmcjplglgnlaa
