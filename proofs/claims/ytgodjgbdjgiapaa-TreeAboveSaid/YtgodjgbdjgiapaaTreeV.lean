/-
  Rows of open nodes; the program's next.
-/
import Derived.Test.YtgodjgbdjgiapaaTreeU
import Derived.Laws.OwnMore
import Derived.RangeFuncBox
import Derived.WalkSmall
namespace Go.Proofs.Ytgodjgbdjgiapaa
open Go.RowKit Go.Joins

/-- The cells of open nodes. -/
def pcs : List (Nat × Nat) → List Value
  | [] => []
  | p :: r => .int .i64 (p.1 : Int) :: .int .i64 (p.2 : Int) :: pcs r
theorem pcs_append (a b : List (Nat × Nat)) : pcs (a ++ b) = pcs a ++ pcs b := by
  induction a with
  | nil => rfl
  | cons x a ih => rw [List.cons_append, pcs, pcs, ih]; rfl
theorem pcs_len : ∀ l, (pcs l).length = l.length * 2
  | [] => rfl
  | t :: r => by rw [pcs]; simp only [List.length_cons]; rw [pcs_len r]; omega
theorem pcs_at0 (o : List (Nat × Nat)) (p : Nat × Nat) : (pcs (o ++ [p]))[o.length * 2]? = some (.int .i64 (p.1 : Int)) := by
  rw [pcs_append, List.getElem?_append_right (by rw [pcs_len]; exact Nat.le_refl _), pcs_len, Nat.sub_self]; rfl
theorem pcs_at1 (o : List (Nat × Nat)) (p : Nat × Nat) : (pcs (o ++ [p]))[o.length * 2 + 1]? = some (.int .i64 (p.2 : Int)) := by
  rw [pcs_append, List.getElem?_append_right (by rw [pcs_len]; omega), pcs_len, Nat.add_sub_cancel_left]; rfl
theorem pcs_set (o : List (Nat × Nat)) (a s t : Nat) : (pcs (o ++ [(a, s)])).set (o.length * 2 + 1) (.int .i64 (t : Int)) = pcs (o ++ [(a, t)]) := by
  rw [pcs_append, pcs_append, List.set_append_right (h := by rw [pcs_len]; omega), pcs_len, Nat.add_sub_cancel_left]; rfl
theorem own_slice' {W : World} {B : Nat} {e : TypeId} {n len : Nat} {v : Value} {cs : List Value} (h : W.ownsRow B e n v len cs) : ∃ o c, v = .slice o len c := by
  rcases h.2 with ⟨rfl, rfl⟩ | ⟨g, cap, cur, rfl, _⟩
  · exact ⟨_, _, rfl⟩
  · exact ⟨_, _, rfl⟩
theorem own_to {W W' : World} {B : Nat} {e : TypeId} {n len : Nat} {v : Value} {cs : List Value} (h : W.ownsRow B e n v len cs) (hb : Below W.heap.size W W') : W'.ownsRow B e n v len cs :=
  h.kept (row := none) ⟨hb.os, hb.tape, hb.output, hb.size, fun j hj _ => hb.block j hj⟩ (by cases v.ownBlock <;> simp)
theorem own_cap {W : World} {B : Nat} {e : TypeId} {n len g cap : Nat} {cs : List Value} (h : W.ownsRow B e n (.slice (some ⟨g, 0, none⟩) len cap) len cs) : len ≤ cap := by
  rcases h.2 with ⟨h1, _⟩ | ⟨g', cap', cur, hv, _, _, hn, _⟩
  · cases h1
  · cases hv; exact hn
def lenV : Value → Nat
  | .slice _ n _ => n
  | _ => 0

/-- What next gives. -/
def NxtIs (l : List Nd) (stk : List (Nat × Nat)) (B : Nat) (w : World) (e : Ending) (w' : World) : Prop :=
  ∃ (u : Value) (o : List (Nat × Nat)) (c : UInt8), e = .returned (.tuple #[u, .int .u8 (ob c)]) ∧ NextIs l stk o c ∧ w'.ownsRow B 51 2 u o.length (pcs o) ∧ Below B w w'
/-- Between two rounds of next. -/
structure NxtAt (l : List Nd) (stk : List (Nat × Nat)) (B : Nat) (w : World) (o : List (Nat × Nat)) (u : Value) (wr : World) : Prop where
  own : wr.ownsRow B 51 2 u o.length (pcs o)
  below : Below B w wr
  lt : B ≤ wr.heap.size
  on : ∀ o' c, NextIs l o o' c → NextIs l stk o' c
  opens : Opens l o
  len : o.length ≤ stk.length
theorem snoc_of {α : Type} (o : List α) : o = [] ∨ ∃ q p, o = q ++ [p] := by
  rcases List.eq_nil_or_concat o with h | ⟨q, p, h⟩
  · exact .inl h
  · exact .inr ⟨q, p, by rw [h, List.concat_eq_append]⟩

set_option maxRecDepth 100000 in
set_option maxHeartbeats 8000000 in
theorem next_any (v : Value) (l : List Nd) (stk : List (Nat × Nat)) (u : Value) (B : Nat) (w : World) (hB : B ≤ w.heap.size) (h : NdRow B w v l) (hn : l.length ≤ 1000) (hk : stk.length ≤ 1001) (ho : Opens l stk)
    (hown : w.ownsRow B 51 2 u stk.length (pcs stk)) : Calls Try.prog 27 #[v, u] w fun e w' => NxtIs l stk B w e w' := by
  have H0 : Keep (NxtAt l stk B w stk u w) := ⟨hown, Below.refl _ _, hB, fun _ _ h => h, ho, Nat.le_refl _⟩
  obtain ⟨o0, c0, hu0⟩ := own_slice' hown
  obtain ⟨o, cap, rfl, hf⟩ := h.form
  have HF := keep hf
  have HLN := keep hn
  have HSK := keep hk
  clear h hf hn hk ho hown hB
  subst hu0
  go_enter Try.func27, Try.ntmps27
  go_wp2_with fail
  go_loopw [1] (fun uv wr => ∃ (q : List (Nat × Nat)) (oo : Option Addr) (cc : Nat), uv = .slice oo q.length cc ∧ Keep (NxtAt l stk B w q (.slice oo q.length cc) wr)) (fun uv _ => lenV uv)
  case atStart => exact ⟨stk, o0, c0, rfl, H0⟩
  case round =>
    obtain ⟨q, oo, cc, rfl, HA⟩ := hrel
    clear H0
    rcases snoc_of q with rfl | ⟨q, ⟨a, s⟩, rfl⟩
    · have HE := keep (HA.out.on _ _ (next_nil l))
      simp only [List.length_nil]
      go_wp2_with fail
      go_ret2
      exact ⟨_, [], 46, rfl, HE.out, HA.out.own, HA.out.below⟩
    · obtain ⟨x, hx, hfit, hsk⟩ := HA.out.opens (a, s) (by simp)
      simp only at hx hsk
      have hown := HA.out.own
      have hlen : (q ++ [(a, s)]).length = q.length + 1 := by simp
      rw [hlen] at hown
      obtain ⟨g, cap', hsl⟩ := ownsRow_succ hown
      rw [hsl] at hown
      injection hsl with e1 e2 e3
      subst e1 e3
      have hgl := hown.lt g rfl
      have hcap := own_cap hown
      have hal : a < l.length := (List.getElem?_eq_some_iff.1 hx).1
      have hcell0 : wr.cell? ⟨g, q.length * 2, none⟩ = some (.int .i64 (a : Int)) := by
        rw [hown.cellAt (q.length * 2) (by omega)]; exact pcs_at0 q (a, s)
      have hcell1 : wr.cell? ⟨g, q.length * 2 + 1, none⟩ = some (.int .i64 (s : Int)) := by
        rw [hown.cellAt (q.length * 2 + 1) (by omega)]; exact pcs_at1 q (a, s)
      have hfroz : wr.frozen? ⟨g, q.length * 2 + 1, none⟩ = false := hown.frozenAt _
      obtain ⟨hok, b, off, rfl, hb, hc⟩ := HF.out a x hx
      have HND := keep (hc wr HA.out.below)
      obtain ⟨n0, n1, n2, n3, n4⟩ := HND.out
      have hblt : b < wr.heap.size := Nat.lt_of_lt_of_le hb HA.out.lt
      have HQL : Keep (q.length ≤ 1000) := ⟨by have h1 := HA.out.len; have h2 := HSK.out; rw [hlen] at h1; omega⟩
      have hkk := (fits_told hfit).2
      obtain ⟨kk, hkkx⟩ : ∃ kk : Nat, x.K = (kk : Int) := ⟨x.K.toNat, by omega⟩
      have hkk2 := hok.k2
      have HOWN := keep hown
      have HX := keep hx
      have HFIT := keep hfit
      have HOPQ := keep (HA.out.opens.init)
      obtain ⟨m, hm⟩ : ∃ m, m = q.length := ⟨_, rfl⟩
      obtain ⟨N, hN⟩ : ∃ N, N = m + 1 := ⟨_, rfl⟩
      rw [hlen, ← hm, ← hN]
      rw [← hm] at hcell0 hcell1 hfroz
      have hcapN : m ≤ cc := by omega
      have hmI : (m : Int) ≤ 1000 := by have := HQL.out; omega
      have hm0 : (0 : Int) ≤ (m : Int) := by omega
      have hmN : (m : Int) < (N : Int) := by omega
      have hNN : (0 : Nat) < N := by omega
      have hw1 : IntKind.i64.wrap ((N : Int) - 1) = (m : Int) := by rw [show (N : Int) - 1 = (m : Int) by omega]; exact IntWalk.i64_in _ ⟨by omega, by omega⟩
      have haI : (a : Int) < (l.length : Int) := by omega
      have hgl2 := hgl.2
      have HHL := keep hgl.1
      have HM := keep hm
      have HN := keep hN
      have HBX : Keep (NCells (wr.alloc (.cells #[.int .i64 x.O, .string x.S, .int .i64 x.N, .int .i64 x.K, .int .i64 x.A] 39)) wr.heap.size x.O x.S x.N x.K x.A) := ⟨ncells_new wr _ _ _ _ _⟩
      have hlN : N = m + 1 := hN
      clear hown hlen hx hfit hb hc hok hgl hm hN hal hcap
      by_cases hsK : (s : Int) < x.K
      · have HE := keep (HA.out.on _ _ (next_hit (o := q) HOPQ.out HX.out HFIT.out hsK))
        have hd1 : decide ((s : Int) < x.K) = true := decide_eq_true hsK
        have hskk : s < kk := by omega
        have HRO := keep (fun W => rowOf_any x W)
        have HRC := keep (fun W => rclass_any (shpP x) s kk (shp_len x).1 (shp_len x).2 hskk (by omega) (by have := (fits_told HFIT.out).1; omega) W)
        rw [← hkkx] at HRC
        rw [show x.K.toNat = kk by omega] at HE
        obtain ⟨s1, hs1⟩ : ∃ s1, s1 = s + 1 := ⟨_, rfl⟩
        have hws : IntKind.i64.wrap ((s : Int) + 1) = (s1 : Int) := by rw [hs1, show ((s + 1 : Nat) : Int) = (s : Int) + 1 by omega]; exact IntWalk.i64_in _ ⟨by omega, by omega⟩
        have hws2 : IntKind.i64.wrap ((s1 : Int) - 1) = (s : Int) := by rw [show (s1 : Int) - 1 = (s : Int) by omega]; exact IntWalk.i64_in _ ⟨by omega, by omega⟩
        have HS1 := keep hs1
        unfold Nd.agg RowIs at HRO
        generalize (shpP x).cls s kk = C at *
        generalize (shpP x).agg = RV at *
        have HKX := keep hkkx
        clear hkk hkk2 hsk hsK hskk hs1 hkkx
        go_wp2_with fail
        go_quiet (fail)
        have HBD := keep (below_draws (wr.alloc (.cells #[.int .i64 x.O, .string x.S, .int .i64 x.N, .int .i64 x.K, .int .i64 x.A] 39)).heap.size (wr.alloc (.cells #[.int .i64 x.O, .string x.S, .int .i64 x.N, .int .i64 x.K, .int .i64 x.A] 39)) nq)
        generalize (wr.alloc (.cells #[.int .i64 x.O, .string x.S, .int .i64 x.N, .int .i64 x.K, .int .i64 x.A] 39)).drewN nq = W4 at *
        have hb1 := (Below.refl wr.heap.size wr).alloc (Nat.le_refl _) (.cells #[.int .i64 x.O, .string x.S, .int .i64 x.N, .int .i64 x.K, .int .i64 x.A] 39)
        have hb2 := hb1.trans (HBD.out.mono hb1.size)
        have HB2 := keep (HA.out.below.trans (hb2.mono HA.out.lt))
        have HLT2 := keep (Nat.le_trans HA.out.lt hb2.size)
        have HR2 := keep (own_to HOWN.out hb2)
        have HB4 := keep (HBX.out.to HBD.out)
        have hc1 : W4.cell? ⟨g, m * 2 + 1, none⟩ = some (.int .i64 (s : Int)) := (hb2.cell (p := ⟨g, m * 2 + 1, none⟩) hgl2).trans hcell1
        have hf1 : W4.frozen? ⟨g, m * 2 + 1, none⟩ = false := (hb2.frozen (p := ⟨g, m * 2 + 1, none⟩) hgl2).trans hfroz
        have hst := HR2.out.stored (m * 2 + 1) (.int .i64 (s1 : Int))
        rw [HM.out, HS1.out, pcs_set] at hst
        have HR5 := keep hst.1
        rw [← HM.out, ← HS1.out] at HR5
        have HC5 : Keep ((W4.setCell ⟨g, m * 2 + 1, none⟩ (.int .i64 (s1 : Int))).cell? ⟨g, m * 2 + 1, none⟩ = some (.int .i64 (s1 : Int))) := ⟨World.cell?_setCell_same _ _ _ hc1⟩
        have hgw : g < wr.heap.size := hgl2
        have hoth : ∀ j, (W4.setCell ⟨g, m * 2 + 1, none⟩ (.int .i64 (s1 : Int))).cell? ⟨wr.heap.size, j, none⟩ = W4.cell? ⟨wr.heap.size, j, none⟩ := fun j => World.cell?_setCell_other _ _ _ _ (by intro c; injection c with c1 c2; omega)
        have HN5 : Keep (NCells (W4.setCell ⟨g, m * 2 + 1, none⟩ (.int .i64 (s1 : Int))) wr.heap.size x.O x.S x.N x.K x.A) := ⟨(hoth 0).trans HB4.out.1, (hoth 1).trans HB4.out.2.1, (hoth 2).trans HB4.out.2.2.1, (hoth 3).trans HB4.out.2.2.2.1, (hoth 4).trans HB4.out.2.2.2.2⟩
        have HB5 := keep (HB2.out.setCell (p := ⟨g, m * 2 + 1, none⟩) HHL.out (.int .i64 (s1 : Int)))
        clear hb1 hb2 hst hoth hcell1 hfroz
        go_wp2_with fail
        generalize W4.setCell ⟨g, m * 2 + 1, none⟩ (.int .i64 (s1 : Int)) = W5 at *
        refine AnyGo.region (fun W' => (W'.cell? ⟨wr.heap.size, 0, none⟩ = some (.int .i64 x.O) ∧ W'.cell? ⟨wr.heap.size, 1, none⟩ = some (.string x.S) ∧ W'.cell? ⟨wr.heap.size, 2, none⟩ = some (.int .i64 x.N) ∧ W'.cell? ⟨wr.heap.size, 3, none⟩ = some (.int .i64 x.K) ∧ W'.cell? ⟨wr.heap.size, 4, none⟩ = some (.int .i64 x.A)) ∧ W'.cell? ⟨g, m * 2 + 1, none⟩ = some (.int .i64 (s1 : Int))) (by kernel_rfl) (by rfl) ⟨HN5.out, HC5.out⟩ ?_
        intro wd ewd
        subst ewd
        (refine AnyGo.take 0 (some 37) ?_ (a' := ?_) rfl (by kernel_rfl) (fun _ _ d _ _ h => by cases d <;> exact h) (by kernel_rfl) (by rfl) (by kernel_rfl) ?_ ?_ ?_; rotate_left 2; (focus (intro W hW; (try dsimp only at hW); go_simp; (try with_reducible rfl))); (focus (simp only [Act.put, List.setIfInBounds_toArray]; rfl)))
        (refine AnyGo.take 1 (some 38) ?_ (a' := ?_) rfl (by kernel_rfl) (fun _ _ d _ _ h => by cases d <;> exact h) (by kernel_rfl) (by rfl) (by kernel_rfl) ?_ ?_ ?_; rotate_left 2; (focus (intro W hW; (try dsimp only at hW); go_simp; (try with_reducible rfl))); (focus (simp only [Act.put, List.setIfInBounds_toArray]; rfl)))
        (refine AnyGo.take 3 (some 40) ?_ (a' := ?_) rfl (by kernel_rfl) (fun _ _ d _ _ h => by cases d <;> exact h) (by kernel_rfl) (by rfl) (by kernel_rfl) ?_ ?_ ?_; rotate_left 2; (focus (intro W hW; (try dsimp only at hW); go_simp; (try with_reducible rfl))); (focus (simp only [Act.put, List.setIfInBounds_toArray]; rfl)))
        (refine AnyGo.take 4 (some 41) ?_ (a' := ?_) rfl (by kernel_rfl) (fun _ _ d _ _ h => by cases d <;> exact h) (by kernel_rfl) (by rfl) (by kernel_rfl) ?_ ?_ ?_; rotate_left 2; (focus (intro W hW; (try dsimp only at hW); go_simp; (try with_reducible rfl))); (focus (simp only [Act.put, List.setIfInBounds_toArray]; rfl)))
        (refine AnyGo.take 5 (some 42) ?_ (a' := ?_) rfl (by kernel_rfl) (fun _ _ d _ _ h => by cases d <;> exact h) (by kernel_rfl) (by rfl) (by kernel_rfl) ?_ ?_ ?_; rotate_left 2; (focus (intro W hW; (try dsimp only at hW); go_simp; (try with_reducible rfl))); (focus (simp only [Act.put, List.setIfInBounds_toArray]; rfl)))
        (refine AnyGo.take 6 (some 43) ?_ (a' := ?_) rfl (by kernel_rfl) (fun _ _ d _ _ h => by cases d <;> exact h) (by kernel_rfl) (by rfl) (by kernel_rfl) ?_ ?_ ?_; rotate_left 2; (focus (intro W hW; (try dsimp only at hW); go_simp; (try with_reducible rfl))); (focus (simp only [Act.put, List.setIfInBounds_toArray]; rfl)))
        (refine AnyGo.take 7 (some 44) ?_ (a' := ?_) rfl (by kernel_rfl) (fun _ _ d _ _ h => by cases d <;> exact h) (by kernel_rfl) (by rfl) (by kernel_rfl) ?_ ?_ ?_; rotate_left 2; (focus (intro W hW; (try dsimp only at hW); go_simp; (try with_reducible rfl))); (focus (simp only [Act.put, List.setIfInBounds_toArray]; rfl)))
        (refine AnyGo.take 8 (some 45) ?_ (a' := ?_) rfl (by kernel_rfl) (fun _ _ d _ _ h => by cases d <;> exact h) (by kernel_rfl) (by rfl) (by kernel_rfl) ?_ ?_ ?_; rotate_left 2; (focus (intro W hW; (try dsimp only at hW); go_simp; (try with_reducible rfl))); (focus (simp only [Act.put, List.setIfInBounds_toArray]; rfl)))
        (refine AnyGo.take 9 (some 46) ?_ (a' := ?_) rfl (by kernel_rfl) (fun _ _ d _ _ h => by cases d <;> exact h) (by kernel_rfl) (by rfl) (by kernel_rfl) ?_ ?_ ?_; rotate_left 2; (focus (intro W hW; (try dsimp only at hW); go_simp; (try with_reducible rfl))); (focus (simp only [Act.put, List.setIfInBounds_toArray]; rfl)))
        refine AnyGo.one (i := 2) (by kernel_rfl) rfl (by kernel_rfl) (fun K' hK' => ?_)
        go_simp
        refine (HRO.out _).mono ?_
        rintro e w6 ⟨rfl, hb⟩
        have hglt5 : g < W5.drew.heap.size := World.block_lt_of_cell? W5 _ HC5.out
        have HN6 := keep (NCells.to (W := W5.drew) HN5.out hb)
        have HC6 := keep ((hb.cell (p := ⟨g, m * 2 + 1, none⟩) hglt5).trans HC5.out)
        have HLT5 := keep (show B ≤ W5.drew.heap.size from Nat.le_trans HHL.out (Nat.le_of_lt hglt5))
        have HB6 := keep (HB5.out.drew.trans (hb.mono HLT5.out))
        have HR6 := keep (own_to HR5.out.drew hb)
        have HLT6 := keep (Nat.le_trans HLT5.out hb.size)
        clear hb
        refine hK'.out _ _ ⟨HN6.out, HC6.out⟩ ?_
        clear hK' K'
        (try simp only [Act.put, List.setIfInBounds_toArray])
        refine AnyGo.one (i := 10) (by kernel_rfl) rfl (by kernel_rfl) (fun K' hK' => ?_)
        go_simp
        refine (HRC.out _).mono ?_
        rintro e w7 ⟨rfl, hb⟩
        have hglt6 : g < w6.heap.size := World.block_lt_of_cell? w6 _ HC6.out
        have HN7 := keep (HN6.out.to hb)
        have HC7 := keep ((hb.cell (p := ⟨g, m * 2 + 1, none⟩) hglt6).trans HC6.out)
        have HB7 := keep (HB6.out.trans (hb.mono HLT6.out))
        have HR7 := keep (own_to HR6.out hb)
        clear hb
        refine hK'.out _ _ ⟨HN7.out, HC7.out⟩ ?_
        clear hK' K'
        (try simp only [Act.put, List.setIfInBounds_toArray])
        (refine AnyGo.take 11 (some 4) ?_ (a' := ?_) rfl (by kernel_rfl) (fun _ _ d _ _ h => by cases d <;> exact h) (by kernel_rfl) (by rfl) (by kernel_rfl) ?_ ?_ ?_; rotate_left 2; (focus (intro W hW; (try dsimp only at hW); go_simp; (try with_reducible rfl))); (focus (simp only [Act.put, List.setIfInBounds_toArray]; rfl)))
        (refine AnyGo.take 12 (some 5) ?_ (a' := ?_) rfl (by kernel_rfl) (fun _ _ d _ _ h => by cases d <;> exact h) (by kernel_rfl) (by rfl) (by kernel_rfl) ?_ ?_ ?_; rotate_left 2; (focus (intro W hW; (try dsimp only at hW); go_simp; (try with_reducible rfl))); (focus (simp only [Act.put, List.setIfInBounds_toArray]; rfl)))
        refine AnyGo.fin (by kernel_rfl) ?_
        simp only [List.set_cons_succ, List.set_cons_zero]
        go_wp2_with fail
        go_ret2
        refine ⟨_, q ++ [(a, s1)], C, rfl, by rw [HS1.out]; exact HE.out, ?_, HB7.out⟩
        have hr := HR7.out
        subst hlN
        rw [show (q ++ [(a, s1)]).length = m + 1 by simp [HM.out]]
        rw [HS1.out] at hr ⊢
        exact hr
      · have HE := keep (fun o' c hh => HA.out.on o' c (next_pop (o := q) (o' := o') (c := c) HX.out HFIT.out (by omega : x.K ≤ (s : Int)) hh))
        have hd1 : decide ((s : Int) < x.K) = false := decide_eq_false hsK
        have HPOP : Keep (wr.ownsRow B 51 2 (.slice (some ⟨g, 0, none⟩) q.length cc) q.length (pcs q)) := ⟨ownsRow_pop (pcs_len q) (by rw [← pcs_append]; exact HOWN.out)⟩
        have HLE : Keep (q.length ≤ stk.length) := ⟨by have := HA.out.len; simp at this; omega⟩
        clear hkk hkkx hkk2 hsk
        go_wp2_with fail
        go_quiet (fail)
        have HBD := keep (below_draws (wr.alloc (.cells #[.int .i64 x.O, .string x.S, .int .i64 x.N, .int .i64 x.K, .int .i64 x.A] 39)).heap.size (wr.alloc (.cells #[.int .i64 x.O, .string x.S, .int .i64 x.N, .int .i64 x.K, .int .i64 x.A] 39)) nq)
        generalize (wr.alloc (.cells #[.int .i64 x.O, .string x.S, .int .i64 x.N, .int .i64 x.K, .int .i64 x.A] 39)).drewN nq = W4 at *
        go_wp2_with fail
        go_roundw
        case rel =>
          have hb1 := (Below.refl wr.heap.size wr).alloc (Nat.le_refl _) (.cells #[.int .i64 x.O, .string x.S, .int .i64 x.N, .int .i64 x.K, .int .i64 x.A] 39)
          have hb2 := hb1.trans (HBD.out.mono hb1.size)
          exact ⟨q, _, cc, by rw [HM.out], ⟨own_to HPOP.out hb2, HA.out.below.trans (hb2.mono HA.out.lt), Nat.le_trans HA.out.lt hb2.size, HE.out, HOPQ.out, HLE.out⟩⟩
        case measure => simp [lenV]; omega
end Go.Proofs.Ytgodjgbdjgiapaa
