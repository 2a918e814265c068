/-
  Rows of nodes that grow, and what is kept beside them; a node stored anew; put.
-/
import Derived.Test.YtglmcjplglgnlaaTermR
import Derived.Test.YtglmcjplglgnlaaAny
import Derived.Test.YtglmcjplglgnlaaTokZ
import Derived.Maps.AppendAt
import Derived.Laws.CopyOwn
namespace Go.Proofs.Ytglmcjplglgnlaa
open Go.RowKit Go.Joins

/-! ### What is kept: all but the reader's block and the nodes' row -/
/-- All that was there is as it was, but for block d and the row r; the new row is the old one or a new block. -/
structure RKept (d : Nat) (r r' : Option Nat) (w w' : World) : Prop where
  os : w'.os = w.os
  tape : w'.tape = w.tape
  output : w'.output = w.output
  size : w.heap.size ≤ w'.heap.size
  block : ∀ k, k < w.heap.size → k ≠ d → r ≠ some k → w'.heap[k]? = w.heap[k]?
  row : ∀ k, r' = some k → r = some k ∨ w.heap.size ≤ k
theorem RKept.refl (d : Nat) (r : Option Nat) (w : World) : RKept d r r w w := ⟨rfl, rfl, rfl, Nat.le_refl _, fun _ _ _ _ => rfl, fun _ h => .inl h⟩
theorem RKept.trans {d : Nat} {r r' r'' : Option Nat} {x y z : World} (h : RKept d r r' x y) (k : RKept d r' r'' y z) : RKept d r r'' x z :=
  ⟨k.os.trans h.os, k.tape.trans h.tape, k.output.trans h.output, Nat.le_trans h.size k.size, fun i hi hd hr => by
    rw [k.block i (Nat.lt_of_lt_of_le hi h.size) hd (fun e => by rcases h.row i e with e | e; exact hr e; omega)]
    exact h.block i hi hd hr, fun i e => by
    rcases k.row i e with e | e
    · exact h.row i e
    · exact .inr (Nat.le_trans h.size e)⟩
theorem RKept.of {d : Nat} {r : Option Nat} {w w' : World} (h : Below w.heap.size w w') : RKept d r r w w' := ⟨h.os, h.tape, h.output, h.size, fun k hk _ _ => h.block k hk, fun _ e => .inl e⟩
theorem RKept.cell {d : Nat} {r : Option Nat} {w w' : World} (h : w.grownBy w' (some d)) : RKept d r r w w' :=
  ⟨h.os, h.tape, h.output, h.size, fun k hk hd _ => h.block k hk (fun e => by injection e with e; exact hd e), fun _ e => .inl e⟩
theorem RKept.grown {d : Nat} {r r' : Option Nat} {w w' : World} (h : w.grownBy w' r) (hr : r' = r ∨ r' = some w.heap.size) : RKept d r r' w w' :=
  ⟨h.os, h.tape, h.output, h.size, fun k hk _ hr => h.block k hk (fun e => hr e.symm), fun k e => by
    rcases hr with hr | hr
    · exact .inl (hr ▸ e)
    · rw [hr] at e; injection e with e; exact .inr (by omega)⟩
theorem RKept.below {d : Nat} {r r' : Option Nat} {w w' : World} {B : Nat} (h : RKept d r r' w w') (hd : B ≤ d) (hr : ∀ k, r = some k → B ≤ k) (hB : B ≤ w.heap.size) : Below B w w' :=
  ⟨h.os, h.tape, h.output, h.size, fun k hk => h.block k (by omega) (by omega) (fun e => by have := hr k e; omega)⟩
theorem RKept.drewN {d : Nat} {r r' : Option Nat} {w w' : World} (h : RKept d r r' w w') (n : Nat) : RKept d r r' w (w'.drewN n) := ⟨h.os, h.tape, h.output, h.size, h.block, h.row⟩
theorem RKept.box {d : Nat} {r r' : Option Nat} {w w' : World} {b : Nat} {vs : List Value} (h : RKept d r r' w w') (hb : BoxL w b vs) (hd : b ≠ d) (hr : r ≠ some b) : BoxL w' b vs := by
  have hk := h.block b hb.lt hd hr
  exact ⟨fun i v hi => (World.cell?_of_block (a := ⟨b, i, none⟩) hk).trans (hb.row i v hi), fun i => (World.frozen?_of_block (a := ⟨b, i, none⟩) hk).trans (hb.free i), Nat.lt_of_lt_of_le hb.lt h.size⟩
theorem RKept.own {d : Nat} {r r' : Option Nat} {w w' : World} {B : Nat} {e : TypeId} {n len : Nat} {v : Value} {cs : List Value} (h : RKept d r r' w w') (ho : w.ownsRow B e n v len cs) (hd : ∀ k, v.ownBlock = some k → k ≠ d ∧ r ≠ some k) : w'.ownsRow B e n v len cs := by
  refine ⟨ho.1, ?_⟩
  rcases ho.2 with hn | ⟨g, cap, cur, rfl, hb, hgg, rest⟩
  · exact .inl hn
  · refine .inr ⟨g, cap, cur, rfl, hb, ?_, rest⟩
    obtain ⟨h1, h2⟩ := hd g rfl
    rw [h.block g (Array.getElem?_eq_some_iff.1 hgg).1 h1 h2]
    exact hgg
theorem own_drewN {w : World} {B : Nat} {e : TypeId} {n len : Nat} {v : Value} {cs : List Value} (ho : w.ownsRow B e n v len cs) (k : Nat) : (w.drewN k).ownsRow B e n v len cs := ho
theorem own_mono {w : World} {B B' : Nat} {e : TypeId} {n len : Nat} {v : Value} {cs : List Value} (ho : w.ownsRow B e n v len cs) (h : B' ≤ B) : w.ownsRow B' e n v len cs := by
  refine ⟨ho.1, ?_⟩
  rcases ho.2 with hn | ⟨g, cap, cur, rfl, hb, rest⟩
  · exact .inl hn
  · exact .inr ⟨g, cap, cur, rfl, by omega, rest⟩
/-- Another block is stored in. -/
theorem own_other {w : World} {B : Nat} {e : TypeId} {n len : Nat} {v : Value} {cs : List Value} (ho : w.ownsRow B e n v len cs) (b i : Nat) (x : Value) (hb : v.ownBlock ≠ some b) : (w.setCell ⟨b, i, none⟩ x).ownsRow B e n v len cs :=
  ho.kept (grown_at w b i x) (.inr hb)

/-! ### Rows of nodes -/
/-- The slice v reads as the nodes, in a block below B. -/
structure NRow (B : Nat) (w : World) (v : Value) (l : List Nd) : Prop where
  room : l.length ≤ 1000000
  out : (l = [] ∧ ∃ o cap, v = .slice o 0 cap) ∨ ∃ b off cap, v = .slice (some ⟨b, off, none⟩) l.length cap ∧ b < B ∧ ∀ j u, (ncs l)[j]? = some u → w.cell? ⟨b, off + j, none⟩ = some u
theorem NRow.below {B : Nat} {w w' : World} {v : Value} {l : List Nd} (h : NRow B w v l) (hb : Below B w w') : NRow B w' v l := by
  refine ⟨h.room, ?_⟩
  rcases h.out with h | ⟨b, off, cap, h1, h2, h3⟩
  · exact .inl h
  · exact .inr ⟨b, off, cap, h1, h2, fun j u hj => (hb.cell (p := ⟨b, off + j, none⟩) h2).trans (h3 j u hj)⟩
theorem NRow.mono {B B' : Nat} {w : World} {v : Value} {l : List Nd} (h : NRow B w v l) (hb : B ≤ B') : NRow B' w v l := by
  refine ⟨h.room, ?_⟩
  rcases h.out with h | ⟨b, off, cap, h1, h2, h3⟩
  · exact .inl h
  · exact .inr ⟨b, off, cap, h1, by omega, h3⟩
theorem NRow.to {w w' : World} {v : Value} {l : List Nd} (h : NRow w.heap.size w v l) (hb : Below w.heap.size w w') : NRow w'.heap.size w' v l := (h.below hb).mono hb.size
theorem NRow.nil (B : Nat) (w : World) : NRow B w (.slice none 0 0) [] := ⟨by simp, .inl ⟨rfl, _, _, rfl⟩⟩
theorem NRow.of_own {B : Nat} {w : World} {v : Value} {l : List Nd} (h : w.ownsRow B 42 5 v l.length (ncs l)) (hl : l.length ≤ 1000000) : NRow w.heap.size w v l := by
  refine ⟨hl, ?_⟩
  rcases h.2 with ⟨rfl, h0⟩ | ⟨g, cap, cur, rfl, hb, hg, hcap, _⟩
  · exact .inl ⟨List.length_eq_zero_iff.1 h0, _, _, rfl⟩
  · refine .inr ⟨g, 0, cap, rfl, (Array.getElem?_eq_some_iff.1 hg).1, fun j u hj => ?_⟩
    have ea : ∀ j, (⟨g, 0, none⟩ : Addr).add j = ⟨g, 0 + j, none⟩ := fun j => by unfold Addr.add; split <;> simp_all
    rw [← ea]
    exact h.cells (g := g) rfl j _ hj
theorem NRow.form {B : Nat} {w : World} {v : Value} {l : List Nd} (h : NRow B w v l) : ∃ o cap, v = .slice o l.length cap ∧ ∀ i x, l[i]? = some x → ∃ b off, o = some ⟨b, off, none⟩ ∧ b < B ∧ ∀ W, Below B w W → NdAt W b (off + i * 5) x := by
  rcases h.out with ⟨rfl, o, cap, rfl⟩ | ⟨b, off, cap, rfl, hb, hc⟩
  · exact ⟨o, cap, rfl, fun i x hi => by simp at hi⟩
  · refine ⟨_, cap, rfl, fun i x hi => ⟨b, off, rfl, hb, fun W hW => ?_⟩⟩
    have key : ∀ j u, x.cs[j]? = some u → W.cell? ⟨b, off + i * 5 + j, none⟩ = some u := fun j u hj => by
      rw [Nat.add_assoc]
      exact (hW.cell (p := ⟨b, off + (i * 5 + j), none⟩) hb).trans (hc _ u (ncs_at l i x hi j u hj))
    exact ⟨key 0 _ rfl, key 1 _ rfl, key 2 _ rfl, key 3 _ rfl, key 4 _ rfl⟩
theorem ncs_one : ∀ (l : List Nd), ∀ u ∈ ncs l, u.oneCell' = true
  | [], u, h => by simp [ncs] at h
  | x :: l, u, h => by
    rw [ncs] at h
    simp only [List.mem_cons] at h
    rcases h with rfl | rfl | rfl | rfl | rfl | h
    · rfl
    · rfl
    · rfl
    · rfl
    · rfl
    · exact ncs_one l u h

theorem elN : (Try.prog.info? 42).map (fun i => (i.zero, i.size, i.bytes)) = some (some (.agg #[.int .i64 0, .string ⟨#[]⟩, .int .i64 0, .int .i64 0, .int .i64 0]), 5, 48) := by kernel_rfl
/-- append, as one step: nodes that lie somewhere, behind a row. -/
theorem wp_append_nds {o : Oper} {a : Act} {W : World} {K : Act → World → Prop} {Q : Exit → Act → World → Prop} (s x : Operand)
    (ho : o.op = .call { callee := .builtin .append, args := #[s, x], argTypes := #[24, 24] })
    (B : Nat) (v : Value) (l : List Nd) (hs : a.eval s = v) (h : W.ownsRow B 42 5 v l.length (ncs l)) (hB : B ≤ W.heap.size) (b off m c : Nat) (ms : List Nd) (hx : a.eval x = .slice (some ⟨b, off, none⟩) m c) (hm : ms.length = m) (hl : l.length + m ≤ 1000000)
    (ha : ∀ j u, (ncs ms)[j]? = some u → W.cell? ⟨b, off + j, none⟩ = some u) (ds : Option Tmp) (hds : o.dst = ds)
    (hK : ∀ v' W', W'.ownsRow B 42 5 v' (l ++ ms).length (ncs (l ++ ms)) → W.grownBy W' v.ownBlock → (v'.ownBlock = v.ownBlock ∨ v'.ownBlock = some W.heap.size) → K (a.put ds v') W') : Oper.wp Try.prog o a W K Q := by
  subst hds hm
  obtain ⟨i0, hi, hz0, hz1, hz2⟩ := info_parts elN
  obtain ⟨v', w', hr, h2, h3, _, h5⟩ := run_append_own_at (P := Try.prog) W B 24 o.type 42 i0 (.agg #[.int .i64 0, .string ⟨#[]⟩, .int .i64 0, .int .i64 0, .int .i64 0]) 5 48 Try.underlying24 hi hz0 hz1 hz2 rfl (by decide) v l.length (ncs l) h ⟨b, off, none⟩ ms.length c (ncs ms) (ncs_len ms)
    (fun j u hj => by rw [Addr.add_mid]; exact ha j u hj) (ncs_one ms) (by unfold maxLen; omega) (by omega) hB
  unfold Oper.wp execOp
  simp only [ho, resolve, invoke, builtin, Sem.run_bind, Sem.run_pure, Result.andThen_ok, List.map_toArray, List.map_cons, List.map_nil, hs, hx, hr]
  exact hK v' w' (by rw [List.length_append, ncs_append]; exact h2) h3 h5
theorem wpList_append_nds {ops : Array Oper} {rest : List Oper} {o : Oper} {a : Act} {W : World} {Q : Exit → Act → World → Prop} (hgd : o.guard = none) (s x : Operand)
    (ho : o.op = .call { callee := .builtin .append, args := #[s, x], argTypes := #[24, 24] })
    (B : Nat) (v : Value) (l : List Nd) (hs : a.eval s = v) (h : W.ownsRow B 42 5 v l.length (ncs l)) (hB : B ≤ W.heap.size) (b off m c : Nat) (ms : List Nd) (hx : a.eval x = .slice (some ⟨b, off, none⟩) m c) (hm : ms.length = m) (hl : l.length + m ≤ 1000000)
    (ha : ∀ j u, (ncs ms)[j]? = some u → W.cell? ⟨b, off + j, none⟩ = some u)
    (hK : ∀ v' W', W'.ownsRow B 42 5 v' (l ++ ms).length (ncs (l ++ ms)) → W.grownBy W' v.ownBlock → (v'.ownBlock = v.ownBlock ∨ v'.ownBlock = some W.heap.size) → wpList Try.prog ops Q rest (a.put o.dst v') W') : wpList Try.prog ops Q (o :: rest) a W :=
  wpList_plain hgd fun _ hKK => wp_append_nds s x ho B v l hs h hB b off m c ms hx hm hl ha _ rfl fun v' w' h2 h3 h4 => hKK _ _ (hK v' w' h2 h3 h4)
theorem nd_cells {W : World} {b : Nat} {x : Nd} (h : BoxL W b [.int .i64 x.O, .string x.S, .int .i64 x.N, .int .i64 x.K, .int .i64 x.A]) : ∀ j u, (ncs [x])[j]? = some u → W.cell? ⟨b, 0 + j, none⟩ = some u := fun j u hj => by rw [Nat.zero_add]; exact h.row j u hj

/-- What put leaves: the place is one on, the row is longer by x. -/
def PutTo (b : Nat) (tv nv kv : Value) (i : Nat) (l : List Nd) (w : World) (e : Ending) (w' : World) : Prop :=
  e = .returned (.tuple #[]) ∧ ∃ nv', BoxL w' b [tv, .int .i64 i, nv', kv] ∧ w'.ownsRow (b + 1) 42 5 nv' l.length (ncs l) ∧ RKept b nv.ownBlock nv'.ownBlock w w'

set_option maxRecDepth 100000 in
set_option maxHeartbeats 4000000 in
theorem put_any (b : Nat) (tv nv kv : Value) (i : Nat) (l : List Nd) (x : Nd) (hi : i ≤ 1000000) (hl : l.length ≤ 100000) (w : World) (hb : BoxL w b [tv, .int .i64 i, nv, kv]) (ho : w.ownsRow (b + 1) 42 5 nv l.length (ncs l)) :
    Calls Try.prog 38 #[.pointer (some ⟨b, 0, none⟩), x.agg] w fun e w' => PutTo b tv nv kv (i + 1) (l ++ [x]) w e w' := by
  obtain ⟨ao, al, ac, rfl⟩ := own_slice' ho
  have HB := keep hb
  have HO := keep ho
  have HL := keep hl
  have hbl := hb.lt
  have HX := keep (BoxL.new w [.int .i64 x.O, .string x.S, .int .i64 x.N, .int .i64 x.K, .int .i64 x.A] 42)
  have HB1 := keep (hb.alloc (.cells #[.int .i64 x.O, .string x.S, .int .i64 x.N, .int .i64 x.K, .int .i64 x.A] 42))
  have c2 := HB1.out.row 2 _ rfl
  have n0 := HX.out.row 0 _ rfl
  have n1 := HX.out.row 1 _ rfl
  have n2 := HX.out.row 2 _ rfl
  have n3 := HX.out.row 3 _ rfl
  have n4 := HX.out.row 4 _ rfl
  unfold Nd.agg
  clear hb ho hl
  go_enter Try.func38, Try.ntmps38
  go_wp2_with fail
  refine AnyGo.region (fun W' => W'.cell? ⟨w.heap.size, 0, none⟩ = some (.int .i64 x.O) ∧ W'.cell? ⟨w.heap.size, 1, none⟩ = some (.string x.S) ∧ W'.cell? ⟨w.heap.size, 2, none⟩ = some (.int .i64 x.N) ∧ W'.cell? ⟨w.heap.size, 3, none⟩ = some (.int .i64 x.K) ∧ W'.cell? ⟨w.heap.size, 4, none⟩ = some (.int .i64 x.A)) (by kernel_rfl) (by rfl) ⟨n0, n1, n2, n3, n4⟩ ?_
  intro wd ewd
  subst ewd
  (refine AnyGo.take 0 (some 4) ?_ (a' := ?_) rfl (by kernel_rfl) (fun _ _ d _ _ h => by cases d <;> exact h) (by kernel_rfl) (by rfl) (by kernel_rfl) ?_ ?_ ?_; rotate_left 2; (focus (intro W hW; (try dsimp only at hW); go_simp; (try with_reducible rfl))); (focus (simp only [Act.put, List.setIfInBounds_toArray]; rfl)))
  (refine AnyGo.take 1 (some 5) ?_ (a' := ?_) rfl (by kernel_rfl) (fun _ _ d _ _ h => by cases d <;> exact h) (by kernel_rfl) (by rfl) (by kernel_rfl) ?_ ?_ ?_; rotate_left 2; (focus (intro W hW; (try dsimp only at hW); go_simp; (try with_reducible rfl))); (focus (simp only [Act.put, List.setIfInBounds_toArray]; rfl)))
  (refine AnyGo.take 2 (some 6) ?_ (a' := ?_) rfl (by kernel_rfl) (fun _ _ d _ _ h => by cases d <;> exact h) (by kernel_rfl) (by rfl) (by kernel_rfl) ?_ ?_ ?_; rotate_left 2; (focus (intro W hW; (try dsimp only at hW); go_simp; (try with_reducible rfl))); (focus (simp only [Act.put, List.setIfInBounds_toArray]; rfl)))
  (refine AnyGo.take 3 (some 7) ?_ (a' := ?_) rfl (by kernel_rfl) (fun _ _ d _ _ h => by cases d <;> exact h) (by kernel_rfl) (by rfl) (by kernel_rfl) ?_ ?_ ?_; rotate_left 2; (focus (intro W hW; (try dsimp only at hW); go_simp; (try with_reducible rfl))); (focus (simp only [Act.put, List.setIfInBounds_toArray]; rfl)))
  (refine AnyGo.take 5 (some 9) ?_ (a' := ?_) rfl (by kernel_rfl) (fun _ _ d _ _ h => by cases d <;> exact h) (by kernel_rfl) (by rfl) (by kernel_rfl) ?_ ?_ ?_; rotate_left 2; (focus (intro W hW; (try dsimp only at hW); go_simp; (try with_reducible rfl))); (focus (simp only [Act.put, List.setIfInBounds_toArray]; rfl)))
  have HX2 := keep ((BoxL.new (w.alloc (.cells #[.int .i64 x.O, .string x.S, .int .i64 x.N, .int .i64 x.K, .int .i64 x.A] 42)) [.int .i64 x.O, .string x.S, .int .i64 x.N, .int .i64 x.K, .int .i64 x.A] 42).drew)
  rw [World.size_alloc] at HX2
  have HX1 := keep ((HX.out.alloc (.cells #[.int .i64 x.O, .string x.S, .int .i64 x.N, .int .i64 x.K, .int .i64 x.A] 42)).drew)
  have HB2 := keep ((HB1.out.alloc (.cells #[.int .i64 x.O, .string x.S, .int .i64 x.N, .int .i64 x.K, .int .i64 x.A] 42)).drew)
  have HW2 : Keep (Below w.heap.size w ((w.alloc (.cells #[.int .i64 x.O, .string x.S, .int .i64 x.N, .int .i64 x.K, .int .i64 x.A] 42)).alloc (.cells #[.int .i64 x.O, .string x.S, .int .i64 x.N, .int .i64 x.K, .int .i64 x.A] 42)).drew) := keep (((Below.refl _ w).alloc (Nat.le_refl _) _).alloc (by simp) _).drew
  have HO2 := keep (own_to HO.out HW2.out)
  have c2' := HB2.out.row 2 _ rfl
  refine AnyGo.two (i := 4) (j := 6) (by kernel_rfl) rfl rfl (by kernel_rfl) (by kernel_rfl) (fun K' hK' => ?_) (fun K' hK' => ?_)
  · go_simp
    refine hK'.out _ _ ⟨HX.out.drew.row 0 _ rfl, HX.out.drew.row 1 _ rfl, HX.out.drew.row 2 _ rfl, HX.out.drew.row 3 _ rfl, HX.out.drew.row 4 _ rfl⟩ ?_
    clear hK' K'
    (try simp only [Act.put, List.setIfInBounds_toArray])
    refine AnyGo.one (i := 6) (by kernel_rfl) rfl (by kernel_rfl) (fun K' hK' => ?_)
    go_simp
    refine hK'.out _ _ ⟨HX1.out.row 0 _ rfl, HX1.out.row 1 _ rfl, HX1.out.row 2 _ rfl, HX1.out.row 3 _ rfl, HX1.out.row 4 _ rfl⟩ ?_
    clear hK' K'
    (try simp only [Act.put, List.setIfInBounds_toArray])
    clear c2 c2' n0 n1 n2 n3 n4
    refine AnyGo.one (i := 7) (by kernel_rfl) rfl (by kernel_rfl) (fun K' hK' => ?_)
    refine wp_append_nds (.tmp 8) (.tmp 10) rfl (b + 1) (.slice ao al ac) l rfl HO2.out (by have := HB2.out.lt; omega) (w.heap.size + 1) 0 1 1 [x] rfl rfl (by have := HL.out; omega) (nd_cells HX2.out) (some 11) rfl ?_
    intro v' w3 ho3 hg3 hat3
    have hrow := HO2.out.lt
    obtain ⟨o', n', c', rfl⟩ := own_slice' ho3
    have hnx : some w.heap.size ≠ (Value.slice ao al ac).ownBlock := fun e => by have := (HO.out.lt _ e.symm).2; omega
    have hnb : some b ≠ (Value.slice ao al ac).ownBlock := fun e => by have := (HO.out.lt _ e.symm).1; omega
    have HX3 := keep (HX1.out.grown hg3 hnx)
    have HB3 := keep (HB2.out.grown hg3 hnb)
    have HO3 := keep ho3
    have HK3 := keep ((RKept.of (d := b) (r := (Value.slice ao al ac).ownBlock) HW2.out).trans (RKept.grown hg3 hat3))
    refine hK'.out _ _ ⟨HX3.out.row 0 _ rfl, HX3.out.row 1 _ rfl, HX3.out.row 2 _ rfl, HX3.out.row 3 _ rfl, HX3.out.row 4 _ rfl⟩ ?_
    clear hK' K' hg3 ho3 hat3 hrow hnx hnb
    (try simp only [Act.put, List.setIfInBounds_toArray])
    (refine AnyGo.take 8 (some 12) ?_ (a' := ?_) rfl (by kernel_rfl) (fun _ _ d _ _ h => by cases d <;> exact h) (by kernel_rfl) (by rfl) (by kernel_rfl) ?_ ?_ ?_; rotate_left 2; (focus (intro W hW; (try dsimp only at hW); go_simp; (try with_reducible rfl))); (focus (simp only [Act.put, List.setIfInBounds_toArray]; rfl)))
    (refine AnyGo.take 9 (some 13) ?_ (a' := ?_) rfl (by kernel_rfl) (fun _ _ d _ _ h => by cases d <;> exact h) (by kernel_rfl) (by rfl) (by kernel_rfl) ?_ ?_ ?_; rotate_left 2; (focus (intro W hW; (try dsimp only at hW); go_simp; (try with_reducible rfl))); (focus (simp only [Act.put, List.setIfInBounds_toArray]; rfl)))
    have cb := HB3.out.row 2 _ rfl
    have fb := HB3.out.free 2
    refine AnyGo.one (i := 10) (by kernel_rfl) rfl (by kernel_rfl) (fun K' hK' => ?_)
    go_simp
    have HX4 := keep (HX3.out.other (p := ⟨b, 2, none⟩) (.slice o' n' c') (by simp; omega))
    refine hK'.out _ _ ⟨HX4.out.row 0 _ rfl, HX4.out.row 1 _ rfl, HX4.out.row 2 _ rfl, HX4.out.row 3 _ rfl, HX4.out.row 4 _ rfl⟩ ?_
    clear hK' K' cb fb
    (try simp only [Act.put, List.setIfInBounds_toArray])
    refine AnyGo.fin (by kernel_rfl) ?_
    (try simp only [List.set_cons_succ, List.set_cons_zero])
    have HB4 := keep (HB3.out.set 2 (.slice o' n' c') (by simp))
    have hne : (Value.slice o' n' c').ownBlock ≠ some b := fun e => by have := (HO3.out.lt _ e).1; omega
    have HO5 := keep (own_other (own_other HO3.out b 2 (.slice o' n' c') hne) b 1 (.int .i64 ((i : Int) + 1)) hne)
    have HB5 := keep (HB4.out.set 1 (.int .i64 ((i : Int) + 1)) (by simp))
    have HK5 := keep ((HK3.out.trans (RKept.cell (d := b) (grown_at w3 b 2 (.slice o' n' c')))).trans (RKept.cell (grown_at (w3.setCell ⟨b, 2, none⟩ (.slice o' n' c')) b 1 (.int .i64 ((i : Int) + 1)))))
    have d1 := HB4.out.row 1 _ rfl
    have e1 := HB4.out.free 1
    go_wp2_with fail
    go_end0
    exact ⟨rfl, _, HB5.out, HO5.out, HK5.out⟩
  · go_simp
    refine hK'.out _ _ ⟨HX1.out.row 0 _ rfl, HX1.out.row 1 _ rfl, HX1.out.row 2 _ rfl, HX1.out.row 3 _ rfl, HX1.out.row 4 _ rfl⟩ ?_
    clear hK' K'
    (try simp only [Act.put, List.setIfInBounds_toArray])
    refine AnyGo.one (i := 4) (by kernel_rfl) rfl (by kernel_rfl) (fun K' hK' => ?_)
    go_simp
    refine hK'.out _ _ ⟨HX1.out.row 0 _ rfl, HX1.out.row 1 _ rfl, HX1.out.row 2 _ rfl, HX1.out.row 3 _ rfl, HX1.out.row 4 _ rfl⟩ ?_
    clear hK' K'
    (try simp only [Act.put, List.setIfInBounds_toArray])
    clear c2 c2' n0 n1 n2 n3 n4
    refine AnyGo.one (i := 7) (by kernel_rfl) rfl (by kernel_rfl) (fun K' hK' => ?_)
    refine wp_append_nds (.tmp 8) (.tmp 10) rfl (b + 1) (.slice ao al ac) l rfl HO2.out (by have := HB2.out.lt; omega) (w.heap.size + 1) 0 1 1 [x] rfl rfl (by have := HL.out; omega) (nd_cells HX2.out) (some 11) rfl ?_
    intro v' w3 ho3 hg3 hat3
    have hrow := HO2.out.lt
    obtain ⟨o', n', c', rfl⟩ := own_slice' ho3
    have hnx : some w.heap.size ≠ (Value.slice ao al ac).ownBlock := fun e => by have := (HO.out.lt _ e.symm).2; omega
    have hnb : some b ≠ (Value.slice ao al ac).ownBlock := fun e => by have := (HO.out.lt _ e.symm).1; omega
    have HX3 := keep (HX1.out.grown hg3 hnx)
    have HB3 := keep (HB2.out.grown hg3 hnb)
    have HO3 := keep ho3
    have HK3 := keep ((RKept.of (d := b) (r := (Value.slice ao al ac).ownBlock) HW2.out).trans (RKept.grown hg3 hat3))
    refine hK'.out _ _ ⟨HX3.out.row 0 _ rfl, HX3.out.row 1 _ rfl, HX3.out.row 2 _ rfl, HX3.out.row 3 _ rfl, HX3.out.row 4 _ rfl⟩ ?_
    clear hK' K' hg3 ho3 hat3 hrow hnx hnb
    (try simp only [Act.put, List.setIfInBounds_toArray])
    (refine AnyGo.take 8 (some 12) ?_ (a' := ?_) rfl (by kernel_rfl) (fun _ _ d _ _ h => by cases d <;> exact h) (by kernel_rfl) (by rfl) (by kernel_rfl) ?_ ?_ ?_; rotate_left 2; (focus (intro W hW; (try dsimp only at hW); go_simp; (try with_reducible rfl))); (focus (simp only [Act.put, List.setIfInBounds_toArray]; rfl)))
    (refine AnyGo.take 9 (some 13) ?_ (a' := ?_) rfl (by kernel_rfl) (fun _ _ d _ _ h => by cases d <;> exact h) (by kernel_rfl) (by rfl) (by kernel_rfl) ?_ ?_ ?_; rotate_left 2; (focus (intro W hW; (try dsimp only at hW); go_simp; (try with_reducible rfl))); (focus (simp only [Act.put, List.setIfInBounds_toArray]; rfl)))
    have cb := HB3.out.row 2 _ rfl
    have fb := HB3.out.free 2
    refine AnyGo.one (i := 10) (by kernel_rfl) rfl (by kernel_rfl) (fun K' hK' => ?_)
    go_simp
    have HX4 := keep (HX3.out.other (p := ⟨b, 2, none⟩) (.slice o' n' c') (by simp; omega))
    refine hK'.out _ _ ⟨HX4.out.row 0 _ rfl, HX4.out.row 1 _ rfl, HX4.out.row 2 _ rfl, HX4.out.row 3 _ rfl, HX4.out.row 4 _ rfl⟩ ?_
    clear hK' K' cb fb
    (try simp only [Act.put, List.setIfInBounds_toArray])
    refine AnyGo.fin (by kernel_rfl) ?_
    (try simp only [List.set_cons_succ, List.set_cons_zero])
    have HB4 := keep (HB3.out.set 2 (.slice o' n' c') (by simp))
    have hne : (Value.slice o' n' c').ownBlock ≠ some b := fun e => by have := (HO3.out.lt _ e).1; omega
    have HO5 := keep (own_other (own_other HO3.out b 2 (.slice o' n' c') hne) b 1 (.int .i64 ((i : Int) + 1)) hne)
    have HB5 := keep (HB4.out.set 1 (.int .i64 ((i : Int) + 1)) (by simp))
    have HK5 := keep ((HK3.out.trans (RKept.cell (d := b) (grown_at w3 b 2 (.slice o' n' c')))).trans (RKept.cell (grown_at (w3.setCell ⟨b, 2, none⟩ (.slice o' n' c')) b 1 (.int .i64 ((i : Int) + 1)))))
    have d1 := HB4.out.row 1 _ rfl
    have e1 := HB4.out.free 1
    go_wp2_with fail
    go_end0
    exact ⟨rfl, _, HB5.out, HO5.out, HK5.out⟩
end Go.Proofs.Ytglmcjplglgnlaa
