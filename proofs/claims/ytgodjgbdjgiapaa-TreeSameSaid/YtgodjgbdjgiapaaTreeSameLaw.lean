/-
  For every two lists of nodes and every int retracelaw09.TreeSame answers true, and what it is given reads as before. No condition.
-/
import Derived.Test.YtgodjgbdjgiapaaRows
import Derived.Test.YtgodjgbdjgiapaaTreeXL
import Derived.Test.YtgodjgbdjgiapaaTreeXR
import Derived.Below
import Derived.ChangeOld
namespace Go.Proofs.Ytgodjgbdjgiapaa.treeSame
open Go.ChangeShapes Go.WideShapes Go.ChangeAt Go.RowKit Go.Joins

theorem elN : (Try.prog.info? 39).map (fun i => (i.zero, i.size, i.bytes)) = some (some (.agg #[.int .i64 0, .string ⟨#[]⟩, .int .i64 0, .int .i64 0, .int .i64 0]), 5, 48) := by kernel_rfl
theorem wpList_append_n {ops : Array Oper} {rest : List Oper} {o : Oper} {a : Act} {W : World} {Q : Exit → Act → World → Prop} (hgd : o.guard = none) (s x : Operand)
    (ho : o.op = .call { callee := .builtin .append, args := #[s, x], argTypes := #[22, 22] })
    (B : Nat) (v : Value) (l : List Nd) (hs : a.eval s = v) (h : W.ownsRow B 39 5 v l.length (ncs l)) (hB : B ≤ W.heap.size) (hl : l.length ≤ 1000000) (b : Nat) (c : Nat) (t : Nd) (hx : a.eval x = .slice (some ⟨b, 0, none⟩) 1 c)
    (ha : ∀ j u, t.cs[j]? = some u → W.cell? ⟨b, j, none⟩ = some u)
    (hK : ∀ v' W', W'.ownsRow B 39 5 v' (l ++ [t]).length (ncs (l ++ [t])) → W.grownBy W' v.ownBlock → wpList Try.prog ops Q rest (a.put o.dst v') W') : wpList Try.prog ops Q (o :: rest) a W := by
  obtain ⟨i0, hi, hz0, hz1, hz2⟩ := info_parts elN
  refine wpList_append_own _ hgd s x 22 ho B 39 i0 (.agg #[.int .i64 0, .string ⟨#[]⟩, .int .i64 0, .int .i64 0, .int .i64 0]) 5 48 Try.underlying22 hi hz0 hz1 hz2 rfl (by decide) v l.length (ncs l) hs h ⟨b, 0, none⟩ 1 c t.cs hx rfl ?_ ?_ (by unfold maxLen; omega) (by omega) hB ?_
  · intro j u hj
    rw [show (⟨b, 0, none⟩ : Addr).add j = ⟨b, j, none⟩ by rw [Addr.add_mid, Nat.zero_add]]
    exact ha j u hj
  · intro u hu
    simp only [Nd.cs, List.mem_cons, List.not_mem_nil, or_false] at hu
    rcases hu with rfl | rfl | rfl | rfl | rfl <;> rfl
  · intro v' w' hown hgrow _
    refine hK v' w' ?_ hgrow
    rw [List.length_append, ncs_append]
    exact hown

/-- Standing elsewhere. -/
def els (at_ : Int) (x : Nd) : Nd := { x with A := at_ }
/-- Between two rounds. -/
structure OwnAt (l : List Nd) (at_ : Int) (w : World) (k : Nat) (v : Value) (wr : World) : Prop where
  own : wr.ownsRow w.heap.size 39 5 v k (ncs ((l.map (els at_)).take k))
  below : Below w.heap.size w wr

set_option maxRecDepth 100000 in
set_option maxHeartbeats 8000000 in
theorem walk_ok (v u : Value) (l m : List Nd) (at_ : Int) (w : World) (h : NdRow w.heap.size w v l) (h' : NdRow w.heap.size w u m) (hl : l.length ≤ 120) (hm : m.length ≤ 120) :
    Calls Try.prog 5 #[v, u, .int .i64 at_] w fun e w' => e = .returned (.bool true) ∧ Below w.heap.size w w' := by
  have HL := keep live_any
  have HS1 := keep (fun W (hW : Below w.heap.size w W) => same_any v u l m (by omega) W (h.to hW) (h'.to hW))
  have HS2 := keep (fun W (hW : Below w.heap.size w W) => rsame_any v u l m (by omega) W (h.to hW) (h'.to hW))
  have HOK : Keep (∀ x ∈ l.map (els at_), x.ok) := ⟨fun x hx => by
    obtain ⟨y, hy, rfl⟩ := List.mem_map.1 hx
    have := h.ok y hy
    exact ⟨this.s, this.o1, this.o2, this.n1, this.n2, this.k1, this.k2⟩⟩
  have HS3 := keep (fun W (hW : Below w.heap.size w W) v' (hr : NdRow W.heap.size W v' (l.map (els at_))) => same_any v v' l (l.map (els at_)) (by omega) W (h.to hW) hr)
  have hself : simL l (l.map (els at_)) = true := simL_self at_ l
  rw [hself] at HS3
  have HRW : Keep (∀ W v', W.ownsRow w.heap.size 39 5 v' l.length (ncs ((l.map (els at_)).take l.length)) → NdRow W.heap.size W v' (l.map (els at_))) := ⟨fun W v' ho => by
    have e : (l.map (els at_)).length = l.length := by simp
    rw [List.take_of_length_le (by rw [e]; exact Nat.le_refl _), ← e] at ho
    exact NdRow.of_own ho (by omega) HOK.out⟩
  have H0 : Keep (OwnAt l at_ w 0 (.slice none 0 0) w) := ⟨⟨World.ownsRow_nil _ _ _ _, Below.refl _ _⟩⟩
  obtain ⟨o, cap, rfl, hf⟩ := h.form
  obtain ⟨o', cap', rfl, -⟩ := h'.form
  have HF := keep hf
  have HLL := keep hl
  obtain ⟨n, hn⟩ : ∃ n, n = l.length := ⟨_, rfl⟩
  have HN := keep hn
  rw [← hn] at HS1 HS2 HS3 HRW ⊢
  have hd : (n : Int) ≤ 120 := by omega
  have hd2 : (m.length : Int) ≤ 120 := by omega
  generalize simL l m = q at *
  clear h h' hl hm hf hself hn
  go_enter Try.func5, Try.ntmps5
  go_wp2_with fail
  go_loopw [7, 8] (fun vv kv wr => ∃ (k : Nat) (oo : Option Addr) (cc : Nat), vv = .slice oo k cc ∧ kv = .int .i64 (k : Int) ∧ k ≤ n ∧ Keep (OwnAt l at_ w k (.slice oo k cc) wr)) (fun _ kv _ => n - (intOf kv).toNat)
  case atStart => exact ⟨0, none, 0, rfl, rfl, Nat.zero_le _, H0⟩
  case round =>
    obtain ⟨k, oo, cc, rfl, rfl, hk, HA⟩ := hrel
    clear H0
    by_cases hlt : k < n
    · have hltI : (k : Int) < (n : Int) := by omega
      obtain ⟨x, hx⟩ := get_of_lt (l := l) (i := k) (by rw [← HN.out]; exact hlt)
      obtain ⟨_, b, off, rfl, hb, hc⟩ := HF.out k x hx
      obtain ⟨n0, n1, n2, n3, n4⟩ := hc wr HA.out.below
      have hblt : b < wr.heap.size := Nat.lt_of_lt_of_le hb HA.out.below.size
      have hmx : (l.map (els at_))[k]? = some (els at_ x) := by rw [List.getElem?_map, hx]; rfl
      have HTK : Keep ((l.map (els at_)).take (k + 1) = (l.map (els at_)).take k ++ [els at_ x]) := ⟨take_snoc hmx⟩
      have HTL : Keep (((l.map (els at_)).take k).length = k) := ⟨by rw [List.length_take, List.length_map]; have := HN.out; omega⟩
      have HCP := keep (BoxL.new (wr.alloc (.cells #[.int .i64 x.O, .string x.S, .int .i64 x.N, .int .i64 x.K, .int .i64 at_] 39)) [.int .i64 x.O, .string x.S, .int .i64 x.N, .int .i64 x.K, .int .i64 at_] 39)
      rw [World.size_alloc] at HCP
      clear hx hb hc hmx
      go_wp2_with (at_builtin; refine wpList_append_n rfl _ _ rfl w.heap.size (.slice oo k cc) ((l.map (els at_)).take k) rfl (by rw [HTL.out]; exact (HA.out.own.alloc _).alloc _) (by have := HA.out.below.size; simp; omega) (by rw [HTL.out]; have := HLL.out; have := HN.out; omega) (wr.heap.size + 1) 1 (els at_ x) rfl HCP.out.row ?_)
      intro v' w3 hown' hgrow
      rw [← HTK.out] at hown'
      have hl2 : min k l.length + 1 = k + 1 := by have := HN.out; omega
      rw [hl2] at hown'
      obtain ⟨o3, c3, rfl⟩ := own_slice' hown'
      have HO3 := keep hown'
      have HB3 := keep (((HA.out.below.alloc HA.out.below.size (.cells #[.int .i64 x.O, .string x.S, .int .i64 x.N, .int .i64 x.K, .int .i64 at_] 39)).alloc (by have := HA.out.below.size; simp; omega) (.cells #[.int .i64 x.O, .string x.S, .int .i64 x.N, .int .i64 x.K, .int .i64 at_] 39)).grown hgrow (by have := HA.out.below.size; simp; omega) (fun mm hm => (HA.out.own.lt mm hm).1))
      clear hown' hgrow hl2
      go_wp2_with fail
      go_roundw
      case rel => exact ⟨k + 1, o3, c3, rfl, by go_num, by omega, ⟨⟨HO3.out, HB3.out⟩⟩⟩
      case measure => simp [intOf]; omega
    · have hkn : n = k := by omega
      have HOWN : Keep (wr.ownsRow w.heap.size 39 5 (.slice oo n cc) n (ncs ((l.map (els at_)).take n))) := ⟨by rw [hkn]; exact HA.out.own⟩
      have HB := keep HA.out.below
      subst hkn
      have hdn : decide (n < n) = false := by simp
      clear hlt HA
      go_wp2_with fail
      refine (HS1.out _ HB.out).mono ?_
      rintro e w1 ⟨rfl, hb⟩
      have HB1 := keep (HB.out.trans (hb.mono HB.out.size))
      have HO1 := keep (own_to HOWN.out hb)
      clear hb
      go_wp2_with fail
      refine (HS2.out _ HB1.out).mono ?_
      rintro e w2 ⟨rfl, hb⟩
      have HB2 := keep (HB1.out.trans (hb.mono HB1.out.size))
      have HO2 := keep (own_to HO1.out hb)
      clear hb
      have hqq : (q == q) = true := by cases q <;> rfl
      go_wp2_with fail
      refine (HS3.out _ HB2.out _ (HRW.out _ _ HO2.out)).mono ?_
      rintro e w3 ⟨rfl, hb⟩
      have HB3 := keep (HB2.out.trans (hb.mono HB2.out.size))
      clear hb
      go_wp2_with fail
      refine (HL.out _).mono ?_
      rintro e w4 ⟨rfl, hb⟩
      have HB4 := keep (HB3.out.trans (hb.mono HB3.out.size))
      clear hb
      go_wp2_with fail
      go_ret
      exact ⟨rfl, HB4.out⟩

set_option maxHeartbeats 4000000 in
theorem walk (v : Value) (l : List Nd) (u : Value) (m : List Nd) (at_ : Int) (w : World) (h : NdRow w.heap.size w v l) (h' : NdRow w.heap.size w u m) (_ : (Lit.int .i64 at_).wf = true) :
    Calls Try.prog 5 #[v, u, .int .i64 at_] w fun e w' => e = .returned (.bool true) ∧ Below w.heap.size w w' := by
  by_cases hl : 120 < l.length
  · have HL := keep live_any
    obtain ⟨o, cap, rfl, -⟩ := h.form
    obtain ⟨o', cap', rfl, -⟩ := h'.form
    have hd : (120 : Int) < (l.length : Int) := by omega
    clear h h' hl
    go_enter Try.func5, Try.ntmps5
    go_wp2_with fail
    refine (HL.out _).mono ?_
    rintro e w1 ⟨rfl, hb⟩
    have HB := keep hb
    clear hb
    go_wp2_with fail
    go_ret
    exact ⟨rfl, HB.out⟩
  · by_cases hm : 120 < m.length
    · have HL := keep live_any
      obtain ⟨o, cap, rfl, -⟩ := h.form
      obtain ⟨o', cap', rfl, -⟩ := h'.form
      have hd0 : (l.length : Int) ≤ 120 := by omega
      have hd : (120 : Int) < (m.length : Int) := by omega
      clear h h' hl hm
      go_enter Try.func5, Try.ntmps5
      go_wp2_with fail
      refine (HL.out _).mono ?_
      rintro e w1 ⟨rfl, hb⟩
      have HB := keep hb
      clear hb
      go_wp2_with fail
      go_ret
      exact ⟨rfl, HB.out⟩
    · exact walk_ok v u l m at_ w h h' (by omega) (by omega)
theorem own : ownKnob Try.prog.godebug = none := by kernel_rfl
theorem laid : laidOutB Try.prog = true := by kernel_rfl

set_option maxRecDepth 100000 in
theorem lifted (os : Os) (started : os.Started) (H : Type) (enc : TypeId × Value → H) :
    ReturnsInHanded {} Try.checked os 5 .any (Rows.treeSameSpec.pre6 enc Try.prog Try.f5 Rows.treeSameRow.domain false) (Rows.treeSameSpec.post enc Try.prog Try.f5 false true false false) := by
  refine returnsInHanded_of_change (C := Try.checked) own started (by kernel_rfl) Try.func5
    (ChangeSpec.witness6 (enc := enc) (C := Try.checked) false ⟨#[], #[.slice none 0 0, .slice none 0 0, .int .i64 0], []⟩ 8 (by kernel_rfl) (by kernel_rfl) (by kernel_rfl) (by kernel_rfl)) ?_
  intro W base args ds gs before hval0 hW hcnd _
  have hval : ∀ (j : Nat) t v, Try.f5.params[j]? = some t → args[j]? = some v → Value.okWide Try.prog W .any base t v := hval0
  have hW' := hW
  obtain ⟨p, q, hA0, hV, rfl, hfz, hnd⟩ := hW
  have hA : DataW.TrodAll enc Try.prog W 0 (fun _ => true) true Try.f5.params.toList args.toList ds p := hA0
  rw [Try.params5] at hA hval
  obtain ⟨v0, vs0, d0, ds0, p0, q0, hargs, rfl, rfl, h0, r0⟩ := trodAll_cons hA
  obtain ⟨v1, vs1, d1, ds1, p1, q1, rfl, rfl, rfl, h1, r1⟩ := trodAll_cons r0
  obtain ⟨v2, vs2, d2, ds2, p2, q2, rfl, rfl, rfl, h2, r2⟩ := trodAll_cons r1
  obtain ⟨rfl, rfl, rfl⟩ := trodAll_nil r2
  obtain rfl : args = #[v0, v1, v2] := by cases args; simp_all
  obtain ⟨rfl, rfl⟩ := trodVars_none hV
  obtain ⟨a0, w0⟩ := nds_of (enc := enc) h0 (hval 0 22 v0 rfl rfl)
  obtain ⟨a1, w1⟩ := nds_of (enc := enc) h1 (hval 1 22 v1 rfl rfl)
  obtain ⟨a2, rfl, rfl, rfl, w2⟩ := open_int Try.underlying3 (hval 2 3 v2 rfl rfl) h2
  clear hA0 hval0
  simp only [List.append_nil] at hW'
  have hlt0 : ∀ x ∈ p0, x.block < W.heap.size := fun x hx => by
    have := hW'.lt x (by simp [hx])
    simpa using this
  have hlt1 : ∀ x ∈ p1, x.block < W.heap.size := fun x hx => by
    have := hW'.lt x (by simp [hx])
    simpa using this
  refine (walk v0 a0 v1 a1 a2 W w0 w1 w2).mono fun e W' ⟨he, hg⟩ => ?_
  subst he
  exact ⟨_, rfl, _, _, _, [], _, [], hW', (trodAll_cons_mk (shut_bool Try.underlying4 _) trodAll_mk0), (trodAll_cons_mk (Below.trod laid (by kernel_rfl) (of_decide_eq_true (by kernel_rfl)) h0 hg hlt0) (trodAll_cons_mk (Below.trod laid (by kernel_rfl) (of_decide_eq_true (by kernel_rfl)) h1 hg hlt1) (trodAll_cons_mk (shut_int Try.underlying3 w2) trodAll_mk0))), rfl, hg.frame _, fun h => by cases h⟩

theorem over : Rows.treeSameRow.holds Try.pinned (OpenSpec.ofChange Rows.treeSameSpec) :=
  OpenClaim.holds_of_wide 5 Try.f5 rfl rfl rfl rfl rfl rfl rfl ⟨rfl, rfl, rfl, rfl, rfl⟩ rfl rfl rfl rfl rfl (by kernel_rfl) Try.func5 (by kernel_rfl)
    (of_decide_eq_true (by kernel_rfl)) (by unfold Func.isWrapper; first | (rw [if_pos (by decide +kernel)]; kernel_rfl) | (rw [if_neg (by decide +kernel)]; exact ⟨rfl, rfl⟩))
    (fun os started H enc _ => lifted os started H enc)

/-- The statement. -/
theorem proved : Rows.TreeSameSaid :=
  over
#print axioms proved
end Go.Proofs.Ytgodjgbdjgiapaa.treeSame
