/-
  For every string and every two parts, retracelaw03.WireNone answers true, and what it is given reads as before. No condition.
-/
import Derived.Test.YtafeahjhdjcimaaRows
import Derived.Test.YtafeahjhdjcimaaWireQ
namespace Go.Proofs.Ytafeahjhdjcimaa.wireNone
open Go.ChangeShapes Go.WideShapes Go.ChangeAt Go.RowKit Go.Joins
open Go.ChangeMaps (open_string shut_string)

theorem own : ownKnob Try.prog.godebug = none := by kernel_rfl

/-- The readers, and what has stayed since w2. -/
structure At (p q : Value) (l : List UInt8) (f : Int) (w wr : World) : Prop where
  rd : PR p l f wr
  xr : XR q l f wr
  below : Below w.heap.size w wr

theorem At.step {p q : Value} {l : List UInt8} {f : Int} {w wr w1 : World} {x : Rd} (h : At p q l f w wr) (hb : Both p q x wr w1) (hp : ∀ k, blk p = some k → w.heap.size ≤ k) (hq : ∀ k, blk q = some k → w.heap.size ≤ k) : At p q x.1 x.2 w w1 :=
  ⟨hb.rd, hb.xr, ⟨hb.os.trans h.below.os, hb.tape.trans h.below.tape, hb.output.trans h.below.output, Nat.le_trans h.below.size hb.size, fun k hk => by
    rw [hb.block k (Nat.lt_of_lt_of_le hk h.below.size) (fun e => by have := hp k e; omega) (fun e => by have := hq k e; omega)]
    exact h.below.block k hk⟩⟩
theorem At.to {p q : Value} {l : List UInt8} {f : Int} {w wr w1 : World} (h : At p q l f w wr) (hb : Below wr.heap.size wr w1) : At p q l f w w1 :=
  ⟨h.rd.kept (p := .pointer none) (Kept.of hb) (fun _ e => by cases e), h.xr.kept (p := .pointer none) (Kept.of hb) (fun _ e => by cases e), h.below.trans (hb.mono h.below.size)⟩

theorem partS_bad (a : Pt) (l : List UInt8) {f : Int} (h : f ≠ 0) : partS a l f = (l, f) := by
  have hu : ∀ m, uptoS m l f = (l, f) := fun m => by unfold uptoS; rw [if_neg h]
  unfold partS numS boolS textS intsS rawS failS
  simp only [hu, if_neg h, ite_self]

/-- The six cells of a box. -/
def Six (w : World) (b : Nat) (K U N : Int) (B : Bool) (S : ByteArray) (v : Value) : Prop :=
  w.cell? ⟨b, 0, none⟩ = some (.int .i64 K) ∧ w.cell? ⟨b, 1, none⟩ = some (.int .u64 U) ∧ w.cell? ⟨b, 2, none⟩ = some (.int .i64 N) ∧ w.cell? ⟨b, 3, none⟩ = some (.bool B) ∧ w.cell? ⟨b, 4, none⟩ = some (.string S) ∧ w.cell? ⟨b, 5, none⟩ = some v
theorem Six.of {w w' : World} {b C : Nat} {K U N : Int} {B : Bool} {S : ByteArray} {v : Value} {t : TypeId} (h : w.heap[b]? = some (.cells #[.int .i64 K, .int .u64 U, .int .i64 N, .bool B, .string S, v] t (0, 0))) (hb : Below C w w') (hC : b < C) : Six w' b K U N B S v :=
  ⟨(hb.cell (p := ⟨b, 0, none⟩) hC).trans (cell_of_block h 0), (hb.cell (p := ⟨b, 1, none⟩) hC).trans (cell_of_block h 1), (hb.cell (p := ⟨b, 2, none⟩) hC).trans (cell_of_block h 2), (hb.cell (p := ⟨b, 3, none⟩) hC).trans (cell_of_block h 3), (hb.cell (p := ⟨b, 4, none⟩) hC).trans (cell_of_block h 4), (hb.cell (p := ⟨b, 5, none⟩) hC).trans (cell_of_block h 5)⟩

set_option maxHeartbeats 4000000 in
theorem walk (a0 : ByteArray) (x y : Pt) (w : World) (hx : PtOk w.heap.size w x) (hy : PtOk w.heap.size w y) :
    Calls Try.prog 6 #[.string a0, x.agg, y.agg] w fun e w' => e = .returned (.bool true) ∧ Below w.heap.size w w' := by
  obtain ⟨so, sc, hv⟩ := hx.l.form
  obtain ⟨to, tc, hu⟩ := hy.l.form
  obtain ⟨K, U, N, Bb, S, v, L⟩ := x
  obtain ⟨K', U', N', Bb', S', v', L'⟩ := y
  simp only at hv hu
  subst hv hu
  unfold Pt.agg
  by_cases h0 : (600 : Int) < (a0.size : Int)
  · clear hx hy
    generalize L.length = sl at *
    generalize L'.length = tl at *
    go_enter Try.func6, Try.ntmps6
    go_wp2_with fail
    refine (live_any _).mono ?_
    rintro e w1 ⟨rfl, hb⟩
    have HB := keep ((below_alloc2 w _ _).trans (hb.mono (by simp; omega)))
    clear hb
    go_wp2_with fail
    go_ret
    exact ⟨rfl, HB.out⟩
  · have hz : a0.size ≤ 1000000 := by omega
    obtain ⟨W2, hW2⟩ : ∃ W2, W2 = (w.alloc (.cells #[.int .i64 K, .int .u64 U, .int .i64 N, .bool Bb, .string S, .slice so L.length sc] 33)).alloc (.cells #[.int .i64 K', .int .u64 U', .int .i64 N', .bool Bb', .string S', .slice to L'.length tc] 33) := ⟨_, rfl⟩
    have hsz : W2.heap.size = w.heap.size + 2 := by rw [hW2]; simp
    have HWW : Keep (Below w.heap.size w W2) := ⟨by rw [hW2]; exact below_alloc2 _ _ _⟩
    have hb0 : W2.heap[w.heap.size]? = some (.cells #[.int .i64 K, .int .u64 U, .int .i64 N, .bool Bb, .string S, .slice so L.length sc] 33 (0, 0)) := by
      rw [hW2, Below.heap_alloc _ _ _ (by simp)]; exact heap_alloc_new w _
    have hb1 : W2.heap[w.heap.size + 1]? = some (.cells #[.int .i64 K', .int .u64 U', .int .i64 N', .bool Bb', .string S', .slice to L'.length tc] 33 (0, 0)) := by
      rw [hW2]; exact heap_two w _ _
    have HS0 := keep (fun W (hW : Below W2.heap.size W2 W) => Six.of hb0 hW (by omega))
    have HS1 := keep (fun W (hW : Below W2.heap.size W2 W) => Six.of hb1 hW (by omega))
    have HOX := keep (fun W (hW : Below W2.heap.size W2 W) => hx.below (HWW.out.trans (hW.mono HWW.out.size)))
    have HOY := keep (fun W (hW : Below W2.heap.size W2 W) => hy.below (HWW.out.trans (hW.mono HWW.out.size)))
    have HSZ := keep hsz
    obtain ⟨ps, hps⟩ : ∃ ps : Nat → Pt, ps = fun i => if i = 0 then ⟨K, U, N, Bb, S, .slice so L.length sc, L⟩ else ⟨K', U', N', Bb', S', .slice to L'.length tc, L'⟩ := ⟨_, rfl⟩
    obtain ⟨W3, hW3⟩ : ∃ W3, W3 = W2.alloc (.cells #[.int .i64 K, .int .u64 U, .int .i64 N, .bool Bb, .string S, .slice so L.length sc, .int .i64 K', .int .u64 U', .int .i64 N', .bool Bb', .string S', .slice to L'.length tc] 33) := ⟨_, rfl⟩
    have HB23 : Keep (Below W2.heap.size W2 W3) := ⟨by rw [hW3]; exact below_alloc1 _ _⟩
    have hb3 : W3.heap[w.heap.size + 1 + 1]? = some (.cells #[.int .i64 K, .int .u64 U, .int .i64 N, .bool Bb, .string S, .slice so L.length sc, .int .i64 K', .int .u64 U', .int .i64 N', .bool Bb', .string S', .slice to L'.length tc] 33 (0, 0)) := by
      rw [hW3, show w.heap.size + 1 + 1 = W2.heap.size by omega]; exact heap_alloc_new W2 _
    have hsz3 : W3.heap.size = w.heap.size + 3 := by rw [hW3]; simp; omega
    have hwz : w.heap.size ≤ W3.heap.size := by omega
    have HLONG : Keep (Calls Try.prog 7 #[.slice (some ⟨w.heap.size + 1 + 1, 0, none⟩) 2 2] W3 (LongIs 2 ps W3)) := ⟨by
      refine long_any W3.heap.size _ 2 ps W3 ⟨by omega, .inr ⟨_, _, _, rfl, by omega, fun i hi => ?_⟩⟩
      have hi' : i = 0 ∨ i = 1 := by omega
      have okx := HOX.out W3 HB23.out
      have oky := HOY.out W3 HB23.out
      rw [hps]
      rcases hi' with rfl | rfl
      · exact ⟨⟨cell_of_block hb3 0, cell_of_block hb3 1, cell_of_block hb3 2, cell_of_block hb3 3, cell_of_block hb3 4, cell_of_block hb3 5⟩, okx.k, okx.u, okx.n, okx.s, okx.l.mono hwz, okx.ls⟩
      · exact ⟨⟨cell_of_block hb3 6, cell_of_block hb3 7, cell_of_block hb3 8, cell_of_block hb3 9, cell_of_block hb3 10, cell_of_block hb3 11⟩, oky.k, oky.u, oky.n, oky.s, oky.l.mono hwz, oky.ls⟩⟩
    have HREAD := keep (fun W (hW : Below W2.heap.size W2 W) p q l f hp hq hn => read_any p q ⟨K, U, N, Bb, S, .slice so L.length sc, L⟩ l f W w.heap.size hp hq hn (HOX.out W hW))
    have HREAD' := keep (fun W (hW : Below W2.heap.size W2 W) p q l f hp hq hn => read_any p q ⟨K', U', N', Bb', S', .slice to L'.length tc, L'⟩ l f W w.heap.size hp hq hn (HOY.out W hW))
    unfold Pt.agg at HREAD HREAD'
    clear hb0 hb1 hsz hx hy hb3 hsz3 hwz hps HOX HOY
    generalize L.length = sl at *
    generalize L'.length = tl at *
    go_enter Try.func6, Try.ntmps6
    go_wp2_with fail
    rw [← hW2, ← hW3]
    refine HLONG.out.mono ?_
    rintro e w' ⟨xb, rfl, _, rfl⟩
    cases xb
    · have HXZ : Keep (XR (.pointer (some ⟨W3.heap.size, 0, none⟩)) [] 9 (W3.alloc (.cells #[.string ⟨#[]⟩, .int .i64 9] 39))) := ⟨⟨_, rfl, by simp, heap_alloc_new W3 _⟩⟩
      have HB24 : Keep (Below W2.heap.size W2 (W3.alloc (.cells #[.string ⟨#[]⟩, .int .i64 9] 39))) := ⟨HB23.out.trans ((below_alloc1 W3 _).mono HB23.out.size)⟩
      have HAT0 : Keep (At (.pointer none) (.pointer (some ⟨W3.heap.size, 0, none⟩)) [] 9 W2 (W3.alloc (.cells #[.string ⟨#[]⟩, .int .i64 9] 39))) := ⟨⟨.inl ⟨rfl, rfl, rfl⟩⟩, HXZ.out, HB24.out⟩
      obtain ⟨c0, c1, c2, c3, c4, c5⟩ := HS0.out _ HB24.out
      have HW2 := keep hW2
      have HW3 := keep hW3
      clear hW2 hW3
      go_wp2_with fail
      refine (HREAD.out _ HAT0.out.below _ _ [] 9 HAT0.out.rd HAT0.out.xr (fun b e => by cases e)).mono ?_
      rw [partS_bad _ _ (by decide)]
      rintro e w4 ⟨rfl, hB⟩
      have HAT4 := keep (HAT0.out.step hB (fun k e => by cases e) (fun k e => by have := HB23.out.size; simp [blk] at e; omega))
      clear hB c0 c1 c2 c3 c4 c5
      go_wp2_with fail
      refine (left_any (.pointer none) [] 9 w4 HAT4.out.rd).mono ?_
      rintro e w5 ⟨rfl, hb⟩
      have HAT5 := keep (HAT4.out.to hb)
      clear hb
      go_wp2_with fail
      refine (err_any (.pointer none) [] 9 w5 HAT5.out.rd).mono ?_
      rintro e w' ⟨rfl, rfl⟩
      go_wp2_with fail
      refine (end_any (.pointer none) [] 9 w5 HAT5.out.rd).mono ?_
      rw [show endV [] 9 = 9 by decide]
      rintro e w6 ⟨rfl, hb⟩
      have HB6 := keep (HAT5.out.below.trans (hb.mono HAT5.out.below.size))
      clear hb
      go_wp2_with fail
      refine (open_any a0 w6 hz).mono ?_
      rintro e w7 ⟨rfl, hr, hb⟩
      have HP7 := keep hr
      have HB7 := keep (HB6.out.trans (hb.mono HB6.out.size))
      clear hr hb
      go_wp2_with fail
      refine (fail_any (.pointer (some ⟨w6.heap.size, 0, none⟩)) 12 _ 0 w7 HP7.out).mono ?_
      rw [show failS 12 a0.data.toList 0 = (a0.data.toList, 12) from rfl]
      rintro e w8 ⟨rfl, hR⟩
      have HP8 := keep hR.1
      have HB8 := keep (HB7.out.trans (hR.2.below (B := W2.heap.size) (fun k e => by have := HB6.out.size; simp [blk] at e; omega) HB7.out.size))
      clear hR
      have HB9 : Keep (Below W2.heap.size W2 (w8.alloc (.cells #[.string a0, .int .i64 12] 39))) := ⟨HB8.out.trans ((below_alloc1 w8 _).mono HB8.out.size)⟩
      have HLT : Keep (w6.heap.size < w8.heap.size) := ⟨HP8.out.blk_lt _ rfl⟩
      have HAT9 : Keep (At (.pointer (some ⟨w6.heap.size, 0, none⟩)) (.pointer (some ⟨w8.heap.size, 0, none⟩)) a0.data.toList 12 W2 (w8.alloc (.cells #[.string a0, .int .i64 12] 39))) := ⟨⟨HP8.out.alloc _, ⟨_, rfl, by rw [← size_list]; exact hz, by rw [str_eta]; exact heap_alloc_new w8 _⟩, HB9.out⟩⟩
      have HNN : Keep (∀ b, blk (.pointer (some ⟨w6.heap.size, 0, none⟩)) = some b → blk (.pointer (some ⟨w8.heap.size, 0, none⟩)) ≠ some b) := ⟨fun b e c => by have := HLT.out; simp [blk] at e c; omega⟩
      have HBP : Keep (∀ k, blk (.pointer (some ⟨w6.heap.size, 0, none⟩)) = some k → W2.heap.size ≤ k) := ⟨fun k e => by have := HB6.out.size; simp [blk] at e; omega⟩
      have HBQ : Keep (∀ k, blk (.pointer (some ⟨w8.heap.size, 0, none⟩)) = some k → W2.heap.size ≤ k) := ⟨fun k e => by have := HB8.out.size; simp [blk] at e; omega⟩
      obtain ⟨c0, c1, c2, c3, c4, c5⟩ := HS0.out _ HB9.out
      generalize hl : a0.data.toList = l at *
      have HL : Keep ((l.length : Int) = a0.size) := ⟨by rw [← hl, ← size_list]⟩
      clear hl
      go_wp2_with fail
      refine (HREAD.out _ HAT9.out.below _ _ l 12 HAT9.out.rd HAT9.out.xr HNN.out).mono ?_
      rw [partS_bad _ _ (by decide)]
      rintro e w10 ⟨rfl, hB⟩
      have HAT10 := keep (HAT9.out.step hB HBP.out HBQ.out)
      obtain ⟨d0, d1, d2, d3, d4, d5⟩ := HS1.out _ HAT10.out.below
      clear hB c0 c1 c2 c3 c4 c5
      go_wp2_with fail
      refine (HREAD'.out _ HAT10.out.below _ _ l 12 HAT10.out.rd HAT10.out.xr HNN.out).mono ?_
      rw [partS_bad _ _ (by decide)]
      rintro e w11 ⟨rfl, hB⟩
      have HAT11 := keep (HAT10.out.step hB HBP.out HBQ.out)
      clear hB d0 d1 d2 d3 d4 d5
      go_wp2_with fail
      refine (left_any _ l 12 w11 HAT11.out.rd).mono ?_
      rw [HL.out]
      rintro e w12 ⟨rfl, hb⟩
      have HAT12 := keep (HAT11.out.to hb)
      clear hb
      go_wp2_with fail
      refine (err_any _ l 12 w12 HAT12.out.rd).mono ?_
      rintro e w' ⟨rfl, rfl⟩
      go_wp2_with fail
      refine (end_any _ l 12 w12 HAT12.out.rd).mono ?_
      rw [show endV l 12 = 12 from by unfold endV; rw [if_neg (fun c => by cases c.1)]]
      rintro e w13 ⟨rfl, hb⟩
      have HB13 := keep (HAT12.out.below.trans (hb.mono HAT12.out.below.size))
      clear hb
      go_wp2_with fail
      refine (live_any w13).mono ?_
      rintro e w14 ⟨rfl, hb⟩
      have HB14 := keep (HWW.out.trans ((HB13.out.trans (hb.mono HB13.out.size)).mono HWW.out.size))
      clear hb
      go_wp2_with fail
      go_ret
      exact ⟨rfl, HB14.out⟩
    · have HW2 := keep hW2
      have HW3 := keep hW3
      clear HREAD HREAD' hW2 hW3
      go_wp2_with fail
      refine (live_any W3).mono ?_
      rintro e w1 ⟨rfl, hb⟩
      have HB := keep (HWW.out.trans ((HB23.out.mono HWW.out.size).trans (hb.mono (Nat.le_trans HWW.out.size HB23.out.size))))
      clear hb
      go_wp2_with fail
      go_ret
      exact ⟨rfl, HB.out⟩
theorem laid : laidOutB Try.prog = true := by kernel_rfl

set_option maxRecDepth 100000 in
theorem lifted (os : Os) (started : os.Started) (H : Type) (enc : TypeId × Value → H) :
    ReturnsInHanded {} Try.checked os 6 .any (Rows.wireNoneSpec.pre6 enc Try.prog Try.f6 Rows.wireNoneRow.domain false) (Rows.wireNoneSpec.post enc Try.prog Try.f6 false true false false) := by
  refine returnsInHanded_of_change (C := Try.checked) own started (by kernel_rfl) Try.func6
    (ChangeSpec.witness6 (enc := enc) (C := Try.checked) false ⟨#[], #[.string ByteArray.empty, .agg #[.int .i64 0, .int .u64 0, .int .i64 0, .bool false, .string ByteArray.empty, .slice none 0 0], .agg #[.int .i64 0, .int .u64 0, .int .i64 0, .bool false, .string ByteArray.empty, .slice none 0 0]], []⟩ 8 (by kernel_rfl) (by kernel_rfl) (by kernel_rfl) (by kernel_rfl)) ?_
  intro W base args ds gs before hval0 hW hcnd _
  have hval : ∀ (j : Nat) t v, Try.f6.params[j]? = some t → args[j]? = some v → Value.okWide Try.prog W .any base t v := hval0
  have hW' := hW
  obtain ⟨p, q, hA0, hV, rfl, hfz, hnd⟩ := hW
  have hA : DataW.TrodAll enc Try.prog W 0 (fun _ => true) true Try.f6.params.toList args.toList ds p := hA0
  rw [Try.params6] at hA hval
  obtain ⟨v0, vs0, d0, ds0, p0, q0, hargs, rfl, rfl, h0, r0⟩ := trodAll_cons hA
  obtain ⟨v1, vs1, d1, ds1, p1, q1, rfl, rfl, rfl, h1, r1⟩ := trodAll_cons r0
  obtain ⟨v2, vs2, d2, ds2, p2, q2, rfl, rfl, rfl, h2, r2⟩ := trodAll_cons r1
  obtain ⟨rfl, rfl, rfl⟩ := trodAll_nil r2
  obtain rfl : args = #[v0, v1, v2] := by cases args; simp_all
  obtain ⟨rfl, rfl⟩ := trodVars_none hV
  obtain ⟨a0, rfl, rfl, rfl, w0⟩ := open_string Try.underlying9 (hval 0 9 v0 rfl rfl) h0
  obtain ⟨x, hxv, hx⟩ := part_of (enc := enc) h1 (hval 1 33 v1 rfl rfl)
  obtain ⟨y, hyv, hy⟩ := part_of (enc := enc) h2 (hval 2 33 v2 rfl rfl)
  subst hxv hyv
  clear hA0 hval0
  simp only [List.append_nil] at hW'
  have hlt1 : ∀ x ∈ p1, x.block < W.heap.size := fun x hx => by
    have := hW'.lt x (by simp [hx])
    simpa using this
  have hlt2 : ∀ x ∈ p2, x.block < W.heap.size := fun x hx => by
    have := hW'.lt x (by simp [hx])
    simpa using this
  refine (walk a0 x y W hx hy).mono fun e W' ⟨he, hg⟩ => ?_
  subst he
  exact ⟨_, rfl, _, _, _, [], _, [], hW', (trodAll_cons_mk (shut_bool Try.underlying4 _) trodAll_mk0), (trodAll_cons_mk (shut_string Try.underlying9 w0) (trodAll_cons_mk (Below.trod laid (by kernel_rfl) (of_decide_eq_true (by kernel_rfl)) h1 hg hlt1) (trodAll_cons_mk (Below.trod laid (by kernel_rfl) (of_decide_eq_true (by kernel_rfl)) h2 hg hlt2) trodAll_mk0))), rfl, hg.frame _, fun h => by cases h⟩

theorem over : Rows.wireNoneRow.holds Try.pinned (OpenSpec.ofChange Rows.wireNoneSpec) :=
  OpenClaim.holds_of_wide 6 Try.f6 rfl rfl rfl rfl rfl rfl rfl ⟨rfl, rfl, rfl, rfl, rfl⟩ rfl rfl rfl rfl rfl (by kernel_rfl) Try.func6 (by kernel_rfl)
    (of_decide_eq_true (by kernel_rfl)) (by unfold Func.isWrapper; first | (rw [if_pos (by decide +kernel)]; kernel_rfl) | (rw [if_neg (by decide +kernel)]; exact ⟨rfl, rfl⟩))
    (fun os started H enc _ => lifted os started H enc)

/-- The statement. -/
theorem proved : Rows.WireNoneSaid :=
  over
#print axioms proved
end Go.Proofs.Ytafeahjhdjcimaa.wireNone
