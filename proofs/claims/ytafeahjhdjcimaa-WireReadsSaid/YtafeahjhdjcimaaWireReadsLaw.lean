/-
  For every string and every list of parts, retracelaw03.WireReads answers true, and what it is given reads as before. No condition.
-/
import Derived.Test.YtafeahjhdjcimaaRows
import Derived.Test.YtafeahjhdjcimaaWireQ
import Derived.Test.YtafeahjhdjcimaaPlan
namespace Go.Proofs.Ytafeahjhdjcimaa.wireReads
open Go.ChangeShapes Go.WideShapes Go.ChangeAt Go.RowKit Go.Joins
open Go.ChangeMaps (open_string shut_string)

theorem own : ownKnob Try.prog.godebug = none := by kernel_rfl

/-- The readers at the head of a round. -/
structure At (p q : Value) (l : List UInt8) (f : Int) (w wr : World) : Prop where
  rd : PR p l f wr
  xr : XR q l f wr
  below : Below w.heap.size w wr

theorem At.step {p q : Value} {l : List UInt8} {f : Int} {w wr w1 : World} {x : Rd} (h : At p q l f w wr) (hb : Both p q x wr w1) (hp : ∀ k, blk p = some k → w.heap.size ≤ k) (hq : ∀ k, blk q = some k → w.heap.size ≤ k) : At p q x.1 x.2 w w1 :=
  ⟨hb.rd, hb.xr, ⟨hb.os.trans h.below.os, hb.tape.trans h.below.tape, hb.output.trans h.below.output, Nat.le_trans h.below.size hb.size, fun k hk => by
    rw [hb.block k (Nat.lt_of_lt_of_le hk h.below.size) (fun e => by have := hp k e; omega) (fun e => by have := hq k e; omega)]
    exact h.below.block k hk⟩⟩
theorem At.to {p q : Value} {l : List UInt8} {f : Int} {w wr w1 : World} (h : At p q l f w wr) (hb : Below wr.heap.size wr w1) : At p q l f w w1 :=
  ⟨h.rd.kept (p := .pointer none) (Kept.of hb) (fun _ e => by cases e), h.xr.kept (p := .pointer none) (Kept.of hb) (fun _ e => by cases e), h.below.trans (hb.mono h.below.size)⟩

def SixC (w : World) (b o : Nat) (K U N : Int) (B : Bool) (S : ByteArray) (v : Value) : Prop :=
  w.cell? ⟨b, o, none⟩ = some (.int .i64 K) ∧ w.cell? ⟨b, o + 1, none⟩ = some (.int .u64 U) ∧ w.cell? ⟨b, o + 2, none⟩ = some (.int .i64 N) ∧ w.cell? ⟨b, o + 3, none⟩ = some (.bool B) ∧ w.cell? ⟨b, o + 4, none⟩ = some (.string S) ∧ w.cell? ⟨b, o + 5, none⟩ = some v
/-- The six cells of a part, as the walk spells them. -/
theorem six_of {w : World} {b off k : Nat} {a : Pt} (h : PtCells w b off k a) : w.cell? ⟨b, off + k * 6, none⟩ = some (.int .i64 a.K) ∧ w.cell? ⟨b, off + k * 6 + 1, none⟩ = some (.int .u64 a.U) ∧ w.cell? ⟨b, off + k * 6 + 2, none⟩ = some (.int .i64 a.N) ∧ w.cell? ⟨b, off + k * 6 + 3, none⟩ = some (.bool a.B) ∧ w.cell? ⟨b, off + k * 6 + 4, none⟩ = some (.string a.S) ∧ w.cell? ⟨b, off + k * 6 + 5, none⟩ = some a.v :=
  ⟨h.c0, h.c1, h.c2, h.c3, h.c4, h.c5⟩

set_option maxHeartbeats 4000000 in
theorem walk_long (a0 : ByteArray) (v : Value) (w : World) (h0 : (600 : Int) < (a0.size : Int)) :
    Calls Try.prog 4 #[.string a0, v] w fun e w' => e = .returned (.bool true) ∧ Below w.heap.size w w' := by
  go_enter Try.func4, Try.ntmps4
  go_wp2_with fail
  refine (live_any w).mono ?_
  rintro e w1 ⟨rfl, hb⟩
  have HB := keep hb
  clear hb
  go_wp2_with fail
  go_ret
  exact ⟨rfl, HB.out⟩

set_option maxHeartbeats 4000000 in
theorem walk_none (a0 : ByteArray) (o : Option Addr) (cap : Nat) (ps : Nat → Pt) (w : World) (h : Parts w.heap.size w (.slice o 0 cap) 0 ps) (h0 : (a0.size : Int) ≤ 600) :
    Calls Try.prog 4 #[.string a0, .slice o 0 cap] w fun e w' => e = .returned (.bool true) ∧ Below w.heap.size w w' := by
    have hz : a0.size ≤ 1000000 := by omega
    have HLONG := keep (long_any _ _ 0 ps w h)
    clear h
    go_enter Try.func4, Try.ntmps4
    go_wp2_with fail
    refine HLONG.out.mono ?_
    rintro e w' ⟨x, rfl, hx, rfl⟩
    cases x
    · clear hx
      have HO := keep (open_any a0 w hz)
      go_wp2_with fail
      refine HO.out.mono ?_
      rintro e w1 ⟨rfl, hr, hb1⟩
      have HP0 := keep hr
      have HB0 := keep hb1
      clear hr hb1
      go_wp2_with fail
      have HAT0 : Keep (At (.pointer (some ⟨w.heap.size, 0, none⟩)) (.pointer (some ⟨w1.heap.size, 0, none⟩)) a0.data.toList 0 w (w1.alloc (.cells #[.string a0, .int .i64 0] 39))) := ⟨⟨HP0.out.alloc _, ⟨_, rfl, by rw [← size_list]; exact hz, by rw [str_eta]; exact heap_alloc_new w1 _⟩, HB0.out.trans ((below_alloc1 w1 _).mono HB0.out.size)⟩⟩
      have hne : w1.heap.size ≠ w.heap.size := by
        have : w.heap.size < w1.heap.size := HP0.out.blk_lt _ rfl
        omega
      have HSZ := keep HB0.out.size
      have HBP : Keep (∀ k, blk (.pointer (some ⟨w.heap.size, 0, none⟩)) = some k → w.heap.size ≤ k) := ⟨fun k e => by simp [blk] at e; omega⟩
      have HBQ : Keep (∀ k, blk (.pointer (some ⟨w1.heap.size, 0, none⟩)) = some k → w.heap.size ≤ k) := ⟨fun k e => by have := HSZ.out; simp [blk] at e; omega⟩
      have HNN : Keep (∀ b, blk (.pointer (some ⟨w.heap.size, 0, none⟩)) = some b → blk (.pointer (some ⟨w1.heap.size, 0, none⟩)) ≠ some b) := ⟨fun b e c => by simp [blk] at e c; omega⟩
      clear hne
      generalize hWR : w1.alloc (.cells #[.string a0, .int .i64 0] 39) = wr at *
      have HWR := keep hWR
      clear hWR
      generalize w1.heap.size = B1 at *
      refine wp_loop_rounds 1 ?_
      rw [rounds_succ]
      have HAT := HAT0
      generalize a0.data.toList = l at *
      obtain ⟨f, hf⟩ : ∃ f : Int, f = 0 := ⟨_, rfl⟩
      rw [← hf] at HAT
      clear hf HAT0
      have HE := keep (end_any (.pointer (some ⟨w.heap.size, 0, none⟩)) l f wr HAT.out.rd)
      have HXE := keep (fun W h => xend_any (.pointer (some ⟨B1, 0, none⟩)) l f W h)
      generalize endV l f = ev at *
      go_wp2_with fail
      refine HE.out.mono ?_
      rintro e w2 ⟨rfl, hb2⟩
      have HAT2 := keep (HAT.out.to hb2)
      clear hb2
      go_wp2_with fail
      refine (HXE.out w2 HAT2.out.xr).mono ?_
      rintro e w' ⟨rfl, rfl⟩
      go_wp2_with fail
      refine (live_any w2).mono ?_
      rintro e w3 ⟨rfl, hb3⟩
      have HB3 := keep (HAT2.out.below.trans (hb3.mono HAT2.out.below.size))
      clear hb3
      go_wp2_with fail
      go_ret
      exact ⟨rfl, HB3.out⟩
    · clear hx
      go_wp2_with fail
      refine (live_any w).mono ?_
      rintro e w1 ⟨rfl, hb⟩
      have HB := keep hb
      clear hb
      go_wp2_with fail
      go_ret
      exact ⟨rfl, HB.out⟩

set_option maxHeartbeats 40000000 in
theorem walk_some (a0 : ByteArray) (b off n cap : Nat) (ps : Nat → Pt) (w : World) (h : Parts w.heap.size w (.slice (some ⟨b, off, none⟩) n cap) n ps) (h0 : (a0.size : Int) ≤ 600) (hb : b < w.heap.size) (hc : ∀ i, i < n → PtCells w b off i (ps i) ∧ PtOk w.heap.size w (ps i)) :
    Calls Try.prog 4 #[.string a0, .slice (some ⟨b, off, none⟩) n cap] w fun e w' => e = .returned (.bool true) ∧ Below w.heap.size w w' := by
    have hz : a0.size ≤ 1000000 := by omega
    have HLONG := keep (long_any _ _ n ps w h)
    have HC := keep hc
    have hmI : (n : Int) ≤ 9223372036854775807 := by have := h.room; omega
    clear h hc
    go_enter Try.func4, Try.ntmps4
    go_wp2_with fail
    refine HLONG.out.mono ?_
    rintro e w' ⟨x, rfl, hx, rfl⟩
    cases x
    · clear hx
      have HO := keep (open_any a0 w hz)
      go_wp2_with fail
      refine HO.out.mono ?_
      rintro e w1 ⟨rfl, hr, hb1⟩
      have HP0 := keep hr
      have HB0 := keep hb1
      clear hr hb1
      go_wp2_with fail
      have HAT0 : Keep (At (.pointer (some ⟨w.heap.size, 0, none⟩)) (.pointer (some ⟨w1.heap.size, 0, none⟩)) a0.data.toList 0 w (w1.alloc (.cells #[.string a0, .int .i64 0] 39))) := ⟨⟨HP0.out.alloc _, ⟨_, rfl, by rw [← size_list]; exact hz, by rw [str_eta]; exact heap_alloc_new w1 _⟩, HB0.out.trans ((below_alloc1 w1 _).mono HB0.out.size)⟩⟩
      have hne : w1.heap.size ≠ w.heap.size := by
        have : w.heap.size < w1.heap.size := HP0.out.blk_lt _ rfl
        omega
      have HSZ := keep HB0.out.size
      have HBP : Keep (∀ k, blk (.pointer (some ⟨w.heap.size, 0, none⟩)) = some k → w.heap.size ≤ k) := ⟨fun k e => by simp [blk] at e; omega⟩
      have HBQ : Keep (∀ k, blk (.pointer (some ⟨w1.heap.size, 0, none⟩)) = some k → w.heap.size ≤ k) := ⟨fun k e => by have := HSZ.out; simp [blk] at e; omega⟩
      have HNN : Keep (∀ b, blk (.pointer (some ⟨w.heap.size, 0, none⟩)) = some b → blk (.pointer (some ⟨w1.heap.size, 0, none⟩)) ≠ some b) := ⟨fun b e c => by simp [blk] at e c; omega⟩
      clear hne
      generalize w1.heap.size = B1 at *
      go_loopw [7] (fun i wr => ∃ (k : Nat) (l : List UInt8) (f : Int), i = .int .i64 k ∧ k ≤ n ∧ Keep (At (.pointer (some ⟨w.heap.size, 0, none⟩)) (.pointer (some ⟨B1, 0, none⟩)) l f w wr)) (fun i _ => n - (intOf i).toNat)
      case atStart => exact ⟨0, _, _, rfl, Nat.zero_le _, HAT0⟩
      case round =>
        obtain ⟨k, l, f, rfl, hk, HAT⟩ := hrel
        by_cases hlt : k < n
        · obtain ⟨hcs, hok⟩ := HC.out k hlt
          have HRD := keep (read_any (.pointer (some ⟨w.heap.size, 0, none⟩)) (.pointer (some ⟨B1, 0, none⟩)) (ps k) l f wr.drew w.heap.size (HAT.out.rd.same rfl) (HAT.out.xr.same rfl) HNN.out (hok.below HAT.out.below.drew))
          have HSIX := keep (fun W (hW : Below w.heap.size w W) => six_of (hcs.below hW hb))
          obtain ⟨c0, c1, c2, c3, c4, c5⟩ := six_of (hcs.below HAT.out.below hb)
          obtain ⟨so, sc, hv⟩ := hok.l.form
          unfold Pt.agg at HRD
          rw [hv] at c5 HRD HSIX
          clear hcs hok hv
          generalize (ps k).L.length = sl at *
          generalize partS (ps k) l f = x at *
          obtain ⟨l2, f2⟩ := x
          generalize (ps k).K = K at *
          generalize (ps k).U = U at *
          generalize (ps k).N = N at *
          generalize (ps k).B = Bl at *
          generalize (ps k).S = S at *
          obtain ⟨s2, hs2⟩ : ∃ s2, s2 = str l2 := ⟨_, rfl⟩
          have HL : Keep (∀ W, PR (.pointer (some ⟨w.heap.size, 0, none⟩)) l2 f2 W → Calls Try.prog 13 #[.pointer (some ⟨w.heap.size, 0, none⟩)] W fun e w' => e = .returned (.int .i64 s2.size) ∧ Below W.heap.size W w') := ⟨fun W h => by rw [hs2, str_size]; exact left_any _ l2 f2 W h⟩
          have HQ : Keep (∀ W, XR (.pointer (some ⟨B1, 0, none⟩)) l2 f2 W → W.cell? ⟨B1, 0, none⟩ = some (.string s2) ∧ W.cell? ⟨B1, 1, none⟩ = some (.int .i64 f2)) := ⟨fun W h => by rw [hs2]; exact ⟨h.at_.cells.1, h.at_.cells.2.1⟩⟩
          have hltI : (k : Int) < n := by omega
          clear hs2
          go_wp2_with fail
          refine PlanGo.region (fun w' => w'.cell? ⟨b, off + k * 6, none⟩ = some (.int .i64 K) ∧ w'.cell? ⟨b, off + k * 6 + 1, none⟩ = some (.int .u64 U) ∧ w'.cell? ⟨b, off + k * 6 + 2, none⟩ = some (.int .i64 N) ∧ w'.cell? ⟨b, off + k * 6 + 3, none⟩ = some (.bool Bl) ∧ w'.cell? ⟨b, off + k * 6 + 4, none⟩ = some (.string S) ∧ w'.cell? ⟨b, off + k * 6 + 5, none⟩ = some (.slice so sl sc)) [0, 1, 2, 3, 4, 5, 6, 7, 8, 9, 11, 12, 13, 14, 15, 10, 16, 17, 18, 19, 21, 22, 23, 24, 20, 25, 26] (by kernel_rfl) (by kernel_rfl) (fun _ _ d _ _ h => by cases d <;> exact h) rfl (by kernel_rfl) ⟨c0, c1, c2, c3, c4, c5⟩ ?_
          intro wd ewd
          subst ewd
          clear c0 c1 c2 c3 c4 c5
          iterate 6 (refine PlanGo.take (v := ?_) (a' := ?_) rfl (by kernel_rfl) (by kernel_rfl) ?_ ?_ ?_; rotate_left 2; (focus (intro W hW; (try dsimp only at hW); go_simp; (try with_reducible rfl))); (focus (simp only [Act.put, List.setIfInBounds_toArray]; rfl)))
          refine PlanGo.call rfl (by kernel_rfl) (by kernel_rfl) (fun K' hK' => ?_)
          go_simp
          refine HRD.out.mono ?_
          rintro e w2 ⟨rfl, hB⟩
          have HAT2 := keep ((HAT.out.to (Below.refl _ _).drew).step hB HBP.out HBQ.out)
          refine hK'.out _ _ (HSIX.out w2 HAT2.out.below) ?_
          clear hB hK' K'
          (try simp only [Act.put, List.setIfInBounds_toArray])
          refine PlanGo.stronger (S2 := fun w' => (w'.cell? ⟨b, off + k * 6, none⟩ = some (.int .i64 K) ∧ w'.cell? ⟨b, off + k * 6 + 1, none⟩ = some (.int .u64 U) ∧ w'.cell? ⟨b, off + k * 6 + 2, none⟩ = some (.int .i64 N) ∧ w'.cell? ⟨b, off + k * 6 + 3, none⟩ = some (.bool Bl) ∧ w'.cell? ⟨b, off + k * 6 + 4, none⟩ = some (.string S) ∧ w'.cell? ⟨b, off + k * 6 + 5, none⟩ = some (.slice so sl sc)) ∧ (w'.cell? ⟨B1, 0, none⟩ = some (.string s2) ∧ w'.cell? ⟨B1, 1, none⟩ = some (.int .i64 f2))) (fun _ h => h.1) ⟨HSIX.out w2 HAT2.out.below, HQ.out w2 HAT2.out.xr⟩ ?_
          iterate 8 (refine PlanGo.take (v := ?_) (a' := ?_) rfl (by kernel_rfl) (by kernel_rfl) ?_ ?_ ?_; rotate_left 2; (focus (intro W hW; (try dsimp only at hW); go_simp; (try with_reducible rfl))); (focus (simp only [Act.put, List.setIfInBounds_toArray]; rfl)))
          refine PlanGo.call rfl (by kernel_rfl) (by kernel_rfl) (fun K' hK' => ?_)
          go_simp
          refine (HL.out _ HAT2.out.rd).mono ?_
          rintro e w3 ⟨rfl, hB⟩
          have HAT3 := keep (HAT2.out.to hB)
          refine hK'.out _ _ ⟨HSIX.out w3 HAT3.out.below, HQ.out w3 HAT3.out.xr⟩ ?_
          clear hB hK' K'
          (try simp only [Act.put, List.setIfInBounds_toArray])
          iterate 8 (refine PlanGo.take (v := ?_) (a' := ?_) rfl (by kernel_rfl) (by kernel_rfl) ?_ ?_ ?_; rotate_left 2; (focus (intro W hW; (try dsimp only at hW); go_simp; (try with_reducible rfl))); (focus (simp only [Act.put, List.setIfInBounds_toArray]; rfl)))
          refine PlanGo.call rfl (by kernel_rfl) (by kernel_rfl) (fun K' hK' => ?_)
          go_simp
          refine (err_any _ l2 f2 _ HAT3.out.rd).mono ?_
          rintro e w' ⟨rfl, rfl⟩
          refine hK'.out _ _ ⟨HSIX.out w3 HAT3.out.below, HQ.out w3 HAT3.out.xr⟩ ?_
          clear hK' K'
          (try simp only [Act.put, List.setIfInBounds_toArray])
          iterate 2 (refine PlanGo.take (v := ?_) (a' := ?_) rfl (by kernel_rfl) (by kernel_rfl) ?_ ?_ ?_; rotate_left 2; (focus (intro W hW; (try dsimp only at hW); go_simp; (try with_reducible rfl))); (focus (simp only [Act.put, List.setIfInBounds_toArray]; rfl)))
          refine PlanGo.done ?_
          go_wp2_with fail
          go_roundw
          case rel => exact ⟨k + 1, l2, f2, by go_num, by omega, HAT3⟩
          case measure => simp [intOf]; omega
        · obtain rfl : k = n := by omega
          have HE := keep (end_any (.pointer (some ⟨w.heap.size, 0, none⟩)) l f wr HAT.out.rd)
          have HXE := keep (fun W h => xend_any (.pointer (some ⟨B1, 0, none⟩)) l f W h)
          generalize endV l f = ev at *
          go_wp2_with fail
          refine HE.out.mono ?_
          rintro e w2 ⟨rfl, hb2⟩
          have HAT2 := keep (HAT.out.to hb2)
          clear hb2
          go_wp2_with fail
          refine (HXE.out w2 HAT2.out.xr).mono ?_
          rintro e w' ⟨rfl, rfl⟩
          go_wp2_with fail
          refine (live_any w2).mono ?_
          rintro e w3 ⟨rfl, hb3⟩
          have HB3 := keep (HAT2.out.below.trans (hb3.mono HAT2.out.below.size))
          clear hb3
          go_wp2_with fail
          go_ret
          exact ⟨rfl, HB3.out⟩
    · clear hx
      go_wp2_with fail
      refine (live_any w).mono ?_
      rintro e w1 ⟨rfl, hb⟩
      have HB := keep hb
      clear hb
      go_wp2_with fail
      go_ret
      exact ⟨rfl, HB.out⟩

theorem walk (a0 : ByteArray) (v : Value) (n : Nat) (ps : Nat → Pt) (w : World) (h : Parts w.heap.size w v n ps) :
    Calls Try.prog 4 #[.string a0, v] w fun e w' => e = .returned (.bool true) ∧ Below w.heap.size w w' := by
  by_cases h0 : (600 : Int) < (a0.size : Int)
  · exact walk_long a0 v w h0
  · rcases h.out with ⟨rfl, o, cap, rfl⟩ | ⟨b, off, cap, rfl, hb, hc⟩
    · exact walk_none a0 o cap ps w h (by omega)
    · exact walk_some a0 b off n cap ps w h (by omega) hb hc
theorem laid : laidOutB Try.prog = true := by kernel_rfl

set_option maxRecDepth 100000 in
theorem lifted (os : Os) (started : os.Started) (H : Type) (enc : TypeId × Value → H) :
    ReturnsInHanded {} Try.checked os 4 .any (Rows.wireReadsSpec.pre6 enc Try.prog Try.f4 Rows.wireReadsRow.domain false) (Rows.wireReadsSpec.post enc Try.prog Try.f4 false true false false) := by
  refine returnsInHanded_of_change (C := Try.checked) own started (by kernel_rfl) Try.func4
    (ChangeSpec.witness6 (enc := enc) (C := Try.checked) false ⟨#[], #[.string ByteArray.empty, .slice none 0 0], []⟩ 8 (by kernel_rfl) (by kernel_rfl) (by kernel_rfl) (by kernel_rfl)) ?_
  intro W base args ds gs before hval0 hW hcnd _
  have hval : ∀ (j : Nat) t v, Try.f4.params[j]? = some t → args[j]? = some v → Value.okWide Try.prog W .any base t v := hval0
  have hW' := hW
  obtain ⟨p, q, hA0, hV, rfl, hfz, hnd⟩ := hW
  have hA : DataW.TrodAll enc Try.prog W 0 (fun _ => true) true Try.f4.params.toList args.toList ds p := hA0
  rw [Try.params4] at hA hval
  obtain ⟨v0, vs0, d0, ds0, p0, q0, hargs, rfl, rfl, h0, r0⟩ := trodAll_cons hA
  obtain ⟨v1, vs1, d1, ds1, p1, q1, rfl, rfl, rfl, h1, r1⟩ := trodAll_cons r0
  obtain ⟨rfl, rfl, rfl⟩ := trodAll_nil r1
  obtain rfl : args = #[v0, v1] := by cases args; simp_all
  obtain ⟨rfl, rfl⟩ := trodVars_none hV
  obtain ⟨a0, rfl, rfl, rfl, w0⟩ := open_string Try.underlying9 (hval 0 9 v0 rfl rfl) h0
  obtain ⟨n, ps, hP⟩ := parts_of (enc := enc) h1 (hval 1 22 v1 rfl rfl)
  clear hA0 hval0
  simp only [List.append_nil] at hW'
  have hlt1 : ∀ x ∈ p1, x.block < W.heap.size := fun x hx => by
    have := hW'.lt x (by simp [hx])
    simpa using this
  refine (walk a0 v1 n ps W hP).mono fun e W' ⟨he, hg⟩ => ?_
  subst he
  exact ⟨_, rfl, _, _, _, [], _, [], hW', (trodAll_cons_mk (shut_bool Try.underlying4 _) trodAll_mk0), (trodAll_cons_mk (shut_string Try.underlying9 w0) (trodAll_cons_mk (Below.trod laid (by kernel_rfl) (of_decide_eq_true (by kernel_rfl)) h1 hg hlt1) trodAll_mk0)), rfl, hg.frame _, fun h => by cases h⟩

theorem over : Rows.wireReadsRow.holds Try.pinned (OpenSpec.ofChange Rows.wireReadsSpec) :=
  OpenClaim.holds_of_wide 4 Try.f4 rfl rfl rfl rfl rfl rfl rfl ⟨rfl, rfl, rfl, rfl, rfl⟩ rfl rfl rfl rfl rfl (by kernel_rfl) Try.func4 (by kernel_rfl)
    (of_decide_eq_true (by kernel_rfl)) (by unfold Func.isWrapper; first | (rw [if_pos (by decide +kernel)]; kernel_rfl) | (rw [if_neg (by decide +kernel)]; exact ⟨rfl, rfl⟩))
    (fun os started H enc _ => lifted os started H enc)

/-- The statement. -/
theorem proved : Rows.WireReadsSaid :=
  over
#print axioms proved
end Go.Proofs.Ytafeahjhdjcimaa.wireReads
