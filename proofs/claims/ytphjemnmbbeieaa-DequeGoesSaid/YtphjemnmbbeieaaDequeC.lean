/-
  The deque's row laid into another ring; room made, and given back; a place cleared.
-/
import Derived.Test.YtphjemnmbbeieaaDequeB
import Derived.Laws.OwnMore
namespace Go.Proofs.Ytphjemnmbbeieaa
open Go.RowKit

/-- The zero value of an element. -/
theorem elZero : (Try.prog.info? 9).map (fun i => (i.zero, i.size, i.bytes)) = some (some (.string ⟨#[]⟩), 1, 16) := by kernel_rfl

theorem make_run {k : Nat} (hk : k ≤ 1000000) (w : World) :
    (Instr.makeSlice 25 (.int .i64 (k : Int)) (.int .i64 (k : Int))).run Try.prog w = .ok (.slice (some ⟨w.heap.size, 0, none⟩) k k) (w.alloc (.cells (List.replicate k (Value.string ⟨#[]⟩)).toArray 9)) := by
  obtain ⟨i, hi, hz, h1, h2⟩ : ∃ i, Try.prog.info? 9 = some i ∧ i.zero = some (.string ⟨#[]⟩) ∧ i.size = 1 ∧ i.bytes = 16 := by
    have h := elZero
    cases hq : Try.prog.info? 9 with
    | none => rw [hq] at h; cases h
    | some i => rw [hq] at h; simp at h; exact ⟨i, rfl, h.1, h.2.1, h.2.2⟩
  have hr := run_make (P := Try.prog) w 25 9 i (.string ⟨#[]⟩) Try.underlying25 hi hz .i64 .i64 k k (by omega) (by omega) (by rw [h2]; omega) (by omega)
  rw [Int.toNat_natCast, h1, Nat.mul_one] at hr
  rw [hr]
  have e : madeCells (Value.string ⟨#[]⟩).cells k = (List.replicate k (Value.string ⟨#[]⟩)).toArray := by
    apply Array.toList_inj.1
    have := toList_madeCells_one (Value.string ⟨#[]⟩) k
    simpa [Value.cells] using this
  rw [e]

/-- What is behind a step that turns the deque alone. -/
def DTo (d : Nat) (r : Option Nat) (l : List ByteArray) (w w' : World) : Prop := ∃ r', DQ d r' l w' ∧ DKept d r r' w w'

set_option maxHeartbeats 1000000 in
theorem resize_any (d : Nat) (r : Option Nat) (l : List ByteArray) (s : Nat) (w : World) (h : DQ d r l w) (hl : l.length ≤ s) (hs0 : 0 < s) (hs : s ≤ 1000000) :
    Calls Try.prog 37 #[.pointer (some ⟨d, 0, none⟩), .int .i64 (s : Int)] w fun e w' => e = .returned (.tuple #[]) ∧ ∃ g cs, DAt d g cs 0 l w' ∧ cs.length = s ∧ DKept d r (some g) w w' := by
  have H := keep h
  obtain ⟨o, n, f, hb, hn, hf, hln⟩ := h.box
  have HB := keep hb
  obtain ⟨_, _, c2, _⟩ := hb.cells
  obtain ⟨g, hg⟩ : ∃ g, g = w.heap.size := ⟨_, rfl⟩
  have HG := keep hg
  have hmk := make_run hs w
  rw [← hg] at hmk
  have hsl := run_upto (P := Try.prog) (t := 25) Try.underlying25 elSize (some ⟨g, 0, none⟩) s s l.length hl (fun x e => by injection e with e; rw [← e])
  obtain ⟨w1, hw1⟩ : ∃ w1, w1 = w.alloc (.cells (List.replicate s (Value.string ⟨#[]⟩)).toArray 9) := ⟨_, rfl⟩
  rw [← hw1] at hmk
  have hb1 : Below w.heap.size w w1 := by rw [hw1]; exact (Below.refl _ _).alloc (Nat.le_refl _) _
  have HB1 := keep hb1
  have H1 := keep (h.below hb1)
  have c2' : w1.cell? ⟨d, 2, none⟩ = some (.int .i64 (l.length : Int)) := (hb1.cell (p := ⟨d, 2, none⟩) hb.lt).trans c2
  have HN1 : Keep (w1.heap[g]? = some (.cells (List.replicate s (Value.string ⟨#[]⟩)).toArray 9 (0, 0))) := ⟨by rw [hw1, hg]; exact heap_alloc_new w _⟩
  have HLS := keep hl
  have HSS := keep hs
  have HS0 := keep hs0
  have hlI : (l.length : Int) ≤ (s : Int) := by omega
  clear h hb hn hf hln hg hw1 hb1 c2 hl hs hs0
  go_enter Try.func37, Try.ntmps37
  go_wp2_with fail
  refine (copyTo_dq d r l w1 H1.out g s _ HN1.out (fun e => by have := (H.out.rlt g e).1; have := HG.out; omega) (fun e => by have := HB.out.lt; have := HG.out; omega) HLS.out (by simp) HSS.out).mono ?_
  rintro e w2 ⟨rfl, hgr, hrow⟩
  have hd2 : w2.heap[d]? = w1.heap[d]? := hgr.block d H1.out.lt (fun e => by injection e with e; have := HB.out.lt; have := HG.out; omega)
  have hbox2 : DBox d o n f l.length w2 := hd2.trans ((HB1.out.block d HB.out.lt).trans HB.out)
  have hgd : g ≠ d := fun e => by have := HB.out.lt; have := HG.out; omega
  have HAT : Keep (DAt d g (l.map (Value.string) ++ (List.replicate s (Value.string ⟨#[]⟩)).drop l.length) 0 l ((w2.setCell ⟨d, 0, none⟩ (.slice (some ⟨g, 0, none⟩) s s)).setCell ⟨d, 1, none⟩ (.int .i64 0))) := ⟨by
    have hlen : (l.map (Value.string) ++ (List.replicate s (Value.string ⟨#[]⟩)).drop l.length).length = s := by
      rw [List.length_append, List.length_map, List.length_drop, List.length_replicate]; have := HLS.out; omega
    refine ⟨?_, ?_, hgd, by rw [hlen]; exact HSS.out, Ring.fresh (by rw [hlen]; exact HS0.out)⟩
    · rw [hlen]
      exact (hbox2.set0 (some ⟨g, 0, none⟩) s).set1 0
    · rw [heap_setCell_other _ _ _ _ hgd, heap_setCell_other _ _ _ _ hgd]
      exact hrow⟩
  have HCL : Keep ((l.map (Value.string) ++ (List.replicate s (Value.string ⟨#[]⟩)).drop l.length).length = s) := ⟨by
    rw [List.length_append, List.length_map, List.length_drop, List.length_replicate]; have := HLS.out; omega⟩
  have HKP : Keep (DKept d r (some g) w ((w2.setCell ⟨d, 0, none⟩ (.slice (some ⟨g, 0, none⟩) s s)).setCell ⟨d, 1, none⟩ (.int .i64 0))) := ⟨by
    have h1 : w.heap.size ≤ w2.heap.size := Nat.le_trans HB1.out.size hgr.size
    refine ⟨hgr.os.trans HB1.out.os, hgr.tape.trans HB1.out.tape, hgr.output.trans HB1.out.output, by simpa using h1, fun k hk hd _ => ?_, fun k e => ?_⟩
    · rw [heap_setCell_other _ _ _ _ hd, heap_setCell_other _ _ _ _ hd, hgr.block k (Nat.lt_of_lt_of_le hk HB1.out.size) (fun e => by injection e with e; have := HG.out; omega)]
      exact HB1.out.block k hk
    · injection e with e
      exact .inr (by have := HG.out; omega)⟩
  obtain ⟨_, _, _, z0, z1, _⟩ := hbox2.cells
  obtain ⟨e0, e1, _⟩ := hbox2.cells
  clear hgr hrow hd2 hbox2 hgd
  go_wp2_with fail
  go_end0
  exact ⟨rfl, g, _, HAT.out, HCL.out, HKP.out⟩
end Go.Proofs.Ytphjemnmbbeieaa
