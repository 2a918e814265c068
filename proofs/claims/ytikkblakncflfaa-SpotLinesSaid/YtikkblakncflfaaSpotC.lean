/-
  Each and its function, whatever a round does.
-/
import Derived.Test.YtikkblakncflfaaSpotB
import Derived.Test.YtikkblakncflfaaLoop
namespace Go.Proofs.Ytikkblakncflfaa
open Go.RowKit Go.Shelf
attribute [local go_sem] Oper.semAt_some

theorem each_any (s : ByteArray) (w : World) : Calls Try.prog 10 #[.string s] w fun e w' => e = .returned (.func (.func 16) #[] #[.pointer (some ⟨w.heap.size, 0, none⟩)]) ∧ w' = w.alloc (.cells #[.string s] 9) := by
  go_enter Try.func10, Try.ntmps10
  go_wp2_with fail
  go_ret
  exact ⟨rfl, rfl⟩

/-- A line and its number. -/
abbrev Ln : Type := Nat × List UInt8
def encL (x : Ln) : Array Value := #[.int .i64 (x.1 : Int), .string (str x.2)]
/-- What a round must keep: nothing. -/
def KpT (_ _ : World) : Prop := True
/-- The lines that are still to come. -/
def toCome (r : List UInt8) (m : Bool) : List (List UInt8) := if m then lines r else []
def msr (rv mv : Value) : Nat := match rv, mv with
  | .string x, .bool true => x.size + 1
  | _, _ => 0

theorem cut_come {r a r' : List UInt8} {m : Bool} (h : CutIs r a r' m) : toCome r true = a :: toCome r' m ∧ r'.length ≤ r.length ∧ (m = true → r'.length < r.length) := by
  rcases h with ⟨rfl, rfl, h⟩ | ⟨rfl, rfl, rfl, h⟩
  · exact ⟨by simp [toCome, lines_cut h], by simp; omega, fun _ => by simp; omega⟩
  · exact ⟨by simp [toCome, lines_none h], by simp, fun h => by cases h⟩

set_option maxRecDepth 100000 in
set_option maxHeartbeats 4000000 in
theorem each1_in (n L Bs : Nat) (s : ByteArray) (hs : s.size ≤ 100000) (J Jx : List Ln → World → Prop) (W0 : World) (hJ : AbidesFrom W0.heap.size J)
    (hY : ∀ pre x W, J pre W → pre.length < (lines s.data.toList).length → YieldAt Fence.wide (n - 1) Try.prog L (encL x) W fun e W' =>
      (e = .returned (.bool true) ∧ J (pre ++ [x]) W' ∧ KpT W W') ∨ (e = .returned (.bool false) ∧ Jx (pre ++ [x]) W'))
    (hBs : W0.heap[Bs]? = some (.cells #[.string s] 9 (0, 0))) (h0 : J [] W0) :
    CallsIn Fence.wide n Try.prog 16 #[.func (.yield L) #[] #[], .pointer (some ⟨Bs, 0, none⟩)] W0 fun e W' => (∃ v, e = .returned v) ∧
      ((∃ zs, zs = prs 1 (lines s.data.toList) ∧ J zs W') ∨ (∃ pre, pre <+: prs 1 (lines s.data.toList) ∧ Jx pre W')) := by
  have hcb : W0.cell? ⟨Bs, 0, none⟩ = some (.string s) := by rw [cell_of_row W0 Bs 0 _ _ _ hBs]; rfl
  have hLN : (lines s.data.toList).length ≤ 100001 := by rw [lines_length]; have := ofP_le s.data.toList; rw [← size_list] at this; omega
  have HSL : Keep (s.data.toList.length ≤ 100000) := ⟨by rw [← size_list]; exact hs⟩
  have HLN := keep hLN
  have HJ := keep hJ
  have HY := keep hY
  have H0 := keep h0
  have hdd : ∀ k : Nat, (Fence.wide.depth.isSome = true → 1 ≤ k) := fun k h => by cases h
  obtain ⟨l, hl⟩ : ∃ l, l = lines s.data.toList := ⟨_, rfl⟩
  have HL : Keep (l = toCome s.data.toList true) := ⟨hl⟩
  rw [← hl] at HLN HY ⊢
  clear hs hJ hY h0 hBs hl hLN
  refine callsIn_of_wp Try.func16 rfl trivial ?_ rfl
  simp only [Try.ntmps16, List.size_toArray, List.length_cons, List.length_nil, Nat.reduceAdd, Nat.reduceSub, Array.replicate_succ, Array.replicate_zero, List.push_toArray, List.append_toArray, List.nil_append, List.cons_append]
  gi_wp2
  have HSTART : Keep (Keep (l = [] ++ toCome s.data.toList true) ∧ W0.heap.size ≤ W0.heap.size) := ⟨⟨by simpa using HL.out⟩, Nat.le_refl _⟩
  clear hcb
  gi_loopw [3, 4, 5] (fun rv mv nv wr => ∃ (pre : List (List UInt8)) (r : List UInt8) (m : Bool) (q : Nat), rv = .string (str r) ∧ mv = .bool m ∧ nv = .int .i64 (q : Int) ∧ (q : Int) ≤ 100002 ∧ Keep (q = 1 + pre.length ∧ l = pre ++ toCome r m ∧ r.length ≤ 100000 ∧ J (prs 1 pre) wr)) (fun rv mv _ _ => msr rv mv)
  case atStart => exact ⟨[], s.data.toList, true, 1, by rw [str_eta], rfl, rfl, by omega, ⟨rfl, HL.out, HSL.out, H0.out⟩⟩
  case round =>
    obtain ⟨pre, r, m, q, rfl, rfl, rfl, hqI, HR⟩ := hrel
    cases m with
    | false =>
      gi_wp2
      have HE : Keep (J (prs 1 l) wr) := ⟨by have h := HR.out.2.2.2; have e := HR.out.2.1; rw [e]; simpa [toCome] using h⟩
      exact bodyPost_end (results_none rfl _ _ _) rfl ⟨⟨_, rfl⟩, .inl ⟨_, rfl, HE.out⟩⟩
    | true =>
      have HCUT := keep (fun W => cut_any (str r) (by rw [str_size]; have := HR.out.2.2.1; omega) W)
      rw [str_data] at HCUT
      have HYY : Keep (∀ (a r' : List UInt8) (m' : Bool) (W1 : World), CutIs r a r' m' → Below wr.heap.size wr W1 → YieldAt Fence.wide (n - 1) Try.prog L #[.int .i64 (q : Int), .string (str a)] W1 fun e W' => (e = .returned (.bool true) ∧ Keep (l = (pre ++ [a]) ++ toCome r' m' ∧ r'.length ≤ 100000 ∧ (m' = true → r'.length < r.length) ∧ (pre ++ [a]).length ≤ 100001 ∧ J (prs 1 (pre ++ [a])) W')) ∨ (e = .returned (.bool false) ∧ Keep (∃ p, p <+: prs 1 l ∧ Jx p W'))) := ⟨fun a r' m' W1 hc hb => by
        obtain ⟨h1, h2, h3⟩ := cut_come hc
        obtain ⟨hq, hl, hr, hj⟩ := HR.out
        rw [h1] at hl
        have hj1 : J (prs 1 pre) W1 := HJ.out _ _ _ none hj (below_grown hb) (fun _ e => by cases e)
        have hp : prs 1 pre ++ [(1 + pre.length, a)] = prs 1 (pre ++ [a]) := (prs_snoc 1 pre a).symm
        have := HY.out (prs 1 pre) (q, a) W1 hj1 (by rw [prs_length, hl]; simp)
        rw [show encL (q, a) = #[.int .i64 (q : Int), .string (str a)] from rfl] at this
        refine YieldAt.mono this fun e W' h => ?_
        rw [hq, hp] at h
        rcases h with ⟨he, hj', _⟩ | ⟨he, hx⟩
        · exact .inl ⟨he, ⟨by rw [hl]; simp, by omega, h3, by have := HLN.out; rw [hl] at this; simp at this ⊢; omega, hj'⟩⟩
        · exact .inr ⟨he, ⟨_, by rw [hl, show pre ++ a :: toCome r' m' = (pre ++ [a]) ++ toCome r' m' by simp, prs_append 1 (pre ++ [a])]; exact List.prefix_append _ _, hx⟩⟩⟩
      have HQ : Keep (q = 1 + pre.length) := ⟨HR.out.1⟩
      clear HR
      gi_wp2_with (first
        | (refine ⟨trivial, ?_⟩; (try refine ⟨hdd _, ?_⟩); gi_at_call 17; refine (callsIn_wide.2 (HCUT.out _)).mono ?_; clear HCUT; rintro e W1 ⟨a, r', m', rfl, hc, hb⟩; have HYR := HYY.out a r' m' W1 hc hb; obtain ⟨fn, tmps, assign, body, hy, hR⟩ := HYR; have HR := keep hR; clear hR HYY hc hb)
        | ((try refine ⟨hdd _, ?_⟩); refine HR.out.mono ?_; clear HR; rintro e W2 (⟨rfl, HJ2⟩ | ⟨rfl, HX2⟩)))
      · go_roundw
        case rel => exact ⟨pre ++ [a], r', m', q + 1, rfl, rfl, by go_num, by have := HJ2.out.2.2.2.1; rw [List.length_append] at this; simp at this; have := HQ.out; omega, ⟨by rw [HQ.out, List.length_append]; simp; omega, HJ2.out.1, HJ2.out.2.1, HJ2.out.2.2.2.2⟩⟩
        case measure =>
          cases m' with
          | false => simp [msr]
          | true => have := HJ2.out.2.2.1 rfl; simp [msr, str_size]; omega
      · refine bodyPost_ret (results_none rfl _ _ _) rfl ?_
        exact ⟨⟨_, rfl⟩, .inr HX2.out⟩

theorem each_stops (n Bs : Nat) (s : ByteArray) (hs : s.size ≤ 100000) (w : World) (hB : w.heap[Bs]? = some (.cells #[.string s] 9 (0, 0))) :
    SeqStopsK Fence.wide n Try.prog 16 #[.pointer (some ⟨Bs, 0, none⟩)] encL KpT (fun zs => zs = prs 1 (lines s.data.toList)) (fun pre => pre <+: prs 1 (lines s.data.toList)) (lines s.data.toList).length w := fun L J Jx W hW' hJ _ hY h0 =>
  each1_in n L Bs s hs J Jx W hJ hY ((hW'.block Bs (Array.getElem?_eq_some_iff.1 hB).1).trans hB) h0
theorem func_nil (B : Nat) (W : World) : (binOp .eql 28 (.func (.func 16) #[] #[.pointer (some ⟨B, 0, none⟩)]) .nilFunc).run Try.prog W = .ok (.bool false) W := by kernel_rfl
end Go.Proofs.Ytikkblakncflfaa
