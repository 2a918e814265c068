/-
  Rows of frames in memory; the document's Same at rows that are alike; large, Right.
-/
import Derived.Test.YtghgahcgbnpidaaFrameM
import Derived.BigQuiet
import Derived.Deep.QuietTactic
import Derived.Handy
import Derived.Lib.SmallJoins
namespace Go.Proofs.Ytghgahcgbnpidaa
open Go.RowKit Go.Joins

/-- Frame i. -/
def fa (l : List Fr) (i : Nat) : Fr := l.getD i zf
theorem fa_get {l : List Fr} {i : Nat} (h : i < l.length) : fa l i = l[i] := by unfold fa; simp [List.getD, h]
theorem fa_mem {l : List Fr} {i : Nat} (h : i < l.length) : fa l i ∈ l := by rw [fa_get h]; exact List.getElem_mem h
theorem fa_all {l : List Fr} {p : Fr → Prop} (h : ∀ i, i < l.length → p (fa l i)) : ∀ f ∈ l, p f := by
  intro f hf
  obtain ⟨i, hi, rfl⟩ := List.mem_iff_getElem.1 hf
  rw [← fa_get hi]; exact h i hi

/-- Their cells, one behind the other. -/
def fcs : List Fr → List Value
  | [] => []
  | f :: r => .int .i64 f.K :: .string f.S :: fcs r
theorem fcs_len : ∀ l, (fcs l).length = l.length * 2
  | [] => rfl
  | f :: r => by rw [fcs, List.length_cons, List.length_cons, fcs_len r, List.length_cons]; omega
theorem fcs_append (a b : List Fr) : fcs (a ++ b) = fcs a ++ fcs b := by
  induction a with
  | nil => rfl
  | cons x a ih => rw [List.cons_append, fcs, fcs, ih]; rfl
theorem fcs_at : ∀ (l : List Fr) (i : Nat), i < l.length → (fcs l)[i * 2]? = some (.int .i64 (fa l i).K) ∧ (fcs l)[i * 2 + 1]? = some (.string (fa l i).S)
  | [], i, h => by simp at h
  | f :: r, 0, _ => ⟨rfl, rfl⟩
  | f :: r, i + 1, h => by
    have ih := fcs_at r i (by simpa using h)
    have e : fa (f :: r) (i + 1) = fa r i := by unfold fa; simp [List.getD]
    rw [e, show (i + 1) * 2 = i * 2 + 1 + 1 by omega, fcs]
    simpa using ih

/-- The slice v reads as the frames, in blocks below B. -/
structure FrRow (B : Nat) (w : World) (v : Value) (fs : List Fr) : Prop where
  room : fs.length ≤ 9223372036854775807
  big : ∀ f ∈ fs, f.S.size ≤ 9223372036854775807
  out : (fs = [] ∧ ∃ o cap, v = .slice o 0 cap) ∨ ∃ b off cap, v = .slice (some ⟨b, off, none⟩) fs.length cap ∧ b < B ∧ fs.length ≤ cap ∧ ∀ i, i < fs.length → w.cell? ⟨b, off + i * 2, none⟩ = some (.int .i64 (fa fs i).K) ∧ w.cell? ⟨b, off + i * 2 + 1, none⟩ = some (.string (fa fs i).S)
theorem FrRow.below {B : Nat} {w w' : World} {v : Value} {fs : List Fr} (h : FrRow B w v fs) (hb : Below B w w') : FrRow B w' v fs := by
  refine ⟨h.room, h.big, ?_⟩
  rcases h.out with h | ⟨b, off, cap, h1, h2, h4, h3⟩
  · exact .inl h
  · exact .inr ⟨b, off, cap, h1, h2, h4, fun i hi => ⟨(hb.cell (p := ⟨b, off + i * 2, none⟩) h2).trans (h3 i hi).1, (hb.cell (p := ⟨b, off + i * 2 + 1, none⟩) h2).trans (h3 i hi).2⟩⟩
theorem FrRow.mono {B B' : Nat} {w : World} {v : Value} {fs : List Fr} (h : FrRow B w v fs) (hb : B ≤ B') : FrRow B' w v fs := by
  refine ⟨h.room, h.big, ?_⟩
  rcases h.out with h | ⟨b, off, cap, h1, h2, h4, h3⟩
  · exact .inl h
  · exact .inr ⟨b, off, cap, h1, by omega, h4, h3⟩
theorem FrRow.form {B : Nat} {w : World} {v : Value} {fs : List Fr} (h : FrRow B w v fs) : ∃ o cap, v = .slice o fs.length cap := by
  rcases h.out with ⟨rfl, o, cap, rfl⟩ | ⟨b, off, cap, rfl, _⟩ <;> exact ⟨_, _, rfl⟩
theorem FrRow.of_own {B : Nat} {w : World} {v : Value} {fs : List Fr} (h : w.ownsRow B 23 2 v fs.length (fcs fs)) (hbig : ∀ f ∈ fs, f.S.size ≤ 9223372036854775807) : FrRow w.heap.size w v fs := by
  have hm : fs.length ≤ 9223372036854775807 := by
    rcases h.2 with ⟨_, h0⟩ | ⟨g, cap, cur, _, _, _, h1, h2, _⟩
    · omega
    · unfold maxLen at h2; omega
  refine ⟨hm, hbig, ?_⟩
  rcases h.2 with ⟨rfl, h0⟩ | ⟨g, cap, cur, rfl, hb, hg, hcap, _⟩
  · exact .inl ⟨List.length_eq_zero_iff.1 h0, _, _, rfl⟩
  · refine .inr ⟨g, 0, cap, rfl, ?_, hcap, fun i hi => ?_⟩
    · exact (Array.getElem?_eq_some_iff.1 hg).1
    · have h0 := h.cells (g := g) rfl (i * 2) _ (fcs_at fs i hi).1
      have h1 := h.cells (g := g) rfl (i * 2 + 1) _ (fcs_at fs i hi).2
      rw [show (⟨g, 0, none⟩ : Addr).add (i * 2) = ⟨g, 0 + i * 2, none⟩ by unfold Addr.add; split <;> simp_all] at h0
      rw [show (⟨g, 0, none⟩ : Addr).add (i * 2 + 1) = ⟨g, 0 + i * 2 + 1, none⟩ by unfold Addr.add; split <;> simp_all] at h1
      exact ⟨h0, h1⟩
/-- The first n of them. -/
theorem FrRow.take {B : Nat} {w : World} {b off len cap : Nat} {fs : List Fr} {n : Nat} (h : FrRow B w (.slice (some ⟨b, off, none⟩) len cap) fs) (hn : n ≤ fs.length) (hlt : b < B) : FrRow B w (.slice (some ⟨b, off, none⟩) n cap) (fs.take n) := by
  have e : (fs.take n).length = n := by rw [List.length_take]; omega
  have hr := h.room
  refine ⟨by omega, fun f hf => h.big f (List.mem_of_mem_take hf), ?_⟩
  rcases h.out with ⟨rfl, _⟩ | ⟨b', off', cap', h1, h2, h4, h3⟩
  · have : n = 0 := by simpa using hn
    subst this
    exact .inl ⟨rfl, _, _, rfl⟩
  · injection h1 with h1 h1' h1''
    injection h1 with h1
    injection h1 with e1 e2 e3
    subst e1 e2 h1''
    refine .inr ⟨b, off, cap, by rw [e], hlt, by omega, fun i hi => ?_⟩
    rw [e] at hi
    have : fa (fs.take n) i = fa fs i := by rw [fa_get (by omega), fa_get (by omega)]; simp
    rw [this]; exact h3 i (by omega)

set_option maxHeartbeats 400000 in
theorem fsame_any (v u : Value) (xs : List Fr) (w : World) (h : FrRow w.heap.size w v xs) (h' : FrRow w.heap.size w u xs) :
    Calls Try.prog 16 #[v, u] w fun e w' => e = .returned (.bool true) ∧ Below w.heap.size w w' := by
  have hm := h.room
  rcases h.out with ⟨rfl, o, cap, rfl⟩ | ⟨b, off, cap, rfl, hb, hc4, hc⟩
  · obtain ⟨o', cap', rfl⟩ := h'.form
    clear h h' hm
    simp only [List.length_nil]
    go_enter Try.func16, Try.ntmps16
    go_wp2
    refine wp_loop_rounds 1 ?_
    rw [rounds_succ]
    go_wp2
    go_ret
    exact ⟨rfl, Below.refl _ _⟩
  · rcases h'.out with ⟨rfl, o', cap', rfl⟩ | ⟨b', off', cap', rfl, hb', hc4', hc'⟩
    · clear h h' hm hb hc hc4
      simp only [List.length_nil]
      go_enter Try.func16, Try.ntmps16
      go_wp2
      refine wp_loop_rounds 1 ?_
      rw [rounds_succ]
      go_wp2
      go_ret
      exact ⟨rfl, Below.refl _ _⟩
    · have HC := keep hc
      have HC' := keep hc'
      obtain ⟨n, hn⟩ : ∃ n, n = xs.length := ⟨_, rfl⟩
      rw [← hn] at HC HC' hm ⊢
      have hmI : (n : Int) ≤ 9223372036854775807 := by omega
      clear h h' hc hc' hn hm hc4 hc4'
      go_enter Try.func16, Try.ntmps16
      go_wp2_with fail
      go_loopw [5] (fun i wr => ∃ k : Nat, i = .int .i64 k ∧ k ≤ n ∧ Keep (Below w.heap.size w wr)) (fun i _ => n - (intOf i).toNat)
      case atStart => exact ⟨0, rfl, Nat.zero_le _, ⟨Below.refl _ _⟩⟩
      case round =>
        obtain ⟨k, rfl, hk, HB⟩ := hrel
        by_cases hlt : k < n
        · have hcell := (HB.out.cell (p := ⟨b, off + k * 2, none⟩) hb).trans (HC.out k hlt).1
          have hcell1 := (HB.out.cell (p := ⟨b, off + k * 2 + 1, none⟩) hb).trans (HC.out k hlt).2
          have hcell' := (HB.out.cell (p := ⟨b', off' + k * 2, none⟩) hb').trans (HC'.out k hlt).1
          have hcell1' := (HB.out.cell (p := ⟨b', off' + k * 2 + 1, none⟩) hb').trans (HC'.out k hlt).2
          generalize fa xs k = z at *
          obtain ⟨zk, zs⟩ := z
          simp only at hcell hcell1 hcell' hcell1'
          have hltI : (k : Int) < n := by omega
          go_wp2_with fail
          go_quiet (fail)
          go_wp2_with fail
          go_roundw
          case rel => exact ⟨k + 1, by go_num, by omega, ⟨HB.out.trans (below_draws _ _ _)⟩⟩
          case measure => simp [intOf]; omega
        · obtain rfl : k = n := by omega
          go_wp2_with fail
          go_ret
          exact ⟨rfl, HB.out⟩
end Go.Proofs.Ytghgahcgbnpidaa
