/-
  The document's Piece, Check and Is.
-/
import Derived.Test.YtgodjgbdjgiapaaTreeXP69
import Derived.Test.YtgodjgbdjgiapaaTreeXP83
import Derived.Test.YtgodjgbdjgiapaaTreeXP67
import Derived.Test.YtgodjgbdjgiapaaTreeXP80
import Derived.Test.YtgodjgbdjgiapaaTreeXP66
import Derived.Test.YtgodjgbdjgiapaaTreeXP85
import Derived.Test.YtgodjgbdjgiapaaTreeXP82
import Derived.Test.YtgodjgbdjgiapaaTreeXP68
import Derived.ChangeKeysEq
namespace Go.Proofs.Ytgodjgbdjgiapaa
open Go.RowKit Go.Joins

set_option maxRecDepth 100000 in
set_option maxHeartbeats 2000000 in
theorem piece_out (o : Option Addr) (cap : Nat) (l : List Nd) (a : Nat) (T : ByteArray) (ha : a = l.length) (w : World) : Calls Try.prog 28 #[.slice o l.length cap, .int .i64 (a : Int), .string T] w fun e w' => e = .returned (.agg #[.int .i64 (a : Int), .bool false]) ∧ Below w.heap.size w w' := by
  obtain ⟨n, hn⟩ : ∃ n, n = l.length := ⟨_, rfl⟩
  rw [← hn] at ha ⊢
  clear hn
  have hgd : decide (n ≤ a) = true := decide_eq_true (by omega)
  have HA := keep ha
  clear ha
  go_enter Try.func28, Try.ntmps28
  go_wp2_with fail
  refine bodyPost_ret (v := .agg #[.int .i64 (n : Int), .bool false]) ?_ rfl ⟨by rw [HA.out], (Below.refl _ w).alloc (Nat.le_refl _) _⟩
  simp [results, Try.results28, go_sem]

theorem okC_cases {c : UInt8} (h : okC c = true) : c = 69 ∨ c = 83 ∨ c = 67 ∨ c = 82 ∨ c = 66 ∨ c = 80 ∨ c = 85 ∨ c = 68 := by
  unfold okC at h
  simp only [Bool.or_eq_true, beq_iff_eq] at h
  rcases h with ((((((h | h) | h) | h) | h) | h) | h) | h <;> simp [h]

set_option maxHeartbeats 2000000 in
theorem piece_to (v : Value) (l : List Nd) (B : Nat) (hn : l.length ≤ 1000) : ∀ (d lo : Nat), l.length - lo ≤ d → Tells v l B lo := by
  intro d
  induction d with
  | zero =>
    intro lo hd a c W hoc hlo ha hrow hB
    have hal : a = l.length := by omega
    obtain ⟨o, cap, rfl, -⟩ := hrow.form
    unfold CurIs cur
    rw [goP_end (by omega)]
    exact piece_out o cap l a (str [c]) hal W
  | succ d ih =>
    intro lo hd a c W hoc hlo ha hrow hB
    by_cases hal : a = l.length
    · obtain ⟨o, cap, rfl, -⟩ := hrow.form
      unfold CurIs cur
      rw [goP_end (by omega)]
      exact piece_out o cap l a (str [c]) hal W
    · have hlt : a < l.length := by omega
      obtain ⟨x, hx⟩ := get_of_lt hlt
      have hT := ih (a + 1) (by omega)
      obtain ⟨o, cap, hv, hf⟩ := hrow.form
      obtain ⟨hok, b, off, ho, hb, hc⟩ := hf a x hx
      have hQ : Ask v l x (a + 1) W := Ask.of hn hT hlt hok hrow hB
      have hnd : ∃ b off, o = some ⟨b, off, none⟩ ∧ b < W.heap.size ∧ NdAt W b (off + a * 5) x := ⟨b, off, ho, by omega, hc W (Below.refl _ _)⟩
      subst hv
      unfold CurIs cur
      rcases okC_cases hoc with rfl | rfl | rfl | rfl | rfl | rfl | rfl | rfl
      · exact piece69 (str [69]) (toList_str _) o cap l x a (a + 1) rfl W hn hok.s hok.k1 hok.k2 hx hQ hnd
      · exact piece83 (str [83]) (toList_str _) o cap l x a (a + 1) rfl W hn hok.s hok.k1 hok.k2 hx hQ hnd
      · exact piece67 (str [67]) (toList_str _) o cap l x a (a + 1) rfl W hn hok.s hok.k1 hok.k2 hx hQ hnd
      · exact piece82 (str [82]) (toList_str _) o cap l x a (a + 1) rfl W hn hok.s hok.k1 hok.k2 hx hQ hnd
      · exact piece66 (str [66]) (toList_str _) o cap l x a (a + 1) rfl W hn hok.s hok.k1 hok.k2 hx hQ hnd
      · exact piece80 (str [80]) (toList_str _) o cap l x a (a + 1) rfl W hn hok.s hok.k1 hok.k2 hx hQ hnd
      · exact piece85 (str [85]) (toList_str _) o cap l x a (a + 1) rfl W hn hok.s hok.k1 hok.k2 hx hQ hnd
      · exact piece68 (str [68]) (toList_str _) o cap l x a (a + 1) rfl W hn hok.s hok.k1 hok.k2 hx hQ (fun g hg W' hW' => row_in _ l B (a + 1) hT [66] (by decide) (by decide) g hg.1 hg.2 W' (hrow.below (hW'.mono hB)) (Nat.le_trans hB hW'.size)) hnd

set_option maxHeartbeats 2000000 in
theorem rcheck_any (v : Value) (l : List Nd) (hn : l.length ≤ 1000) (w : World) (h : NdRow w.heap.size w v l) :
    Calls Try.prog 17 #[v] w fun e w' => e = .returned (.agg #[.int .i64 ((checkP l).1 : Int), .int .i64 (checkP l).2]) ∧ Below w.heap.size w w' := by
  have HP := keep (fun W (hW : Below w.heap.size w W) => piece_to v l w.heap.size hn _ 0 (Nat.le_refl _) 0 85 W (by decide) (Nat.le_refl _) (Nat.zero_le _) (h.below hW) hW.size)
  unfold CurIs cur at HP
  have HCK : Keep (checkP l = if (goP l [85] 0).2 = true ∧ (goP l [85] 0).1 = l.length then (0, 0) else ((goP l [85] 0).1, 3)) := ⟨rfl⟩
  generalize goP l [85] 0 = g at *
  obtain ⟨a, b⟩ := g
  simp only at HP HCK
  rw [show str [85] = ⟨#[85]⟩ from rfl] at HP
  obtain ⟨o, cap, rfl, -⟩ := h.form
  have hr0 := BoxL.new w [.int .i64 0, .int .i64 0] 35
  have hb0 : Below w.heap.size w (w.alloc (.cells #[.int .i64 0, .int .i64 0] 35)) := (Below.refl _ w).alloc (Nat.le_refl _) _
  have HR0 := keep hr0
  have HB0 := keep hb0
  have hz : ((0 : Nat) : Int) = 0 := rfl
  rw [hz] at HP
  generalize checkP l = C at *
  clear h hn hr0 hb0 hz
  go_enter Try.func17, Try.ntmps17
  go_wp2_with fail
  refine (HP.out _ HB0.out).mono ?_
  rintro e w1 ⟨rfl, hb⟩
  have HB1 := keep (HB0.out.trans (hb.mono HB0.out.size))
  have hsz : ∀ x y : Value, ((w1.setCell ⟨w.heap.size, 0, none⟩ x).setCell ⟨w.heap.size, 1, none⟩ y).heap.size = w1.heap.size := fun x y => by simp only [World.size_setCell]
  have hw1 : w.heap.size < w1.heap.size := (HR0.out.to hb).lt
  have hne : ¬ w1.heap.size = w.heap.size := by omega
  have hne2 : ¬ w.heap.size = w1.heap.size := by omega
  have r0 := (HR0.out.to hb).row 0 _ rfl
  have r1 := (HR0.out.to hb).row 1 _ rfl
  have rf := (HR0.out.to hb).free
  have rl := (HR0.out.to hb).lt
  obtain ⟨rs0, rs1⟩ := (HR0.out.to hb).put2
  clear hb
  cases b with
  | true =>
    by_cases hal : a = l.length
    · have he : ((a : Int) == (l.length : Int)) = true := by simp [hal]
      have HE : Keep ((0, 0) = C) := ⟨by rw [HCK.out, if_pos ⟨rfl, hal⟩]⟩
      clear hal HCK
      go_wp2_with fail
      refine bodyPost_ret (v := .agg #[.int .i64 0, .int .i64 0]) ?_ rfl ⟨by rw [← HE.out]; rfl, ((HB1.out.setCell (p := ⟨w.heap.size, 0, none⟩) (Nat.le_refl _) _).setCell (p := ⟨w.heap.size, 1, none⟩) (Nat.le_refl _) _).alloc (by rw [hsz]; exact HB1.out.size) _⟩
      simp [results, Try.results17, go_sem, rs0, rs1, hsz, hw1]
    · have he : ((a : Int) == (l.length : Int)) = false := by simp; omega
      have HE : Keep ((a, 3) = C) := ⟨by rw [HCK.out, if_neg (fun e => hal e.2)]⟩
      clear hal HCK
      go_wp2_with fail
      refine bodyPost_ret (v := .agg #[.int .i64 (a : Int), .int .i64 3]) ?_ rfl ⟨by rw [← HE.out], ((HB1.out.setCell (p := ⟨w.heap.size, 0, none⟩) (Nat.le_refl _) _).setCell (p := ⟨w.heap.size, 1, none⟩) (Nat.le_refl _) _).alloc (by rw [hsz]; exact HB1.out.size) _⟩
      simp [results, Try.results17, go_sem, rs0, rs1, hsz, hw1]
  | false =>
    have HE : Keep ((a, 3) = C) := ⟨by rw [HCK.out, if_neg (fun e => by cases e.1)]⟩
    clear HCK
    go_wp2_with fail
    refine bodyPost_ret (v := .agg #[.int .i64 (a : Int), .int .i64 3]) ?_ rfl ⟨by rw [← HE.out], ((HB1.out.setCell (p := ⟨w.heap.size, 0, none⟩) (Nat.le_refl _) _).setCell (p := ⟨w.heap.size, 1, none⟩) (Nat.le_refl _) _).alloc (by rw [hsz]; exact HB1.out.size) _⟩
    simp [results, Try.results17, go_sem, rs0, rs1, hsz, hw1]

/-- Two pairs held against one another. -/
theorem eq2_any (a b c d : Int) (W : World) : (Op.equalIn 10000 35 (.agg #[.int .i64 a, .int .i64 b]) (.agg #[.int .i64 c, .int .i64 d])).run Try.prog W = .ok ((a == c) && (b == d)) W := by
  obtain ⟨i, hi, -, -, -⟩ := info_parts (show (Try.prog.info? 3).map (fun i => (i.zero, i.size, i.bytes)) = some (some (.int .i64 0), 1, 8) by kernel_rfl)
  refine (Go.run_equalIn_array W 9999 _ _ Try.underlying35 hi).trans ?_
  rw [show Try.prog.cellsOf 3 = 1 by kernel_rfl]
  rw [show List.range 2 = [0, 1] from rfl]
  simp [Op.eqItems, go_sem]
  by_cases h1 : a = c <;> by_cases h2 : b = d <;> simp [h1, h2]
theorem eq2_is {a b c d : Int} {r : Bool} (h : ((a == c) && (b == d)) = r) : ∀ W, (Op.equalIn 10000 35 (.agg #[.int .i64 a, .int .i64 b]) (.agg #[.int .i64 c, .int .i64 d])).run Try.prog W = .ok r W := fun W => by rw [eq2_any, h]
theorem check_ways (l : List Nd) : (checkP l).2 = 0 ∧ (checkP l).1 = 0 ∨ (checkP l).2 = 3 := by
  unfold checkP
  split
  · exact .inl ⟨rfl, rfl⟩
  · exact .inr rfl
theorem is_any (v : Value) (l : List Nd) (hn : l.length ≤ 1000) (w : World) (h : NdRow w.heap.size w v l) :
    Calls Try.prog 20 #[v] w fun e w' => e = .returned (.bool ((checkP l).2 == 0)) ∧ Below w.heap.size w w' := by
  have HC := keep (rcheck_any v l hn w h)
  obtain ⟨o, cap, rfl, -⟩ := h.form
  have hw := check_ways l
  generalize checkP l = C at *
  obtain ⟨p, q⟩ := C
  simp only at HC hw ⊢
  have heq := eq2_is (a := (p : Int)) (b := q) (c := 0) (d := 0) (r := (q == 0)) (by
    rcases hw with ⟨rfl, rfl⟩ | rfl
    · rfl
    · simp)
  clear h hn hw
  go_enter Try.func20, Try.ntmps20
  go_wp2_with fail
  refine HC.out.mono ?_
  rintro e w1 ⟨rfl, hb⟩
  have HB := keep hb
  clear hb HC
  go_wp2_with fail
  go_ret
  exact ⟨rfl, HB.out⟩
end Go.Proofs.Ytgodjgbdjgiapaa
