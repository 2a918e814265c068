/-
  The program's functions on rows: may a node have so many kids, the class of the k-th; whether a node fits.
-/
import Derived.Test.YtgodjgbdjgiapaaTreeR
namespace Go.Proofs.Ytgodjgbdjgiapaa
open Go.RowKit Go.Joins

theorem shp_len (x : Nd) : (shpP x).first.length ≤ 4 ∧ (shpP x).last.length ≤ 4 := by
  have hp : (plainP x.O).length ≤ 3 := by
    unfold plainP
    repeat' split
    all_goals simp
  unfold shpP
  repeat' split
  all_goals (refine ⟨?_, by dsimp only; simp⟩; dsimp only)
  all_goals (first | (simp; done) | (rw [List.length_append]; simp; omega) | omega)

set_option maxHeartbeats 2000000 in
theorem rfits_any (r : Shp) (k : Int) (h1 : r.first.length ≤ 4) (h2 : r.last.length ≤ 4) (w : World) :
    Calls Try.prog 37 #[r.agg, .int .i64 k] w fun e w' => e = .returned (.bool (r.fits k)) ∧ Below w.heap.size w w' := by
  obtain ⟨f, m, la⟩ := r
  unfold Shp.agg Shp.fits
  simp only at h1 h2 ⊢
  have hf : (str f).size = f.length := str_size f
  have hl : (str la).size = la.length := str_size la
  obtain ⟨told, ht⟩ : ∃ t : Int, t = ((f.length + la.length : Nat) : Int) := ⟨_, rfl⟩
  rw [← ht]
  have hw : IntKind.i64.wrap (((str f).size : Int) + ((str la).size : Int)) = told := by rw [hf, hl, show (f.length : Int) + (la.length : Int) = told by omega]; exact IntWalk.i64_in _ ⟨by omega, by omega⟩
  have hm0 : ((ob m) != 0) = (m != 0) := by
    by_cases e : m = 0
    · subst e; rfl
    · have : ob m ≠ 0 := fun c => e (ob_inj (a := m) (b := 0) (by rw [c]; rfl))
      rw [show (m != 0) = true by simpa using e, show (ob m != 0) = true by simpa using this]
  rw [← hm0]
  generalize ob m = M at *
  generalize str f = F at *
  generalize str la = L at *
  have hFs : (F.size : Int) ≤ 4 := by omega
  have hLs : (L.size : Int) ≤ 4 := by omega
  have hsum : (F.size : Int) + (L.size : Int) = told := by omega
  clear hf hl ht h1 h2 hm0 hw
  by_cases he : k = told
  · have hb : (k == told) = true := by simp [he]
    rw [hb]
    clear he
    go_enter Try.func37, Try.ntmps37
    go_wp2_with fail
    go_ret
    exact ⟨rfl, (Below.refl _ _).alloc (Nat.le_refl _) _⟩
  · have hb : (k == told) = false := by simpa using he
    rw [hb, Bool.false_or]
    clear he
    by_cases hlt : told < k
    · have hd : decide (told < k) = true := decide_eq_true hlt
      rw [hd, Bool.true_and]
      go_enter Try.func37, Try.ntmps37
      go_wp2_with fail
      go_ret
      exact ⟨rfl, (Below.refl _ _).alloc (Nat.le_refl _) _⟩
    · have hd : decide (told < k) = false := decide_eq_false hlt
      rw [hd, Bool.false_and]
      go_enter Try.func37, Try.ntmps37
      go_wp2_with fail
      go_ret
      exact ⟨rfl, (Below.refl _ _).alloc (Nat.le_refl _) _⟩

theorem bt_get (l : List UInt8) (i : Nat) (h : i < l.length) : bt (str l) i = ob (l.getD i 0) := by
  have hs : i < (str l).size := by rw [str_size]; exact h
  unfold bt
  rw [dif_pos hs, List.getD_eq_getElem?_getD, List.getElem?_eq_getElem h]
  rfl

set_option maxHeartbeats 2000000 in
theorem rclass_any (r : Shp) (k c : Nat) (h1 : r.first.length ≤ 4) (h2 : r.last.length ≤ 4) (hk : k < c) (hc : (c : Int) ≤ 9223372036854775807) (ht : r.first.length + r.last.length ≤ c) (w : World) :
    Calls Try.prog 38 #[r.agg, .int .i64 (k : Int), .int .i64 (c : Int)] w fun e w' => e = .returned (.int .u8 (ob (r.cls k c))) ∧ Below w.heap.size w w' := by
  obtain ⟨f, m, la⟩ := r
  unfold Shp.agg Shp.cls
  simp only at h1 h2 ht ⊢
  have hf : (str f).size = f.length := str_size f
  have hl : (str la).size = la.length := str_size la
  have HGF := keep (bt_get f)
  have HGL := keep (bt_get la)
  have hgf := get_bt (str f)
  have hgl := get_bt (str la)
  obtain ⟨K, hK⟩ : ∃ K : Int, K = (k : Int) := ⟨_, rfl⟩
  obtain ⟨C, hC⟩ : ∃ C : Int, C = (c : Int) := ⟨_, rfl⟩
  obtain ⟨bk, hbk⟩ : ∃ bk : Int, bk = ((c - la.length : Nat) : Int) := ⟨_, rfl⟩
  by_cases ha : k < f.length
  · have HE : Keep (bt (str f) k = ob (f.getD k 0)) := ⟨HGF.out k ha⟩
    rw [if_pos ha]
    generalize ob (f.getD k 0) = R at *
    generalize str f = F at *
    generalize str la = L at *
    have hkI : (k : Int) < (F.size : Int) := by omega
    have hFs : (F.size : Int) ≤ 4 := by omega
    have hLs : (L.size : Int) ≤ 4 := by omega
    clear hf hl ha hK hC hbk HGF HGL hgl ht h1 h2 hk
    go_enter Try.func38, Try.ntmps38
    go_wp2_with fail
    go_ret
    exact ⟨by rw [← HE.out]; rfl, (Below.refl _ _).alloc (Nat.le_refl _) _⟩
  · rw [if_neg ha]
    obtain ⟨b, hb⟩ : ∃ b, b = c - la.length := ⟨_, rfl⟩
    have hw1 : IntKind.i64.wrap ((c : Int) - ((str la).size : Int)) = (b : Int) := by rw [hl, show (c : Int) - (la.length : Int) = (b : Int) by omega]; exact IntWalk.i64_in _ ⟨by omega, by omega⟩
    rw [← hb]
    have hkf : ¬ ((k : Int) < ((str f).size : Int)) := by omega
    have hd0 : decide (k < (str f).size) = false := decide_eq_false (by omega)
    by_cases hge : b ≤ k
    · obtain ⟨q, hq⟩ : ∃ q, q = k - b := ⟨_, rfl⟩
      rw [if_pos hge, ← hq]
      have HE : Keep (bt (str la) q = ob (la.getD q 0)) := ⟨HGL.out q (by omega)⟩
      have hw2 : IntKind.i64.wrap ((k : Int) - (b : Int)) = (q : Int) := by rw [show (k : Int) - (b : Int) = (q : Int) by omega]; exact IntWalk.i64_in _ ⟨by omega, by omega⟩
      have hqI : (q : Int) < ((str la).size : Int) := by omega
      have hd1 : decide (b ≤ k) = true := decide_eq_true hge
      generalize ob (la.getD q 0) = R at *
      generalize str f = F at *
      generalize str la = L at *
      clear hf hl ha hK hC hbk HGF HGL hgf ht h1 h2 hk hkf hge hb hq hc
      go_enter Try.func38, Try.ntmps38
      go_wp2_with fail
      go_ret
      exact ⟨by rw [← HE.out]; rfl, (Below.refl _ _).alloc (Nat.le_refl _) _⟩
    · rw [if_neg hge]
      have hd1 : decide (b ≤ k) = false := decide_eq_false hge
      generalize ob m = M at *
      generalize str f = F at *
      generalize str la = L at *
      clear hf hl ha hK hC hbk HGF HGL hgf hgl ht h1 h2 hk hkf hge hb hc
      go_enter Try.func38, Try.ntmps38
      go_wp2_with fail
      go_ret
      exact ⟨rfl, (Below.refl _ _).alloc (Nat.le_refl _) _⟩

end Go.Proofs.Ytgodjgbdjgiapaa
