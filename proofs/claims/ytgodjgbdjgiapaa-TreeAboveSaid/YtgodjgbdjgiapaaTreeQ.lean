/-
  The document's functions on lists: whether a node has a name or none; pieces of classes, given that pieces further on are told right.
-/
import Derived.Test.YtgodjgbdjgiapaaTreeA
import Derived.Test.YtgodjgbdjgiapaaTreeN
import Derived.Test.YtgodjgbdjgiapaaAny
namespace Go.Proofs.Ytgodjgbdjgiapaa
open Go.RowKit Go.Joins

theorem rname_s (s : ByteArray) (hs : s.size ≤ 9223372036854775807) (w : World) : Calls Try.prog 45 #[.string s] w fun e w' => e = .returned (.bool (nmP s)) ∧ Below w.heap.size w w' := by
  have := rname_any s.data.toList (by rw [← size_list]; exact hs) w
  rw [str_eta] at this
  exact this

/-- With a name, and so many kids. -/
def nmd (x : Nd) (k : Int) : Bool := nmP x.S && (x.N == 0) && (x.K == k)
/-- Without a name, and with so many kids. -/
def bar (x : Nd) (k : Int) : Bool := noP x.S && (x.N == 0) && (x.K == k)

set_option maxHeartbeats 2000000 in
theorem name_any' (x : Nd) (k : Int) (hs : x.S.size ≤ 9223372036854775807) (w : World) : Calls Try.prog 42 #[x.agg, .int .i64 k] w fun e w' => e = .returned (.bool (nmd x k)) ∧ Below w.heap.size w w' := by
  obtain ⟨o, s, n, kk, a⟩ := x
  have HN := keep (fun W => rname_s s hs W)
  unfold Nd.agg nmd
  simp only
  generalize nmP s = b at *
  have HBX : Keep (BoxL (w.alloc (.cells #[.int .i64 o, .string s, .int .i64 n, .int .i64 kk, .int .i64 a] 39)) w.heap.size [.int .i64 o, .string s, .int .i64 n, .int .i64 kk, .int .i64 a]) := ⟨BoxL.new w _ _⟩
  have HB0 : Keep (Below w.heap.size w (w.alloc (.cells #[.int .i64 o, .string s, .int .i64 n, .int .i64 kk, .int .i64 a] 39))) := ⟨(Below.refl _ w).alloc (Nat.le_refl _) _⟩
  clear hs
  cases b with
  | false =>
    rw [Bool.false_and, Bool.false_and]
    go_enter Try.func42, Try.ntmps42
    go_wp2_with fail
    refine (HN.out _).mono ?_
    rintro e w1 ⟨rfl, hb⟩
    have hx2 := (HBX.out.to hb).row 2 _ rfl
    have hx3 := (HBX.out.to hb).row 3 _ rfl
    have HB1 := keep (HB0.out.trans (hb.mono HB0.out.size))
    clear hb
    go_wp2_with fail
    go_ret
    exact ⟨rfl, HB1.out⟩
  | true =>
    by_cases hn : n = 0
    · have h1 : (n == 0) = true := by simp [hn]
      rw [h1, Bool.true_and, Bool.true_and]
      clear hn
      go_enter Try.func42, Try.ntmps42
      go_wp2_with fail
      refine (HN.out _).mono ?_
      rintro e w1 ⟨rfl, hb⟩
      have hx2 := (HBX.out.to hb).row 2 _ rfl
      have hx3 := (HBX.out.to hb).row 3 _ rfl
      have HB1 := keep (HB0.out.trans (hb.mono HB0.out.size))
      clear hb
      go_wp2_with fail
      go_ret
      exact ⟨rfl, HB1.out⟩
    · have h1 : (n == 0) = false := by simpa using hn
      rw [h1, Bool.true_and, Bool.false_and]
      clear hn
      go_enter Try.func42, Try.ntmps42
      go_wp2_with fail
      refine (HN.out _).mono ?_
      rintro e w1 ⟨rfl, hb⟩
      have hx2 := (HBX.out.to hb).row 2 _ rfl
      have hx3 := (HBX.out.to hb).row 3 _ rfl
      have HB1 := keep (HB0.out.trans (hb.mono HB0.out.size))
      clear hb
      go_wp2_with fail
      go_ret
      exact ⟨rfl, HB1.out⟩

set_option maxHeartbeats 2000000 in
theorem bare_any (x : Nd) (k : Int) (w : World) : Calls Try.prog 44 #[x.agg, .int .i64 k] w fun e w' => e = .returned (.bool (bar x k)) ∧ Below w.heap.size w w' := by
  obtain ⟨o, s, n, kk, a⟩ := x
  unfold Nd.agg bar noP
  simp only
  by_cases hs : s.toList.isEmpty = true
  · rw [hs, Bool.true_and]
    have hs' : (s.toList == []) = true := by rw [List.isEmpty_iff] at hs; rw [hs]; rfl
    by_cases hn : n = 0
    · have h1 : (n == 0) = true := by simp [hn]
      rw [h1, Bool.true_and]
      clear hn hs
      go_enter Try.func44, Try.ntmps44
      go_wp2_with fail
      go_ret
      exact ⟨rfl, (Below.refl _ _).alloc (Nat.le_refl _) _⟩
    · have h1 : (n == 0) = false := by simpa using hn
      rw [h1, Bool.false_and]
      clear hn hs
      go_enter Try.func44, Try.ntmps44
      go_wp2_with fail
      go_ret
      exact ⟨rfl, (Below.refl _ _).alloc (Nat.le_refl _) _⟩
  · have hs2 : s.toList.isEmpty = false := by simpa using hs
    rw [hs2, Bool.false_and, Bool.false_and]
    clear hs
    go_enter Try.func44, Try.ntmps44
    go_wp2_with fail
    go_ret
    exact ⟨rfl, (Below.refl _ _).alloc (Nat.le_refl _) _⟩

/-- A place up to which a list is right. -/
def cur (g : Nat × Bool) : Value := .agg #[.int .i64 (g.1 : Int), .bool g.2]
def CurIs (g : Nat × Bool) (w : World) (e : Ending) (w' : World) : Prop := e = .returned (cur g) ∧ Below w.heap.size w w'
/-- A class of which there are nodes. -/
def okC (c : UInt8) : Bool := c == 69 || c == 83 || c == 67 || c == 82 || c == 66 || c == 80 || c == 85 || c == 68
/-- Pieces from place lo on are told right, in whatever world the list is still there. -/
def Tells (v : Value) (l : List Nd) (B : Nat) (lo : Nat) : Prop := ∀ (a : Nat) (c : UInt8) (W : World), okC c = true → lo ≤ a → a ≤ l.length → NdRow B W v l → B ≤ W.heap.size →
  Calls Try.prog 28 #[v, .int .i64 (a : Int), .string (str [c])] W fun e w' => CurIs (goP l [c] a) W e w'

theorem goR_le {l : List Nd} {s : List UInt8} {g : Nat × Bool} (h : g.1 ≤ l.length) : g.1 ≤ (goR l s g).1 ∧ (goR l s g).1 ≤ l.length := by
  unfold goR
  split
  · exact goP_bd h
  · exact ⟨Nat.le_refl _, h⟩
theorem goR_rep (l : List Nd) (c : UInt8) (m : Nat) (g : Nat × Bool) : goR l (List.replicate (m + 1) c) g = goR l (List.replicate m c) (goR l [c] g) := by rw [List.replicate_succ, goR_cons]
theorem goR_rep_bad (l : List Nd) (c : UInt8) (m : Nat) (a : Nat) : goR l (List.replicate m c) (a, false) = (a, false) := rfl

/-- What a store of two cells leaves. -/
structure Put2 (W : World) (B : Nat) : Prop where
  s0 : ∀ x, (W.setCell ⟨B, 0, none⟩ x).cell? ⟨B, 0, none⟩ = some x
  s1 : ∀ x y, ((W.setCell ⟨B, 0, none⟩ x).setCell ⟨B, 1, none⟩ y).cell? ⟨B, 1, none⟩ = some y
theorem BoxL.put2 {W : World} {B : Nat} {v0 v1 : Value} (h : BoxL W B [v0, v1]) : Put2 W B :=
  ⟨fun x => (h.set 0 x (by simp)).row 0 _ rfl, fun x y => ((h.set 0 x (by simp)).set 1 y (by simp)).row 1 _ rfl⟩

/-- Between two rounds of all: the box of the place, what is left. -/
structure AllIn (l : List Nd) (w : World) (c : UInt8) (N k : Int) (R : Nat × Bool) (g : Nat × Bool) (W : World) : Prop where
  box : BoxL W w.heap.size [.int .i64 (g.1 : Int), .bool g.2]
  res : BoxL W (w.heap.size + 1) [.int .i64 0, .bool false]
  below : Below w.heap.size w W
  left : goR l (List.replicate (N - k).toNat c) g = R
  hi : g.1 ≤ l.length

set_option maxRecDepth 100000 in
set_option maxHeartbeats 4000000 in
theorem all_in (v : Value) (l : List Nd) (B lo : Nat) (hn : l.length ≤ 1000) (HT : Tells v l B lo) (c : UInt8) (hoc : okC c = true) (N : Int) (hN2 : N ≤ 9223372036854775807) (g : Nat × Bool) (hlo : lo ≤ g.1) (hhi : g.1 ≤ l.length) (w : World) (hrow : NdRow B w v l) (hB : B ≤ w.heap.size) :
    Calls Try.prog 43 #[v, cur g, .string (str [c]), .int .i64 N] w fun e w' => CurIs (goR l (List.replicate N.toNat c) g) w e w' := by
  have HTT := keep HT
  have HLN := keep hn
  have HLO := keep hlo
  have HOC := keep hoc
  have HBB := keep hB
  have HROW := keep (fun W (hW : Below w.heap.size w W) => hrow.below (hW.mono hB))
  obtain ⟨a, b⟩ := g
  unfold cur CurIs cur
  simp only at hlo hhi HLO ⊢
  obtain ⟨R, hR⟩ : ∃ R, R = goR l (List.replicate N.toNat c) (a, b) := ⟨_, rfl⟩
  rw [← hR]
  have hb0 : Below w.heap.size w ((w.alloc (.cells #[.int .i64 (a : Int), .bool b] 53)).alloc (.cells #[.int .i64 0, .bool false] 53)) := ((Below.refl _ w).alloc (Nat.le_refl _) _).alloc (by simp) _
  have hres := BoxL.new (w.alloc (.cells #[.int .i64 (a : Int), .bool b] 53)) [.int .i64 0, .bool false] 53
  rw [World.size_alloc] at hres
  have H0 : Keep (AllIn l w c N 0 R (a, b) ((w.alloc (.cells #[.int .i64 (a : Int), .bool b] 53)).alloc (.cells #[.int .i64 0, .bool false] 53))) :=
    ⟨⟨(BoxL.new w [.int .i64 (a : Int), .bool b] 53).alloc _, hres, hb0, by rw [hR]; congr 2; simp, hhi⟩⟩
  obtain ⟨o, cap, rfl, -⟩ := hrow.form
  clear HT hn hlo hhi hrow hB hR hb0 hres hoc
  go_enter Try.func43, Try.ntmps43
  go_wp2_with fail
  go_loopw [9] (fun kv wr => ∃ (k : Int) (g : Nat × Bool), kv = .int .i64 k ∧ 0 ≤ k ∧ Keep (lo ≤ g.1 ∧ AllIn l w c N k R g wr)) (fun kv _ => (N - intOf kv).toNat)
  case atStart => exact ⟨0, (a, b), rfl, by omega, ⟨HLO.out, H0.out⟩⟩
  case round =>
    obtain ⟨k, ⟨a, b⟩, rfl, hk0, HA⟩ := hrel
    clear H0
    have hx0 := HA.out.2.box.row 0 _ rfl
    have hx1 := HA.out.2.box.row 1 _ rfl
    have hxl := HA.out.2.box.lt
    have hxf := HA.out.2.box.free
    have hyl := HA.out.2.res.lt
    simp only at hx0 hx1
    by_cases hkN : k < N
    · have hd1 : decide (k < N) = true := decide_eq_true hkN
      cases b with
      | true =>
        have HP := keep (HTT.out a c wr HOC.out HA.out.1 HA.out.2.hi (HROW.out wr HA.out.2.below) (Nat.le_trans HBB.out HA.out.2.below.size))
        have HLEFT : Keep (goR l (List.replicate (N - (k + 1)).toNat c) (goP l [c] a) = R) := ⟨by
          have := HA.out.2.left
          rw [show (N - k).toNat = (N - (k + 1)).toNat + 1 by omega, goR_rep, goR_good] at this
          exact this⟩
        have HBD := keep (goP_bd (l := l) (s := [c]) (a := a) HA.out.2.hi)
        unfold CurIs cur at HP
        generalize goP l [c] a = g' at *
        obtain ⟨a', b'⟩ := g'
        simp only at HP HBD
        have hk1 : k ≤ 9223372036854775806 := by omega
        go_wp2_with fail
        refine HP.out.mono ?_
        rintro e w1 ⟨rfl, hb⟩
        have HX1 := keep (HA.out.2.box.to hb)
        have HY1 := keep (HA.out.2.res.to hb)
        have HB1 := keep (HA.out.2.below.trans (hb.mono HA.out.2.below.size))
        have HX2 := keep ((HX1.out.set 0 (.int .i64 (a' : Int)) (by simp)).set 1 (.bool b') (by simp))
        have HY2 := keep ((HY1.out.other (p := ⟨w.heap.size, 0, none⟩) (.int .i64 (a' : Int)) (by simp)).other (p := ⟨w.heap.size, 1, none⟩) (.bool b') (by simp))
        have HB2 := keep ((HB1.out.setCell (p := ⟨w.heap.size, 0, none⟩) (Nat.le_refl _) (.int .i64 (a' : Int))).setCell (p := ⟨w.heap.size, 1, none⟩) (Nat.le_refl _) (.bool b'))
        have hz0 := HX1.out.row 0 _ rfl
        have hz1 := HX1.out.row 1 _ rfl
        have hzl := HX1.out.lt
        have hzf := HX1.out.free
        clear hb hx0 hx1 hxl hxf hyl
        go_wp2_with fail
        go_roundw
        case rel => exact ⟨k + 1, (a', b'), by go_num, by omega, ⟨Nat.le_trans HA.out.1 HBD.out.1, ⟨HX2.out, HY2.out, HB2.out, HLEFT.out, HBD.out.2⟩⟩⟩
        case measure => simp [intOf]; omega
      | false =>
        have HE : Keep ((a, false) = R) := ⟨by rw [← HA.out.2.left]; rfl⟩
        obtain ⟨hs0, hs1⟩ := HA.out.2.res.put2
        have hyf := HA.out.2.res.free
        have hy0 := HA.out.2.res.row 0 _ rfl
        have hy1 := HA.out.2.res.row 1 _ rfl
        clear hxf
        go_wp2_with fail
        refine bodyPost_ret (v := .agg #[.int .i64 (a : Int), .bool false]) ?_ rfl ⟨by rw [← HE.out], (HA.out.2.below.setCell (p := ⟨w.heap.size + 1, 0, none⟩) (by simp) _).setCell (p := ⟨w.heap.size + 1, 1, none⟩) (by simp) _⟩
        simp [results, Try.results43, go_sem, hs0, hs1]
    · have hd1 : decide (k < N) = false := decide_eq_false hkN
      have HE : Keep ((a, b) = R) := ⟨by rw [← HA.out.2.left, show (N - k).toNat = 0 by omega]; exact (goR_nil _ _).symm⟩
      obtain ⟨hs0, hs1⟩ := HA.out.2.res.put2
      have hyf := HA.out.2.res.free
      have hy0 := HA.out.2.res.row 0 _ rfl
      have hy1 := HA.out.2.res.row 1 _ rfl
      clear hxf
      go_wp2_with fail
      refine bodyPost_ret (v := .agg #[.int .i64 (a : Int), .bool b]) ?_ rfl ⟨by rw [← HE.out], (HA.out.2.below.setCell (p := ⟨w.heap.size + 1, 0, none⟩) (by simp) _).setCell (p := ⟨w.heap.size + 1, 1, none⟩) (by simp) _⟩
      simp [results, Try.results43, go_sem, hs0, hs1]
end Go.Proofs.Ytgodjgbdjgiapaa
