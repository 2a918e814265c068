/-
  The program's Next.
-/
import Derived.Test.YtekonndjanaoaaaDoorTokF
import Derived.Test.YtekonndjanaoaaaDoorSets
namespace Go.Proofs.YtekonndjanaoaaaDoor
open Go.RowKit Go.Joins

theorem pcName_bd (l : List UInt8) : (pcName l).1 ≠ 2 ∧ (pcName l).2.1 ≤ l.length := by
  have := spn_le isN l
  unfold pcName
  split
  · simp
  · split <;> simp <;> omega
theorem pcNum_bd (l : List UInt8) (h0 : isD (byteAt l 0) = true) : (pcNum l).2.1 ≤ l.length ∧ ((pcNum l).1 = 2 → 1 ≤ (pcNum l).2.1 ∧ (pcNum l).2.1 ≤ 18 ∧ ∀ b ∈ l.take (pcNum l).2.1, isD (ob b) = true) := by
  have h1 := spn_le isD l
  have h2 : 1 ≤ spn isD l := by
    cases l with
    | nil => simp [byteAt, isD] at h0
    | cons b t => rw [spn, if_pos (by simpa [byteAt] using h0)]; omega
  have h3 := spn_take (p := isD) l
  unfold pcNum
  split
  · simp
  · split
    · simp
    · split
      · simp
      · refine ⟨h1, fun _ => ⟨h2, ?_, h3⟩⟩
        simp only; omega
theorem sgn_bd (b c : Int) : sgn b c ≤ 2 := by unfold sgn; split <;> (try split) <;> (try split) <;> omega
theorem sgn_two {b c : Int} (h : sgn b c = 2) : 0 ≤ c := by
  unfold sgn at h
  split at h
  · split at h <;> omega
  · split at h
    · split at h <;> omega
    · split at h <;> omega
theorem pcSign_bd {l : List UInt8} (h0 : l ≠ []) : (pcSign l).1 ≠ 2 ∧ (pcSign l).2.1 ≤ l.length := by
  unfold pcSign
  have hlen : 0 < l.length := List.length_pos_iff.2 h0
  split
  · simp
  · refine ⟨by simp, ?_⟩
    simp only
    have h1 := sgn_bd (byteAt l 0) (byteAt l 1)
    by_cases h2 : sgn (byteAt l 0) (byteAt l 1) = 2
    · have h3 := sgn_two h2
      rcases Nat.lt_or_ge 1 l.length with h | h
      · omega
      · rw [at_end l h] at h3; omega
    · omega
theorem pc_bd (l : List UInt8) : (pc l).2.1 ≤ l.length ∧ ((pc l).1 = 2 → 1 ≤ (pc l).2.1 ∧ (pc l).2.1 ≤ 18 ∧ ∀ b ∈ l.take (pc l).2.1, isD (ob b) = true) := by
  unfold pc
  by_cases h0 : l = []
  · rw [if_pos h0]; simp
  · rw [if_neg h0]
    split
    · exact ⟨(pcName_bd l).2, fun h => absurd h (pcName_bd l).1⟩
    · split
      · exact pcNum_bd l (by assumption)
      · exact ⟨(pcSign_bd h0).2, fun h => absurd h (pcSign_bd h0).1⟩

/-- A token, the place behind it and an error are told. -/
def NxIs (x : Tok × Int × Int) (e : Ending) : Prop := e = .returned (.tuple #[x.1.agg, .int .i64 x.2.1, .int .i64 x.2.2])
theorem nxt_bad {s : List UInt8} {a b n : Nat} {K E : Int} (hb : b = a + skp false (s.drop a)) (hp : pc (s.drop b) = (K, n, E)) (hE : E ≠ 0) : nxt s a = (zt, (b : Int), E) := by
  subst hb
  unfold nxt
  simp only [hp]
  rw [if_pos hE]
theorem nxt_good {s : List UInt8} {a b n : Nat} {K : Int} (hb : b = a + skp false (s.drop a)) (hp : pc (s.drop b) = (K, n, 0)) : nxt s a = (⟨K, str ((s.drop b).take n), if K = 2 then worth ((s.drop b).take n) else 0, b⟩, (b : Int) + n, 0) := by
  subst hb
  unfold nxt
  simp only [hp]
  rw [if_neg (by simp)]

set_option maxHeartbeats 4000000 in
theorem next_in (l : List UInt8) (a : Nat) (ha : a ≤ l.length) (hs : l.length ≤ 1000000) (w : World) : Calls Tryd.prog 8 #[.string (str l), .int .i64 (a : Int)] w fun e w' => NxIs (nxt l a) e ∧ Below w.heap.size w w' := by
  have hz : (str l).size = l.length := str_size l
  have HPASS := keep (pass_any l a ha hs)
  obtain ⟨b, hb⟩ : ∃ b, b = a + skp false (l.drop a) := ⟨_, rfl⟩
  have hbl : b ≤ l.length := by have := skp_le (l.drop a) false; rw [List.length_drop] at this; omega
  rw [← hb] at HPASS
  have HPC := keep (piece_any (l.drop b) (by rw [List.length_drop]; omega))
  have hx := str_from l b
  have hbd := pc_bd (l.drop b)
  have HG := keep (fun K n h => nxt_good (s := l) (a := a) (b := b) (n := n) (K := K) hb h)
  have HBAD := keep (fun K n E h hE => nxt_bad (s := l) (a := a) (b := b) (n := n) (K := K) (E := E) hb h hE)
  have HTX := keep (fun n (h : n ≤ (l.drop b).length) => show (str l).extract b (b + n) = str ((l.drop b).take n) by rw [extract_is, str_data]; congr 2; omega)
  have HLD : Keep ((l.drop b).length = l.length - b) := ⟨List.length_drop⟩
  generalize l.drop b = r at *
  obtain ⟨P, hp⟩ : ∃ P, pc r = P := ⟨_, rfl⟩
  rw [hp] at hbd HPC
  obtain ⟨K, n, E⟩ := P
  unfold PcIs at HPC
  simp only at HPC hbd
  obtain ⟨hn, hnum⟩ := hbd
  have hzI : ((str l).size : Int) ≤ 1000000 := by omega
  have hbI : (b : Int) ≤ ((str l).size : Int) := by omega
  have hb0 : (0 : Int) ≤ (b : Int) := by omega
  have haI : (a : Int) ≤ ((str l).size : Int) := by omega
  have ha0 : (0 : Int) ≤ (a : Int) := by omega
  have HB0 := keep (BoxL.new w [.int .i64 0, .string ⟨#[]⟩, .int .i64 0, .int .i64 0] 24)
  by_cases hE : E = 0
  · subst hE
    have HN := keep (HG.out K n hp)
    have hnl := HLD.out
    have hbn : (b : Int) + (n : Int) ≤ ((str l).size : Int) := by omega
    have hbn2 : (b : Int) ≤ (b : Int) + (n : Int) := by omega
    have htx := HTX.out n hn
    have hnat : ((b : Int) + (n : Int)).toNat = b + n := by omega
    have hwr : IntKind.i64.wrap ((b : Int) + (n : Int)) = (b : Int) + (n : Int) := IntWalk.i64_in _ ⟨by omega, by omega⟩
    by_cases hK : K = 2
    · subst hK
      obtain ⟨n1, n18, hdig⟩ := hnum rfl
      have HAT := keep (atoi_any (r.take n) (by rw [List.length_take]; omega) (by rw [List.length_take]; omega) hdig)
      have HN2 : Keep (nxt l a = (⟨2, str (r.take n), worth (r.take n), b⟩, (b : Int) + n, 0)) := ⟨by rw [HN.out, if_pos rfl]⟩
      generalize worth (r.take n) = v at *
      generalize str (r.take n) = tx at *
      generalize nxt l a = X at *
      generalize str r = sr at *
      generalize str l = s at *
      clear hn hnum hdig n1 n18 hp hb hbl ha hs hz HN HG HBAD HTX hnl HLD
      go_enter Tryd.func8, Tryd.ntmps8
      go_wp2_with fail
      refine (HPASS.out _).mono ?_
      rintro e w1 ⟨rfl, hb⟩
      have HB := keep (((Below.refl _ w).alloc (Nat.le_refl _) _).trans (hb.mono (by simp)))
      have HX1 := keep (HB0.out.to hb)
      clear hb
      go_wp2_with fail
      refine (HPC.out _).mono ?_
      rintro e w' ⟨rfl, rfl⟩
      go_wp2_with fail
      refine (HAT.out _).mono ?_
      rintro e w2 ⟨rfl, hb⟩
      have HBB := keep ((HB.out.alloc HB.out.size _).trans (hb.mono (Nat.le_trans HB.out.size (by simp))))
      have HX2 := keep ((HX1.out.alloc _).to hb)
      have HY2 := keep ((BoxL.new w1 [.int .i64 2, .string tx, .int .i64 0, .int .i64 (b : Int)] 24).to hb)
      clear hb
      have hy0 := HY2.out.row 0 _ rfl
      have hy1 := HY2.out.row 1 _ rfl
      have hy2 := HY2.out.row 2 _ rfl
      have hy3 := HY2.out.row 3 _ rfl
      have hyf := HY2.out.free
      have hyl := HY2.out.lt
      have hx0 := HX2.out.row 0 _ rfl
      have hx1 := HX2.out.row 1 _ rfl
      have hx2 := HX2.out.row 2 _ rfl
      have hx3 := HX2.out.row 3 _ rfl
      have hxf := HX2.out.free
      have hxl := HX2.out.lt
      have hd1 : ¬ w1.heap.size = w.heap.size := by have := HX1.out.lt; omega
      have hd2 : ¬ w.heap.size = w1.heap.size := by omega
      obtain ⟨hs0, hs1, hs2, hs3⟩ := (HX2.out.other (p := ⟨w1.heap.size, 2, none⟩) (.int .i64 v) hd1).put4
      go_wp2_with fail
      refine bodyPost_ret (v := .tuple #[.agg #[.int .i64 2, .string tx, .int .i64 v, .int .i64 (b : Int)], .int .i64 ((b : Int) + (n : Int)), .int .i64 0]) ?_ rfl ⟨by rw [HN2.out]; rfl, below_put4 (HBB.out.setCell (p := ⟨w1.heap.size, 2, none⟩) (by have := HB.out.size; exact this) _) (Nat.le_refl _) _ _ _ _⟩
      simp [results, Tryd.results8, go_sem, hs0, hs1, hs2, hs3]
    · have HN2 : Keep (nxt l a = (⟨K, str (r.take n), 0, b⟩, (b : Int) + n, 0)) := ⟨by rw [HN.out, if_neg hK]⟩
      have hKb : (K == 2) = false := by simpa using hK
      generalize str (r.take n) = tx at *
      generalize nxt l a = X at *
      generalize str r = sr at *
      generalize str l = s at *
      clear hn hnum hp hb hbl ha hs hz HN HG HBAD HTX hnl HLD
      go_enter Tryd.func8, Tryd.ntmps8
      go_wp2_with fail
      refine (HPASS.out _).mono ?_
      rintro e w1 ⟨rfl, hb⟩
      have HB := keep (((Below.refl _ w).alloc (Nat.le_refl _) _).trans (hb.mono (by simp)))
      have HX1 := keep (HB0.out.to hb)
      clear hb
      have hx0 := HX1.out.row 0 _ rfl
      have hx1 := HX1.out.row 1 _ rfl
      have hx2 := HX1.out.row 2 _ rfl
      have hx3 := HX1.out.row 3 _ rfl
      have hxf := HX1.out.free
      have hxl := HX1.out.lt
      have hd1 : ¬ w1.heap.size = w.heap.size := by have := HX1.out.lt; omega
      have hd2 : ¬ w.heap.size = w1.heap.size := by omega
      obtain ⟨hs0, hs1, hs2, hs3⟩ := HX1.out.put4
      have hsz := size_put4 w1 w.heap.size
      go_wp2_with fail
      refine (HPC.out _).mono ?_
      rintro e w' ⟨rfl, rfl⟩
      go_wp2_with fail
      refine bodyPost_ret (v := .tuple #[.agg #[.int .i64 K, .string tx, .int .i64 0, .int .i64 (b : Int)], .int .i64 ((b : Int) + (n : Int)), .int .i64 0]) ?_ rfl ⟨by rw [HN2.out]; rfl, (below_put4 HB.out (Nat.le_refl _) _ _ _ _).alloc (by rw [hsz]; exact HB.out.size) _⟩
      simp [results, Tryd.results8, go_sem, hs0, hs1, hs2, hs3, hsz, hxl]
  · have HN := keep (HBAD.out K n E hp hE)
    have hEb : (E == 0) = false := by simpa using hE
    generalize nxt l a = X at *
    generalize str r = sr at *
    generalize str l = s at *
    clear hn hnum hp hb hbl ha hs hz HG HBAD HTX HLD
    go_enter Tryd.func8, Tryd.ntmps8
    go_wp2_with fail
    refine (HPASS.out _).mono ?_
    rintro e w1 ⟨rfl, hb⟩
    have HB := keep (((Below.refl _ w).alloc (Nat.le_refl _) _).trans (hb.mono (by simp)))
    have HX1 := keep (HB0.out.to hb)
    clear hb
    have hx0 := HX1.out.row 0 _ rfl
    have hx1 := HX1.out.row 1 _ rfl
    have hx2 := HX1.out.row 2 _ rfl
    have hx3 := HX1.out.row 3 _ rfl
    have hxf := HX1.out.free
    have hxl := HX1.out.lt
    obtain ⟨hs0, hs1, hs2, hs3⟩ := HX1.out.put4
    go_wp2_with fail
    refine (HPC.out _).mono ?_
    rintro e w' ⟨rfl, rfl⟩
    go_wp2_with fail
    refine bodyPost_ret (v := .tuple #[.agg #[.int .i64 0, .string ⟨#[]⟩, .int .i64 0, .int .i64 0], .int .i64 (b : Int), .int .i64 E]) ?_ rfl ⟨by rw [HN.out]; rfl, below_put4 HB.out (Nat.le_refl _) _ _ _ _⟩
    simp [results, Tryd.results8, go_sem, hs0, hs1, hs2, hs3]

set_option maxHeartbeats 1000000 in
theorem next_any (l : List UInt8) (a : Int) (hs : l.length ≤ 1000000) (w : World) : Calls Tryd.prog 8 #[.string (str l), .int .i64 a] w fun e w' => NxIs (nxtI l a) e ∧ Below w.heap.size w w' := by
  have hz : (str l).size = l.length := str_size l
  by_cases h0 : a < 0
  · rw [nxtI_out (.inl h0)]
    generalize str l = s at *
    go_enter Tryd.func8, Tryd.ntmps8
    go_wp2
    go_returns
    exact ⟨rfl, (Below.refl _ _).alloc (Nat.le_refl _) _⟩
  · by_cases h1 : (l.length : Int) < a
    · rw [nxtI_out (.inr h1)]
      generalize str l = s at *
      have h2 : (s.size : Int) < a := by omega
      clear h1 hz hs
      go_enter Tryd.func8, Tryd.ntmps8
      go_wp2
      go_returns
      exact ⟨rfl, (Below.refl _ _).alloc (Nat.le_refl _) _⟩
    · obtain ⟨k, rfl⟩ := Int.eq_ofNat_of_zero_le (show 0 ≤ a by omega)
      rw [nxtI_in (by omega)]
      exact next_in l k (by omega) hs w
end Go.Proofs.YtekonndjanaoaaaDoor
