/-
  The program's remark, pass, Word.
-/
import Derived.Test.YtekonndjanaoaaaDoorTokA
namespace Go.Proofs.YtekonndjanaoaaaDoor
open Go.RowKit

theorem rem_ok {l a r : List UInt8} {m : Bool} {b : UInt8} {t : List UInt8} (h : CutIs l a r m) (hl : l = b :: t) (hb : ob b = 35) : skp false l = a.length + skp false (l.drop a.length) ∧ 1 ≤ a.length ∧ a.length ≤ l.length := by
  rcases h with ⟨_, h1, h2⟩ | ⟨_, rfl, _, h2⟩
  · cases a with
    | nil =>
      rw [hl] at h1
      obtain ⟨rfl, _⟩ := List.cons.inj h1
      exact absurd hb (by decide)
    | cons c a =>
      rw [hl, List.cons_append] at h1
      obtain ⟨rfl, rfl⟩ := List.cons.inj h1
      subst hl
      refine ⟨?_, by simp, by simp⟩
      rw [skp_hash hb, skp_remark a r (fun x hx => h2 x (List.mem_cons_of_mem _ hx)), List.length_cons, List.drop_succ_cons, List.drop_left]
      omega
  · subst hl
    refine ⟨?_, by simp, by simp⟩
    rw [skp_hash hb, skp_remark_end t (fun x hx => h2 x (List.mem_cons_of_mem _ hx)), List.drop_length, List.length_cons]; rfl

set_option maxHeartbeats 1000000 in
theorem remark_any (s : ByteArray) (hs : s.size ≤ 1000000) (w : World) : Calls Tryd.prog 26 #[.string s] w fun e w' => ∃ a r m, e = .returned (.string (str a)) ∧ CutIs s.data.toList a r m ∧ Below w.heap.size w w' := by
  have HI := keep (cut_any s hs)
  clear hs
  go_enter Tryd.func26, Tryd.ntmps26
  go_wp2_with (go_at_call 34; refine (HI.out _).mono ?_; rintro e w' ⟨a, r, m, rfl, hc, hb⟩; have HC := keep hc; have HB := keep hb; clear hc hb)
  go_ret
  exact ⟨a, r, m, rfl, HC.out, HB.out⟩

theorem blk_ways (c : Int) : (c = 9 ∨ c = 10 ∨ c = 13 ∨ c = 32) ∨ (blk c = false ∧ c ≠ 9 ∧ c ≠ 10 ∧ c ≠ 13 ∧ c ≠ 32) := by
  by_cases h : c = 9 ∨ c = 10 ∨ c = 13 ∨ c = 32
  · exact .inl h
  · refine .inr ⟨?_, by omega, by omega, by omega, by omega⟩
    unfold blk
    simp only [Bool.or_eq_false_iff, decide_eq_false_iff_not]
    omega
theorem blk_is {c : Int} (h : c = 9 ∨ c = 10 ∨ c = 13 ∨ c = 32) : blk c = true := by
  rcases h with rfl | rfl | rfl | rfl <;> decide
theorem skp_go {l : List UInt8} {b : UInt8} {t : List UInt8} {k : Nat} (h : l.drop k = b :: t) (hb : blk (ob b) = true) : k + 1 + skp false (l.drop (k + 1)) = k + skp false (l.drop k) := by
  have : l.drop (k + 1) = t := by rw [← List.drop_drop, h]; rfl
  rw [this, h, skp_blank hb]; omega

set_option maxHeartbeats 4000000 in
theorem pass_any (l : List UInt8) (a : Nat) (ha : a ≤ l.length) (hs : l.length ≤ 1000000) (w : World) : Calls Tryd.prog 18 #[.string (str l), .int .i64 (a : Int)] w fun e w' => e = .returned (.int .i64 ((a + skp false (l.drop a) : Nat) : Int)) ∧ Below w.heap.size w w' := by
  have hz : (str l).size = l.length := str_size l
  have hdat := str_data l
  have hsI : ((str l).size : Int) ≤ 1000000 := by omega
  have HD : Keep (∀ k, k < (str l).size → ∃ b t, l.drop k = b :: t ∧ ob b = bt (str l) k) := ⟨fun k hlt => by
    obtain ⟨b, hb1, hb2⟩ := drop_bt (str l) hlt
    rw [hdat] at hb1
    exact ⟨b, _, hb1, hb2⟩⟩
  have HE : Keep (l.drop (str l).size = []) := ⟨List.drop_eq_nil_of_le (by omega)⟩
  have HX : Keep (∀ k, k ≤ (str l).size → (str l).extract k (str l).size = str (l.drop k)) := ⟨fun k hk => str_from l k⟩
  have HR : Keep (∀ k, k ≤ (str l).size → ∀ w, Calls Tryd.prog 26 #[.string (str (l.drop k))] w fun e w' => ∃ a r m, e = .returned (.string (str a)) ∧ CutIs (l.drop k) a r m ∧ Below w.heap.size w w') := ⟨fun k hk w => by
    have := remark_any (str (l.drop k)) (by rw [str_size, List.length_drop]; omega) w
    rw [str_data] at this
    exact this⟩
  have ha' : a ≤ (str l).size := by omega
  have HLL : Keep (l.length = (str l).size) := ⟨hz.symm⟩
  generalize str l = s at *
  obtain ⟨r, hr⟩ : ∃ r, r = a + skp false (l.drop a) := ⟨_, rfl⟩
  rw [← hr]
  have H0 : Keep (a + skp false (l.drop a) = r) := ⟨hr.symm⟩
  clear hz hdat hs ha hr
  go_enter Tryd.func18, Tryd.ntmps18
  go_wp2_with fail
  go_loopw [1] (fun iv wr => ∃ k : Nat, iv = .int .i64 (k : Int) ∧ k ≤ s.size ∧ Keep (k + skp false (l.drop k) = r ∧ Below w.heap.size w wr)) (fun iv _ => s.size - (intOf iv).toNat)
  case atStart => exact ⟨a, rfl, ha', ⟨H0.out, Below.refl _ _⟩⟩
  case round =>
    obtain ⟨k, rfl, hk, HK⟩ := hrel
    clear H0 ha'
    by_cases hlt : k < s.size
    · obtain ⟨b, t, hb1, hb2⟩ := HD.out k hlt
      have hltI : (k : Int) < (s.size : Int) := by omega
      have hleI : (k : Int) ≤ (s.size : Int) := by omega
      have hgb := get_bt s
      have HB1 := keep hb1
      have HB2 := keep hb2
      clear hb1 hb2
      rcases blk_ways (bt s k) with hw4 | ⟨hbn, n9, n10, n13, n32⟩
      · have HN : Keep (k + 1 + skp false (l.drop (k + 1)) = r) := ⟨by rw [skp_go HB1.out (by rw [HB2.out]; exact blk_is hw4)]; exact HK.out.1⟩
        rcases hw4 with hbt | hbt | hbt | hbt
        all_goals
          go_wp2_with fail
          go_roundw
          case rel => exact ⟨k + 1, by go_num, by omega, ⟨HN.out, HK.out.2⟩⟩
          case measure => simp [intOf]; omega
      · have e9 : (bt s k == 9) = false := by simpa using n9
        have e10 : (bt s k == 10) = false := by simpa using n10
        have e13 : (bt s k == 13) = false := by simpa using n13
        have e32 : (bt s k == 32) = false := by simpa using n32
        by_cases h35 : bt s k = 35
        · have hx := HX.out k hk
          have HRK := keep (HR.out k hk)
          have HOK : Keep (∀ a r' m, CutIs (l.drop k) a r' m → skp false (l.drop k) = a.length + skp false ((l.drop k).drop a.length) ∧ 1 ≤ a.length ∧ a.length ≤ (l.drop k).length) := ⟨fun a r' m hc => rem_ok hc HB1.out (by rw [HB2.out]; exact h35)⟩
          have HLK : Keep ((l.drop k).length = s.size - k) := ⟨by rw [List.length_drop, HLL.out]⟩
          clear n9 n10 n13 n32 hbn
          go_wp2_with fail
          refine (HRK.out _).mono ?_
          rintro e w2 ⟨x, r', m, rfl, hc, hb⟩
          have HC := keep (HOK.out x r' m hc)
          have HB := keep (HK.out.2.trans (hb.mono HK.out.2.size))
          have hxl : (str x).size = x.length := str_size x
          have HXL := keep hxl
          obtain ⟨z, hz⟩ : ∃ z, z = x.length := ⟨_, rfl⟩
          have HZ := keep hz
          rw [← hz] at hxl
          have hzI : (k : Int) + (z : Int) ≤ (s.size : Int) := by have h1 := HC.out.2.2; have h2 := HLK.out; omega
          have hwz : IntKind.i64.wrap ((k : Int) + (z : Int)) = (k : Int) + (z : Int) := IntWalk.i64_in _ ⟨by omega, by omega⟩
          clear hc hb hz
          go_wp2_with fail
          go_roundw
          case rel => exact ⟨k + z, by first | rfl | (congr 1), by omega, ⟨by
            have h1 := HC.out.1
            rw [← HZ.out, List.drop_drop] at h1
            have h2 := HK.out.1
            omega, HB.out⟩⟩
          case measure => have h1 := HC.out.2.1; have h2 := HZ.out; simp [intOf]; omega
        · have e35 : (bt s k == 35) = false := by simpa using h35
          have HN : Keep (k = r) := ⟨by
            have h1 := HK.out.1
            rw [HB1.out, skp_none (by rw [HB2.out]; exact hbn) (by rw [HB2.out]; exact h35)] at h1
            simpa using h1⟩
          clear n9 n10 n13 n32 hbn h35
          go_wp2_with fail
          go_ret
          exact ⟨ret_int (by rw [HN.out]), HK.out.2⟩
    · obtain rfl : k = s.size := by omega
      have HN : Keep (s.size = r) := ⟨by have h1 := HK.out.1; rw [HE.out] at h1; simpa [skp] using h1⟩
      go_wp2_with fail
      go_ret
      exact ⟨ret_int (by rw [HN.out]), HK.out.2⟩
end Go.Proofs.YtekonndjanaoaaaDoor
