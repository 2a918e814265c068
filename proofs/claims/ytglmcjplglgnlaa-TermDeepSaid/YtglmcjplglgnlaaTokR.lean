/-
  The document's functions: where a piece begins, numbers, whether a text is in a list, the words, the signs.
-/
import Derived.Test.YtglmcjplglgnlaaTokE
import Derived.Test.YtglmcjplglgnlaaSetM
import Derived.Lib.SmallJoins
namespace Go.Proofs.Ytglmcjplglgnlaa
open Go.RowKit Go.Joins

theorem skp_step {l : List UInt8} {b : UInt8} {t : List UInt8} {k R : Nat} {r r' : Bool} (h : l.drop k = b :: t) (hk : k + skp r (l.drop k) = R) (hs : skp r (b :: t) = skp r' t + 1) : k + 1 + skp r' (l.drop (k + 1)) = R := by
  have : l.drop (k + 1) = t := by rw [← List.drop_drop, h]; rfl
  rw [h, hs] at hk
  rw [this]; omega
theorem skp_nl {r : Bool} {b : UInt8} {t : List UInt8} (h : ob b = 10) : skp r (b :: t) = skp false t + 1 := by rw [skp, if_pos h]
theorem skp_hash' {r : Bool} {b : UInt8} {t : List UInt8} (h : ob b = 35) : skp r (b :: t) = skp true t + 1 := by rw [skp, if_neg (by omega), if_pos h]
theorem skp_in {b : UInt8} {t : List UInt8} (h : ob b ≠ 10) (h2 : ob b ≠ 35) : skp true (b :: t) = skp true t + 1 := by rw [skp, if_neg h, if_neg h2, if_pos (c := true = true ∨ _) (.inl rfl)]

set_option maxHeartbeats 4000000 in
theorem begin_any (l : List UInt8) (a : Nat) (ha : a ≤ l.length) (hs : l.length ≤ 1000000) (w : World) : Calls Try.prog 31 #[.string (str l), .int .i64 (a : Int)] w fun e w' => e = .returned (.int .i64 ((a + skp false (l.drop a) : Nat) : Int)) ∧ w = w' := by
  have hz : (str l).size = l.length := str_size l
  have hdat := str_data l
  have hsI : ((str l).size : Int) ≤ 1000000 := by omega
  have HD : Keep (∀ k, k < (str l).size → ∃ b t, l.drop k = b :: t ∧ ob b = bt (str l) k) := ⟨fun k hlt => by
    obtain ⟨b, hb1, hb2⟩ := drop_bt (str l) hlt
    rw [hdat] at hb1
    exact ⟨b, _, hb1, hb2⟩⟩
  have HE : Keep (l.drop (str l).size = []) := ⟨List.drop_eq_nil_of_le (by omega)⟩
  have ha' : a ≤ (str l).size := by omega
  generalize str l = s at *
  obtain ⟨R, hR⟩ : ∃ R, R = a + skp false (l.drop a) := ⟨_, rfl⟩
  rw [← hR]
  have H0 : Keep (a + skp false (l.drop a) = R) := ⟨hR.symm⟩
  clear hz hdat hs ha hR
  go_enter Try.func31, Try.ntmps31
  go_wp2_with fail
  go_loop [1, 5] (fun iv rv => ∃ (k : Nat) (r : Bool), iv = .int .i64 (k : Int) ∧ rv = .bool r ∧ k ≤ s.size ∧ Keep (k + skp r (l.drop k) = R)) (fun iv _ => s.size - (intOf iv).toNat)
  case atStart => exact ⟨a, false, rfl, rfl, ha', H0⟩
  case round =>
    obtain ⟨k, r, rfl, rfl, hk, HK⟩ := hrel
    clear H0 ha'
    by_cases hlt : k < s.size
    · obtain ⟨b, t, hb1, hb2⟩ := HD.out k hlt
      have hltI : (k : Int) < (s.size : Int) := by omega
      have hgb := get_bt s
      have HB1 := keep hb1
      have HB2 := keep hb2
      clear hb1 hb2
      by_cases h10 : bt s k = 10
      · have HN := keep (skp_step HB1.out HK.out (skp_nl (by rw [HB2.out]; exact h10)))
        go_wp2_with fail
        go_round
        case rel => exact ⟨k + 1, false, by go_num, rfl, by omega, HN⟩
        case measure => simp [intOf]; omega
      · have e10 : (bt s k == 10) = false := by simpa using h10
        by_cases h35 : bt s k = 35
        · have HN := keep (skp_step HB1.out HK.out (skp_hash' (by rw [HB2.out]; exact h35)))
          clear h10
          go_wp2_with fail
          go_round
          case rel => exact ⟨k + 1, true, by go_num, rfl, by omega, HN⟩
          case measure => simp [intOf]; omega
        · have e35 : (bt s k == 35) = false := by simpa using h35
          cases r with
          | true =>
            have HN := keep (skp_step HB1.out HK.out (skp_in (by rw [HB2.out]; exact h10) (by rw [HB2.out]; exact h35)))
            clear h10 h35
            go_wp2_with fail
            go_round
            case rel => exact ⟨k + 1, true, by go_num, rfl, by omega, HN⟩
            case measure => simp [intOf]; omega
          | false =>
            rcases blk_ways (bt s k) with hw4 | ⟨hbn, n9, n10, n13, n32⟩
            · have HN := keep (skp_step HB1.out HK.out (skp_blank (by rw [HB2.out]; exact blk_is hw4)))
              rcases hw4 with hbt | hbt | hbt | hbt
              rotate_left 1
              exact absurd hbt h10
              all_goals
                clear h35 e35 h10 e10
                go_wp2_with fail
                go_round
                case rel => exact ⟨k + 1, false, by go_num, rfl, by omega, HN⟩
                case measure => simp [intOf]; omega
            · have e9 : (bt s k == 9) = false := by simpa using n9
              have e13 : (bt s k == 13) = false := by simpa using n13
              have e32 : (bt s k == 32) = false := by simpa using n32
              have HN : Keep (k = R) := ⟨by
                have h1 := HK.out
                rw [HB1.out, skp_none (by rw [HB2.out]; exact hbn) (by rw [HB2.out]; exact h35)] at h1
                simpa using h1⟩
              have f9 : (bt s k != 9) = true := by simpa using n9
              have f13 : (bt s k != 13) = true := by simpa using n13
              have f32 : (bt s k != 32) = true := by simpa using n32
              clear n10 hbn h35 h10
              go_wp2_with fail
              go_ret
              exact ⟨ret_int (by rw [HN.out]), rfl⟩
    · obtain rfl : k = s.size := by omega
      have HN : Keep (s.size = R) := ⟨by have h1 := HK.out; rw [HE.out] at h1; simpa [skp] using h1⟩
      go_wp2_with fail
      go_ret
      exact ⟨ret_int (by rw [HN.out]), rfl⟩

/-- What the document's Next gives. -/
def GotIs (x : Tok × Int × Int) (e : Ending) : Prop := e = .returned (.agg #[.int .i64 x.1.K, .string x.1.S, .int .i64 x.1.V, .int .i64 x.1.A, .int .i64 x.2.1, .int .i64 x.2.2])

/-- What digits give. -/
def dgt (r : List UInt8) (b : Nat) : Tok × Int × Int :=
  if (pcNum r).2.2 ≠ 0 then (zt, b, (pcNum r).2.2) else (⟨2, str (r.take (spn isD r)), worth (r.take (spn isD r)), b⟩, (b : Int) + spn isD r, 0)
theorem dgt_zero {r : List UInt8} {b : Nat} (h : byteAt r 0 = 48 ∧ 1 < spn isD r) : dgt r b = (zt, (b : Int), 3) := by
  have : pcNum r = (0, 0, 3) := by unfold pcNum; rw [if_pos h]
  unfold dgt; rw [this]; rfl
theorem dgt_long {r : List UInt8} {b : Nat} (h : ¬ (byteAt r 0 = 48 ∧ 1 < spn isD r)) (h2 : 18 < spn isD r) : dgt r b = (zt, (b : Int), 5) := by
  have : pcNum r = (0, 0, 5) := by unfold pcNum; rw [if_neg h, if_pos h2]
  unfold dgt; rw [this]; rfl
theorem dgt_letter {r : List UInt8} {b : Nat} (h : ¬ (byteAt r 0 = 48 ∧ 1 < spn isD r)) (h2 : ¬ 18 < spn isD r) (h3 : isL (byteAt r (spn isD r)) = true) : dgt r b = (zt, (b : Int), 3) := by
  have : pcNum r = (0, 0, 3) := by unfold pcNum; rw [if_neg h, if_neg h2, if_pos h3]
  unfold dgt; rw [this]; rfl
theorem dgt_ok {r : List UInt8} {b : Nat} (h : ¬ (byteAt r 0 = 48 ∧ 1 < spn isD r)) (h2 : ¬ 18 < spn isD r) (h3 : isL (byteAt r (spn isD r)) = false) : dgt r b = (⟨2, str (r.take (spn isD r)), worth (r.take (spn isD r)), b⟩, (b : Int) + spn isD r, 0) := by
  have : pcNum r = (2, spn isD r, 0) := by unfold pcNum; rw [if_neg h, if_neg h2, if_neg (by rw [h3]; simp)]
  unfold dgt; rw [this]; rfl
theorem at_drop (l : List UInt8) (b k : Nat) : byteAt (l.drop b) k = byteAt l (b + k) := by unfold byteAt; rw [List.getElem?_drop]

set_option maxRecDepth 100000 in
set_option maxHeartbeats 4000000 in
theorem digits_any (l : List UInt8) (b m : Nat) (hm : m = b + spn isD (l.drop b)) (hb : b < l.length) (hD : isD (byteAt (l.drop b) 0) = true) (hs : l.length ≤ 1000000) (w : World) :
    Calls Try.prog 33 #[.string (str l), .int .i64 (b : Int), .int .i64 (m : Int)] w fun e w' => GotIs (dgt (l.drop b) b) e ∧ Below w.heap.size w w' := by
  have hz : (str l).size = l.length := str_size l
  have hg := get_bt (str l)
  have hg0 : bt (str l) b = byteAt (l.drop b) 0 := by rw [bt_at l hb, at_drop]; rfl
  have hle := spn_le isD (l.drop b)
  rw [List.length_drop] at hle
  have HG : Keep (∀ k, b + k < (str l).size → bt (str l) (b + k) = byteAt (l.drop b) k) := ⟨fun k hk => by rw [bt_at l (by omega), at_drop]⟩
  have HEND : Keep (∀ k, (str l).size ≤ b + k → byteAt (l.drop b) k = -1) := ⟨fun k hk => at_end _ (by rw [List.length_drop]; omega)⟩
  have HX : Keep (∀ n, n ≤ l.length - b → (str l).extract b (b + n) = str ((l.drop b).take n)) := ⟨fun n _ => by rw [extract_is, str_data]; congr 2; omega⟩
  have HT := keep (spn_take (p := isD) (l.drop b))
  have HZ := keep hz
  generalize l.drop b = r at *
  have H1 := keep (fun h => dgt_zero (r := r) (b := b) h)
  have H2 := keep (fun h h2 => dgt_long (r := r) (b := b) h h2)
  have H3 := keep (fun h h2 h3 => dgt_letter (r := r) (b := b) h h2 h3)
  have H4 := keep (fun h h2 h3 => dgt_ok (r := r) (b := b) h h2 h3)
  have hn1 : 1 ≤ spn isD r := by
    cases r with
    | nil => simp [byteAt, isD] at hD
    | cons b t => rw [spn, if_pos (by simpa [byteAt] using hD)]; omega
  generalize hnn : spn isD r = n at *
  generalize dgt r b = G at *
  generalize hc : byteAt r 0 = c at *
  have hx := HX.out n (by omega)
  rw [← hm] at hx
  have HM := keep hm
  generalize str l = s at *
  have hbI : (b : Int) < (s.size : Int) := by omega
  have hb0 : (0 : Int) ≤ (b : Int) := by omega
  have hsI : (s.size : Int) ≤ 1000000 := by omega
  have hbn : (m : Int) ≤ (s.size : Int) := by omega
  have hbn2 : (b : Int) ≤ (m : Int) := by omega
  have hmn : (m : Int) = (b : Int) + (n : Int) := by omega
  have HMN := keep hmn
  have hw1 : IntKind.i64.wrap ((b : Int) + 1) = (b : Int) + 1 := IntWalk.i64_in _ ⟨by omega, by omega⟩
  have hw2 : IntKind.i64.wrap ((m : Int) - (b : Int)) = (n : Int) := by rw [show (m : Int) - (b : Int) = (n : Int) by omega]; exact IntWalk.i64_in _ ⟨by omega, by omega⟩
  have hn0 : (1 : Int) ≤ (n : Int) := by omega
  clear hD hle hs hb
  by_cases z : c = 48 ∧ 1 < n
  · have HE := keep (H1.out z)
    obtain ⟨h48, h1⟩ := z
    have hq : (c == 48) = true := by simp [h48]
    have h1I : (b : Int) + 1 < (m : Int) := by omega
    clear h48 hc hm hmn
    go_enter Try.func33, Try.ntmps33
    go_wp2_with fail
    go_returns
    exact ⟨by rw [HE.out]; rfl, (Below.refl _ _).alloc (Nat.le_refl _) _⟩
  · have step : ∀ q r' : Bool, (c == 48) = q → decide ((b : Int) + 1 < (m : Int)) = r' → (q && r') = false → Calls Try.prog 33 #[.string s, .int .i64 (b : Int), .int .i64 (m : Int)] w fun e w' => GotIs G e ∧ Below w.heap.size w w' := fun q r' hq hr hqr => by
      by_cases h18 : (18 : Int) < (n : Int)
      · have HE := keep (H2.out z (by omega))
        have hq2 : q = false := by
          have : r' = true := by rw [← hr]; simp; omega
          rw [this] at hqr; simpa using hqr
        subst hq2
        clear hqr hr z hc hm hmn
        go_enter Try.func33, Try.ntmps33
        go_wp2_with fail
        go_returns
        exact ⟨by rw [HE.out]; rfl, (Below.refl _ _).alloc (Nat.le_refl _) _⟩
      · obtain ⟨p, hp⟩ : ∃ p, isL (byteAt r n) = p := ⟨_, rfl⟩
        have HL := keep (rletter_any (byteAt r n))
        rw [hp] at HL
        have hGn := fun h => HG.out n h
        have hqr' : q = true → r' = false := fun e => by rw [e] at hqr; simpa using hqr
        have HP := keep hp
        cases p with
        | true =>
          have hin : (m : Int) < (s.size : Int) := by
            rcases Int.lt_or_le (m : Int) (s.size : Int) with h | h
            · exact h
            · rw [HEND.out n (by omega)] at hp; simp [isL] at hp
          have hgn : bt s m = byteAt r n := by rw [hm]; exact hGn (by omega)
          have HE := keep (H3.out z (by omega) HP.out)
          generalize byteAt r n = d at *
          clear hGn hp z hc hm hmn
          cases q with
          | true =>
            have hr2 := hqr' rfl
            subst hr2
            clear hqr hqr'
            go_enter Try.func33, Try.ntmps33
            go_wp2_with (go_at_call 34; refine (HL.out _).mono ?_; rintro e w' ⟨rfl, rfl⟩)
            go_returns
            exact ⟨by rw [HE.out]; rfl, (Below.refl _ _).alloc (Nat.le_refl _) _⟩
          | false =>
            clear hqr hqr' hr
            go_enter Try.func33, Try.ntmps33
            go_wp2_with (go_at_call 34; refine (HL.out _).mono ?_; rintro e w' ⟨rfl, rfl⟩)
            go_returns
            exact ⟨by rw [HE.out]; rfl, (Below.refl _ _).alloc (Nat.le_refl _) _⟩
        | false =>
          have HE := keep (H4.out z (by omega) HP.out)
          obtain ⟨T, hT⟩ : ∃ T, T = str (r.take n) := ⟨_, rfl⟩
          have HDG : Keep (∀ k, k < n → 48 ≤ byteAt r k ∧ byteAt r k ≤ 57 ∧ worth (r.take (k + 1)) = worth (r.take k) * 10 + (byteAt r k - 48)) := ⟨fun k hk => by
            have hkl : k < r.length := by have := spn_le isD r; omega
            obtain ⟨y, hy⟩ := get_of_lt hkl
            have hmem : y ∈ r.take n := by
              rw [List.mem_take_iff_getElem]
              have := (List.getElem?_eq_some_iff.1 hy).2
              exact ⟨k, by omega, this⟩
            have hyd := isD_bd (HT.out y hmem)
            have hby : byteAt r k = ob y := by unfold byteAt; rw [hy]
            rw [hby]
            refine ⟨hyd.1, hyd.2, ?_⟩
            rw [List.take_add_one, hy]
            exact worth_snoc _ _⟩
          have HWB : Keep (∀ k, k < n → 0 ≤ worth (r.take k) ∧ worth (r.take k) < 100000000000000000) := ⟨fun k hk => by
            have hkl : k < r.length := by have := spn_le isD r; omega
            have h1 := worth_bd k (r.take k) (by rw [List.length_take]; omega) (fun y hy => HT.out y (by
              rw [show r.take k = (r.take n).take k by rw [List.take_take]; congr 1; omega] at hy
              exact List.mem_of_mem_take hy))
            have h2 : (10 : Int) ^ k ≤ 10 ^ 17 := by
              have : (10 : Nat) ^ k ≤ 10 ^ 17 := Nat.pow_le_pow_right (by decide) (by omega)
              exact_mod_cast this
            exact ⟨h1.1, Int.lt_of_lt_of_le h1.2 h2⟩⟩
          have fin : Calls Try.prog 33 #[.string s, .int .i64 (b : Int), .int .i64 (m : Int)] w fun e w' => GotIs G e ∧ Below w.heap.size w w' := by
            by_cases hin : (m : Int) < (s.size : Int)
            · have hgn : bt s m = byteAt r n := by rw [hm]; exact hGn (by omega)
              generalize byteAt r n = d0 at *
              clear hGn hp z hc hm hmn
              cases q with
              | true =>
                have hr2 := hqr' rfl
                subst hr2
                clear hqr hqr'
                go_enter Try.func33, Try.ntmps33
                go_wp2_with (go_at_call 34; refine (HL.out _).mono ?_; rintro e w' ⟨rfl, rfl⟩)
                go_loop [7, 8] (fun vn vi => ∃ (k i : Nat) (acc : Int), k ≤ n ∧ i = b + k ∧ vi = .int .i64 (i : Int) ∧ vn = .int .i64 acc ∧ Keep (acc = worth (r.take k))) (fun _ vi => m - (intOf vi).toNat)
                case atStart => exact ⟨0, b, 0, Nat.zero_le _, rfl, rfl, rfl, ⟨rfl⟩⟩
                case round =>
                  obtain ⟨k, i, acc, hk, hi, rfl, rfl, HA⟩ := hrel
                  have hmi := HM.out
                  have hz1 := HZ.out
                  by_cases hlt : k < n
                  · obtain ⟨b1, b2, b3⟩ := HDG.out k hlt
                    obtain ⟨a1, a2⟩ := HWB.out k hlt
                    rw [← HA.out] at a1 a2 b3
                    have hgk : bt s i = byteAt r k := by rw [hi]; exact HG.out k (by omega)
                    have HN := keep b3.symm
                    generalize byteAt r k = d at *
                    have hltI : (i : Int) < (m : Int) := by omega
                    have hltS : (i : Int) < (s.size : Int) := by omega
                    have HI := keep hi
                    clear b3 hi hmi hz1
                    go_wp2_with fail
                    go_round
                    case rel => exact ⟨k + 1, i + 1, acc * 10 + (d - 48), by omega, by have := HI.out; omega, by go_num, by first | rfl | go_num | (congr 1; omega), HN⟩
                    case measure => simp [intOf]; omega
                  · have hkn : k = n := by omega
                    have HE2 : Keep (acc = worth (r.take n)) := ⟨by rw [HA.out, hkn]⟩
                    have hmm : i = m := by omega
                    subst hmm
                    clear hi hmi hz1 hlt hkn
                    go_wp2_with fail
                    go_returns
                    exact ⟨by rw [HE.out, ← HE2.out, ← HMN.out]; rfl, (Below.refl _ _).alloc (Nat.le_refl _) _⟩
              | false =>
                clear hqr hqr' hr
                go_enter Try.func33, Try.ntmps33
                go_wp2_with (go_at_call 34; refine (HL.out _).mono ?_; rintro e w' ⟨rfl, rfl⟩)
                go_loop [7, 8] (fun vn vi => ∃ (k i : Nat) (acc : Int), k ≤ n ∧ i = b + k ∧ vi = .int .i64 (i : Int) ∧ vn = .int .i64 acc ∧ Keep (acc = worth (r.take k))) (fun _ vi => m - (intOf vi).toNat)
                case atStart => exact ⟨0, b, 0, Nat.zero_le _, rfl, rfl, rfl, ⟨rfl⟩⟩
                case round =>
                  obtain ⟨k, i, acc, hk, hi, rfl, rfl, HA⟩ := hrel
                  have hmi := HM.out
                  have hz1 := HZ.out
                  by_cases hlt : k < n
                  · obtain ⟨b1, b2, b3⟩ := HDG.out k hlt
                    obtain ⟨a1, a2⟩ := HWB.out k hlt
                    rw [← HA.out] at a1 a2 b3
                    have hgk : bt s i = byteAt r k := by rw [hi]; exact HG.out k (by omega)
                    have HN := keep b3.symm
                    generalize byteAt r k = d at *
                    have hltI : (i : Int) < (m : Int) := by omega
                    have hltS : (i : Int) < (s.size : Int) := by omega
                    have HI := keep hi
                    clear b3 hi hmi hz1
                    go_wp2_with fail
                    go_round
                    case rel => exact ⟨k + 1, i + 1, acc * 10 + (d - 48), by omega, by have := HI.out; omega, by go_num, by first | rfl | go_num | (congr 1; omega), HN⟩
                    case measure => simp [intOf]; omega
                  · have hkn : k = n := by omega
                    have HE2 : Keep (acc = worth (r.take n)) := ⟨by rw [HA.out, hkn]⟩
                    have hmm : i = m := by omega
                    subst hmm
                    clear hi hmi hz1 hlt hkn
                    go_wp2_with fail
                    go_returns
                    exact ⟨by rw [HE.out, ← HE2.out, ← HMN.out]; rfl, (Below.refl _ _).alloc (Nat.le_refl _) _⟩
            · clear hGn hp z hc hm hmn
              cases q with
              | true =>
                have hr2 := hqr' rfl
                subst hr2
                clear hqr hqr'
                go_enter Try.func33, Try.ntmps33
                go_wp2_with fail
                go_loop [7, 8] (fun vn vi => ∃ (k i : Nat) (acc : Int), k ≤ n ∧ i = b + k ∧ vi = .int .i64 (i : Int) ∧ vn = .int .i64 acc ∧ Keep (acc = worth (r.take k))) (fun _ vi => m - (intOf vi).toNat)
                case atStart => exact ⟨0, b, 0, Nat.zero_le _, rfl, rfl, rfl, ⟨rfl⟩⟩
                case round =>
                  obtain ⟨k, i, acc, hk, hi, rfl, rfl, HA⟩ := hrel
                  have hmi := HM.out
                  have hz1 := HZ.out
                  by_cases hlt : k < n
                  · obtain ⟨b1, b2, b3⟩ := HDG.out k hlt
                    obtain ⟨a1, a2⟩ := HWB.out k hlt
                    rw [← HA.out] at a1 a2 b3
                    have hgk : bt s i = byteAt r k := by rw [hi]; exact HG.out k (by omega)
                    have HN := keep b3.symm
                    generalize byteAt r k = d at *
                    have hltI : (i : Int) < (m : Int) := by omega
                    have hltS : (i : Int) < (s.size : Int) := by omega
                    have HI := keep hi
                    clear b3 hi hmi hz1
                    go_wp2_with fail
                    go_round
                    case rel => exact ⟨k + 1, i + 1, acc * 10 + (d - 48), by omega, by have := HI.out; omega, by go_num, by first | rfl | go_num | (congr 1; omega), HN⟩
                    case measure => simp [intOf]; omega
                  · have hkn : k = n := by omega
                    have HE2 : Keep (acc = worth (r.take n)) := ⟨by rw [HA.out, hkn]⟩
                    have hmm : i = m := by omega
                    subst hmm
                    clear hi hmi hz1 hlt hkn
                    go_wp2_with fail
                    go_returns
                    exact ⟨by rw [HE.out, ← HE2.out, ← HMN.out]; rfl, (Below.refl _ _).alloc (Nat.le_refl _) _⟩
              | false =>
                clear hqr hqr' hr
                go_enter Try.func33, Try.ntmps33
                go_wp2_with fail
                go_loop [7, 8] (fun vn vi => ∃ (k i : Nat) (acc : Int), k ≤ n ∧ i = b + k ∧ vi = .int .i64 (i : Int) ∧ vn = .int .i64 acc ∧ Keep (acc = worth (r.take k))) (fun _ vi => m - (intOf vi).toNat)
                case atStart => exact ⟨0, b, 0, Nat.zero_le _, rfl, rfl, rfl, ⟨rfl⟩⟩
                case round =>
                  obtain ⟨k, i, acc, hk, hi, rfl, rfl, HA⟩ := hrel
                  have hmi := HM.out
                  have hz1 := HZ.out
                  by_cases hlt : k < n
                  · obtain ⟨b1, b2, b3⟩ := HDG.out k hlt
                    obtain ⟨a1, a2⟩ := HWB.out k hlt
                    rw [← HA.out] at a1 a2 b3
                    have hgk : bt s i = byteAt r k := by rw [hi]; exact HG.out k (by omega)
                    have HN := keep b3.symm
                    generalize byteAt r k = d at *
                    have hltI : (i : Int) < (m : Int) := by omega
                    have hltS : (i : Int) < (s.size : Int) := by omega
                    have HI := keep hi
                    clear b3 hi hmi hz1
                    go_wp2_with fail
                    go_round
                    case rel => exact ⟨k + 1, i + 1, acc * 10 + (d - 48), by omega, by have := HI.out; omega, by go_num, by first | rfl | go_num | (congr 1; omega), HN⟩
                    case measure => simp [intOf]; omega
                  · have hkn : k = n := by omega
                    have HE2 : Keep (acc = worth (r.take n)) := ⟨by rw [HA.out, hkn]⟩
                    have hmm : i = m := by omega
                    subst hmm
                    clear hi hmi hz1 hlt hkn
                    go_wp2_with fail
                    go_returns
                    exact ⟨by rw [HE.out, ← HE2.out, ← HMN.out]; rfl, (Below.refl _ _).alloc (Nat.le_refl _) _⟩
          exact fin
    by_cases h48 : c = 48
    · exact step _ _ rfl rfl (by simp; omega)
    · exact step _ _ rfl rfl (by simp [h48])
end Go.Proofs.Ytglmcjplglgnlaa
