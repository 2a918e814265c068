/-
  The document's Next at letters.
-/
import Derived.Test.YtglmcjplglgnlaaTokT
namespace Go.Proofs.Ytglmcjplglgnlaa
open Go.RowKit Go.Joins

set_option maxRecDepth 100000 in
set_option maxHeartbeats 8000000 in
theorem rnext_let (l : List UInt8) (a b : Nat) (ha : a ≤ l.length) (hs : l.length ≤ 1000000) (hb : b = a + skp false (l.drop a)) (hr : l.drop b ≠ []) (hL : isL (byteAt (l.drop b) 0) = true) (w : World) :
    Calls Try.prog 20 #[.string (str l), .int .i64 (a : Int)] w fun e w' => GotIs (nxt l a) e ∧ Below w.heap.size w w' := by
  have hz : (str l).size = l.length := str_size l
  have HBG := keep (begin_any l a ha hs)
  rw [← hb] at HBG
  have hlt : b < l.length := by
    rcases Nat.lt_or_ge b l.length with h | h
    · exact h
    · exact absurd (List.drop_eq_nil_of_le h) hr
  have hg := get_bt (str l)
  have hg0 : bt (str l) b = byteAt (l.drop b) 0 := by rw [bt_at l hlt, at_drop]; rfl
  have HG : Keep (∀ k, b + k < (str l).size → bt (str l) (b + k) = byteAt (l.drop b) k) := ⟨fun k hk => by rw [bt_at l (by omega), at_drop]⟩
  have HN := nxt_let hb hr hL
  have hDf : isD (byteAt (l.drop b) 0) = false := by
    cases h : isD (byteAt (l.drop b) 0) with
    | false => rfl
    | true => rw [isD_isL h] at hL; cases hL
  have HD0 := keep (rdigit_any (byteAt (l.drop b) 0))
  have HL0 := keep (rletter_any (byteAt (l.drop b) 0))
  rw [hDf] at HD0
  rw [hL] at HL0
  have hle := spn_le isN (l.drop b)
  rw [List.length_drop] at hle
  have HRL : Keep ((l.drop b).length = l.length - b) := ⟨List.length_drop⟩
  have HX0 : Keep ((str l).extract b (b + spn isN (l.drop b)) = str ((l.drop b).take (spn isN (l.drop b)))) := ⟨by rw [extract_is, str_data]; congr 2; omega⟩
  have HZ := keep hz
  generalize l.drop b = r at *
  generalize nxt l a = X at *
  generalize byteAt r 0 = c at *
  have HS0 : Keep (0 + spn isN (r.drop 0) = spn isN r) := ⟨by simp⟩
  have HS1 := keep (fun k (b : UInt8) t (h : r.drop k = b :: t) hk hb => spn_step (p := isN) h hk hb)
  have HS2 := keep (fun k (b : UInt8) t (h : r.drop k = b :: t) hk hb => spn_stop (p := isN) h hk hb)
  have HS3 := keep (fun k (h : r.drop k = []) hk => spn_end (p := isN) h hk)
  obtain ⟨n, hn⟩ : ∃ n, n = spn isN r := ⟨_, rfl⟩
  rw [← hn] at HN HX0 HS0 HS1 HS2 HS3 hle
  have HLONG : Keep (16 < n → X = (zt, (b : Int), 5)) := ⟨fun h => by rw [HN, if_pos h]⟩
  have HOK : Keep (¬ 16 < n → X = (⟨if isW (r.take n) then 3 else 1, str (r.take n), 0, (b : Int)⟩, ((b + n : Nat) : Int), 0)) := ⟨fun h => by rw [HN, if_neg h]⟩
  have HTK := keep (show ∃ X0, X0 = r.take n from ⟨_, rfl⟩)
  generalize r.take n = X0 at *
  generalize str l = s at *
  have hbs : ((b : Int) == (s.size : Int)) = false := by simp; omega
  have hbI : (b : Int) < (s.size : Int) := by omega
  have hb0 : (0 : Int) ≤ (b : Int) := by omega
  have haI : (a : Int) ≤ (s.size : Int) := by omega
  have ha0 : (0 : Int) ≤ (a : Int) := by omega
  have hsI : (s.size : Int) ≤ 1000000 := by omega
  have HLE : Keep (b + n ≤ s.size) := ⟨by omega⟩
  have HB0 := keep (BoxL.new w [.int .i64 0, .string ⟨#[]⟩, .int .i64 0, .int .i64 0, .int .i64 0, .int .i64 0] 53)
  clear hz hlt hb hr ha hs hL hle HN hDf hn HTK
  go_enter Try.func20, Try.ntmps20
  go_wp2_with (first
    | (go_at_call 31; refine (HBG.out _).mono ?_; rintro e w' ⟨rfl, rfl⟩)
    | (go_at_call 32; refine (HD0.out _).mono ?_; rintro e w' ⟨rfl, rfl⟩)
    | (go_at_call 34; refine (HL0.out _).mono ?_; rintro e w' ⟨rfl, rfl⟩))
  go_loop [6] (fun iv => ∃ k i : Nat, iv = .int .i64 (i : Int) ∧ i = b + k ∧ i ≤ s.size ∧ Keep (k + spn isN (r.drop k) = n)) (fun iv => s.size - (intOf iv).toNat)
  case atStart => exact ⟨0, b, rfl, rfl, by omega, HS0⟩
  case round =>
    obtain ⟨k, i, rfl, hi, hk, HK⟩ := hrel
    have HI := keep hi
    have hle := HLE.out
    clear HS0
    by_cases hlt : i < s.size
    · have hltI : (i : Int) < (s.size : Int) := by omega
      have hrl := HRL.out
      have hzz := HZ.out
      have hgi : bt s i = byteAt r k := by rw [hi]; exact HG.out k (by omega)
      obtain ⟨y, hy⟩ := get_of_lt (l := r) (i := k) (by omega)
      have hdr : r.drop k = y :: r.drop (k + 1) := by rw [List.drop_eq_getElem_cons (by omega)]; congr 1; exact (List.getElem?_eq_some_iff.1 hy).2
      have hby : byteAt r k = ob y := by unfold byteAt; rw [hy]
      have HDR := keep hdr
      have HLC := keep (rletter_any (byteAt r k))
      have HDC := keep (rdigit_any (byteAt r k))
      rw [hby] at hgi HDC HLC
      have hdef : isN (ob y) = (isL (ob y) || isD (ob y)) := rfl
      generalize hp : isL (ob y) = p at *
      generalize hq : isD (ob y) = q at *
      cases p with
      | true =>
        have HNX := keep (HS1.out _ _ _ HDR.out HK.out (by rw [hdef]; rfl))
        clear hi hy hdr hrl hzz hq hp hby hdef hle
        go_wp2_with (first
          | (go_at_call 34; refine (HLC.out _).mono ?_; rintro e w' ⟨rfl, rfl⟩)
          | (go_at_call 32; refine (HDC.out _).mono ?_; rintro e w' ⟨rfl, rfl⟩))
        go_round
        case rel => exact ⟨k + 1, i + 1, by go_num, by have := HI.out; omega, by omega, HNX⟩
        case measure => simp [intOf]; omega
      | false =>
        cases q with
        | true =>
          have HNX := keep (HS1.out _ _ _ HDR.out HK.out (by rw [hdef]; rfl))
          clear hi hy hdr hrl hzz hq hp hby hdef hle
          go_wp2_with (first
            | (go_at_call 34; refine (HLC.out _).mono ?_; rintro e w' ⟨rfl, rfl⟩)
            | (go_at_call 32; refine (HDC.out _).mono ?_; rintro e w' ⟨rfl, rfl⟩))
          go_round
          case rel => exact ⟨k + 1, i + 1, by go_num, by have := HI.out; omega, by omega, HNX⟩
          case measure => simp [intOf]; omega
        | false =>
          have HNX := HS2.out _ _ _ HDR.out HK.out (by rw [hdef]; rfl)
          have hin : i = b + n := by rw [HI.out, HNX]
          have hwr : IntKind.i64.wrap ((i : Int) - (b : Int)) = (n : Int) := by rw [show (i : Int) - (b : Int) = (n : Int) by omega]; exact IntWalk.i64_in _ ⟨by omega, by omega⟩
          have hx : s.extract b i = str X0 := by rw [hin]; exact HX0.out
          have hbi : (b : Int) ≤ (i : Int) := by omega
          have hisz : (i : Int) ≤ (s.size : Int) := by omega
          have HIN := keep hin
          clear hi hy hdr hrl hzz hq hp hby hdef HNX HK hin hle
          by_cases h16 : (16 : Int) < (n : Int)
          · have HE := keep (HLONG.out (by omega))
            go_wp2_with (first
              | (go_at_call 34; refine (HLC.out _).mono ?_; rintro e w' ⟨rfl, rfl⟩)
              | (go_at_call 32; refine (HDC.out _).mono ?_; rintro e w' ⟨rfl, rfl⟩))
            go_returns
            exact ⟨by rw [HE.out]; rfl, (Below.refl _ _).alloc (Nat.le_refl _) _⟩
          · have HE := keep (HOK.out (by omega))
            go_wp2_with (first
              | (go_at_call 34; refine (HLC.out _).mono ?_; rintro e w' ⟨rfl, rfl⟩)
              | (go_at_call 32; refine (HDC.out _).mono ?_; rintro e w' ⟨rfl, rfl⟩))
            refine AnyGo.region (fun _ => True) (by kernel_rfl) (by rfl) trivial ?_
            intro wd ewd
            subst ewd
            (refine AnyGo.take 1 (some 81) ?_ (a' := ?_) rfl (by kernel_rfl) (fun _ _ d _ _ h => by cases d <;> exact h) (by kernel_rfl) (by rfl) (by kernel_rfl) ?_ ?_ ?_; rotate_left 2; (focus (intro W hW; (try dsimp only at hW); go_simp; (try with_reducible rfl))); (focus (simp only [Act.put, List.setIfInBounds_toArray]; rfl)))
            (refine AnyGo.take 2 (some 82) ?_ (a' := ?_) rfl (by kernel_rfl) (fun _ _ d _ _ h => by cases d <;> exact h) (by kernel_rfl) (by rfl) (by kernel_rfl) ?_ ?_ ?_; rotate_left 2; (focus (intro W hW; (try dsimp only at hW); go_simp; (try with_reducible rfl))); (focus (simp only [Act.put, List.setIfInBounds_toArray]; rfl)))
            (refine AnyGo.take 3 (some 83) ?_ (a' := ?_) rfl (by kernel_rfl) (fun _ _ d _ _ h => by cases d <;> exact h) (by kernel_rfl) (by rfl) (by kernel_rfl) ?_ ?_ ?_; rotate_left 2; (focus (intro W hW; (try dsimp only at hW); go_simp; (try with_reducible rfl))); (focus (simp only [Act.put, List.setIfInBounds_toArray]; rfl)))
            (refine AnyGo.take 4 (some 84) ?_ (a' := ?_) rfl (by kernel_rfl) (fun _ _ d _ _ h => by cases d <;> exact h) (by kernel_rfl) (by rfl) (by kernel_rfl) ?_ ?_ ?_; rotate_left 2; (focus (intro W hW; (try dsimp only at hW); go_simp; (try with_reducible rfl))); (focus (simp only [Act.put, List.setIfInBounds_toArray]; rfl)))
            refine AnyGo.one (i := 0) (by kernel_rfl) rfl (by kernel_rfl) (fun K' hK' => ?_)
            go_simp
            refine (words_any _).mono ?_
            rintro e w1 ⟨v, rfl, hrow, hb⟩
            have HROW := keep hrow
            have HB := keep ((((Below.refl _ w).alloc (Nat.le_refl _) (.cells #[.int .i64 0, .string ⟨#[]⟩, .int .i64 0, .int .i64 0, .int .i64 0, .int .i64 0] 53)).drew).trans (hb.mono (by simp)))
            have HX := keep (HB0.out.drew.to hb)
            clear hrow hb
            refine hK'.out _ _ trivial ?_
            clear hK' K'
            (try simp only [Act.put, List.setIfInBounds_toArray])
            refine AnyGo.one (i := 5) (by kernel_rfl) rfl (by kernel_rfl) (fun K' hK' => ?_)
            go_simp
            refine (in_any X0 HROW.out).mono ?_
            rintro e w' ⟨rfl, rfl⟩
            refine hK'.out _ _ trivial ?_
            clear hK' K'
            (try simp only [Act.put, List.setIfInBounds_toArray])
            refine AnyGo.fin (by kernel_rfl) ?_
            have hx0 := HX.out.row 0 _ rfl
            have hx1 := HX.out.row 1 _ rfl
            have hx2 := HX.out.row 2 _ rfl
            have hx3 := HX.out.row 3 _ rfl
            have hx4 := HX.out.row 4 _ rfl
            have hx5 := HX.out.row 5 _ rfl
            have hxf := HX.out.free
            have hxl := HX.out.lt
            obtain ⟨hs0, hs1, hs2, hs3, hs4, hs5⟩ := HX.out.put6
            have hwd : decide (X0 ∈ wordsL) = isW X0 := rfl
            rw [hwd]
            clear hwd
            generalize isW X0 = q at *
            cases q with
            | true =>
              go_wp2_with fail
              refine bodyPost_ret (v := .agg #[.int .i64 3, .string (str X0), .int .i64 0, .int .i64 (b : Int), .int .i64 (i : Int), .int .i64 0]) ?_ rfl ⟨by rw [HE.out, ← HIN.out]; rfl, below_put6 HB.out (Nat.le_refl _) _ _ _ _ _ _⟩
              simp [results, Try.results20, go_sem, hs0, hs1, hs2, hs3, hs4, hs5]
            | false =>
              go_wp2_with fail
              refine bodyPost_ret (v := .agg #[.int .i64 1, .string (str X0), .int .i64 0, .int .i64 (b : Int), .int .i64 (i : Int), .int .i64 0]) ?_ rfl ⟨by rw [HE.out, ← HIN.out]; rfl, below_put6 HB.out (Nat.le_refl _) _ _ _ _ _ _⟩
              simp [results, Try.results20, go_sem, hs0, hs1, hs2, hs3, hs4, hs5]
    · have hie : i = s.size := by omega
      have hrl := HRL.out
      have hzz := HZ.out
      have hdr : r.drop k = [] := List.drop_eq_nil_of_le (by omega)
      have HNX := HS3.out _ hdr HK.out
      have hin : i = b + n := by rw [HI.out, HNX]
      have hwr : IntKind.i64.wrap ((i : Int) - (b : Int)) = (n : Int) := by rw [show (i : Int) - (b : Int) = (n : Int) by omega]; exact IntWalk.i64_in _ ⟨by omega, by omega⟩
      have hx : s.extract b i = str X0 := by rw [hin]; exact HX0.out
      have hbi : (b : Int) ≤ (i : Int) := by omega
      have hisz : (i : Int) ≤ (s.size : Int) := by omega
      have HIN := keep hin
      have hltI : (s.size : Int) ≤ (i : Int) := by omega
      clear HK hi hdr hrl hzz hie hlt HNX hin hle
      by_cases h16 : (16 : Int) < (n : Int)
      · have HE := keep (HLONG.out (by omega))
        go_wp2_with fail
        go_returns
        exact ⟨by rw [HE.out]; rfl, (Below.refl _ _).alloc (Nat.le_refl _) _⟩
      · have HE := keep (HOK.out (by omega))
        go_wp2_with fail
        refine AnyGo.region (fun _ => True) (by kernel_rfl) (by rfl) trivial ?_
        intro wd ewd
        subst ewd
        (refine AnyGo.take 1 (some 81) ?_ (a' := ?_) rfl (by kernel_rfl) (fun _ _ d _ _ h => by cases d <;> exact h) (by kernel_rfl) (by rfl) (by kernel_rfl) ?_ ?_ ?_; rotate_left 2; (focus (intro W hW; (try dsimp only at hW); go_simp; (try with_reducible rfl))); (focus (simp only [Act.put, List.setIfInBounds_toArray]; rfl)))
        (refine AnyGo.take 2 (some 82) ?_ (a' := ?_) rfl (by kernel_rfl) (fun _ _ d _ _ h => by cases d <;> exact h) (by kernel_rfl) (by rfl) (by kernel_rfl) ?_ ?_ ?_; rotate_left 2; (focus (intro W hW; (try dsimp only at hW); go_simp; (try with_reducible rfl))); (focus (simp only [Act.put, List.setIfInBounds_toArray]; rfl)))
        (refine AnyGo.take 3 (some 83) ?_ (a' := ?_) rfl (by kernel_rfl) (fun _ _ d _ _ h => by cases d <;> exact h) (by kernel_rfl) (by rfl) (by kernel_rfl) ?_ ?_ ?_; rotate_left 2; (focus (intro W hW; (try dsimp only at hW); go_simp; (try with_reducible rfl))); (focus (simp only [Act.put, List.setIfInBounds_toArray]; rfl)))
        (refine AnyGo.take 4 (some 84) ?_ (a' := ?_) rfl (by kernel_rfl) (fun _ _ d _ _ h => by cases d <;> exact h) (by kernel_rfl) (by rfl) (by kernel_rfl) ?_ ?_ ?_; rotate_left 2; (focus (intro W hW; (try dsimp only at hW); go_simp; (try with_reducible rfl))); (focus (simp only [Act.put, List.setIfInBounds_toArray]; rfl)))
        refine AnyGo.one (i := 0) (by kernel_rfl) rfl (by kernel_rfl) (fun K' hK' => ?_)
        go_simp
        refine (words_any _).mono ?_
        rintro e w1 ⟨v, rfl, hrow, hb⟩
        have HROW := keep hrow
        have HB := keep ((((Below.refl _ w).alloc (Nat.le_refl _) (.cells #[.int .i64 0, .string ⟨#[]⟩, .int .i64 0, .int .i64 0, .int .i64 0, .int .i64 0] 53)).drew).trans (hb.mono (by simp)))
        have HX := keep (HB0.out.drew.to hb)
        clear hrow hb
        refine hK'.out _ _ trivial ?_
        clear hK' K'
        (try simp only [Act.put, List.setIfInBounds_toArray])
        refine AnyGo.one (i := 5) (by kernel_rfl) rfl (by kernel_rfl) (fun K' hK' => ?_)
        go_simp
        refine (in_any X0 HROW.out).mono ?_
        rintro e w' ⟨rfl, rfl⟩
        refine hK'.out _ _ trivial ?_
        clear hK' K'
        (try simp only [Act.put, List.setIfInBounds_toArray])
        refine AnyGo.fin (by kernel_rfl) ?_
        have hx0 := HX.out.row 0 _ rfl
        have hx1 := HX.out.row 1 _ rfl
        have hx2 := HX.out.row 2 _ rfl
        have hx3 := HX.out.row 3 _ rfl
        have hx4 := HX.out.row 4 _ rfl
        have hx5 := HX.out.row 5 _ rfl
        have hxf := HX.out.free
        have hxl := HX.out.lt
        obtain ⟨hs0, hs1, hs2, hs3, hs4, hs5⟩ := HX.out.put6
        have hwd : decide (X0 ∈ wordsL) = isW X0 := rfl
        rw [hwd]
        clear hwd
        generalize isW X0 = q at *
        cases q with
        | true =>
          go_wp2_with fail
          refine bodyPost_ret (v := .agg #[.int .i64 3, .string (str X0), .int .i64 0, .int .i64 (b : Int), .int .i64 (i : Int), .int .i64 0]) ?_ rfl ⟨by rw [HE.out, ← HIN.out]; rfl, below_put6 HB.out (Nat.le_refl _) _ _ _ _ _ _⟩
          simp [results, Try.results20, go_sem, hs0, hs1, hs2, hs3, hs4, hs5]
        | false =>
          go_wp2_with fail
          refine bodyPost_ret (v := .agg #[.int .i64 1, .string (str X0), .int .i64 0, .int .i64 (b : Int), .int .i64 (i : Int), .int .i64 0]) ?_ rfl ⟨by rw [HE.out, ← HIN.out]; rfl, below_put6 HB.out (Nat.le_refl _) _ _ _ _ _ _⟩
          simp [results, Try.results20, go_sem, hs0, hs1, hs2, hs3, hs4, hs5]
end Go.Proofs.Ytglmcjplglgnlaa
