/-
  The document's Next: at the end, at digits, at letters.
-/
import Derived.Test.YtglmcjplglgnlaaTokS
import Derived.Test.YtglmcjplglgnlaaTokG
import Derived.Test.YtglmcjplglgnlaaAny
namespace Go.Proofs.Ytglmcjplglgnlaa
open Go.RowKit Go.Joins

theorem nxt_end {l : List UInt8} {a b : Nat} (hb : b = a + skp false (l.drop a)) (hr : l.drop b = []) : nxt l a = (⟨0, ⟨#[]⟩, 0, (b : Int)⟩, (b : Int), 0) := by
  have hp : pc (l.drop b) = (0, 0, 0) := by rw [hr]; rfl
  rw [nxt_good hb hp, hr]; simp; rfl
theorem pcNum_ok {r : List UInt8} (h : (pcNum r).2.2 = 0) : pcNum r = (2, spn isD r, 0) := by
  unfold pcNum at h ⊢
  split at h
  · simp at h
  · split at h
    · simp at h
    · split at h
      · simp at h
      · rw [if_neg (by assumption), if_neg (by assumption), if_neg (by assumption)]
theorem isD_isL {c : Int} (h : isD c = true) : isL c = false := by
  have := isD_bd h
  unfold isL
  have h1 : ¬ (97 ≤ c ∧ c ≤ 122) := by omega
  have h2 : ¬ (65 ≤ c ∧ c ≤ 90) := by omega
  have h3 : ¬ c = 95 := by omega
  simp [h1, h2, h3]
theorem nxt_dig {l : List UInt8} {a b : Nat} (hb : b = a + skp false (l.drop a)) (hr : l.drop b ≠ []) (hD : isD (byteAt (l.drop b) 0) = true) : nxt l a = dgt (l.drop b) b := by
  have hp : pc (l.drop b) = pcNum (l.drop b) := by unfold pc; rw [if_neg hr, if_neg (by rw [isD_isL hD]; simp), if_pos hD]
  unfold dgt
  by_cases h : (pcNum (l.drop b)).2.2 = 0
  · rw [if_neg (by simpa using h)]
    rw [pcNum_ok h] at hp
    rw [nxt_good hb hp, if_pos rfl]
  · rw [if_pos h]
    exact nxt_bad (n := (pcNum (l.drop b)).2.1) (K := (pcNum (l.drop b)).1) hb (by rw [hp]) h
theorem nxt_let {l : List UInt8} {a b : Nat} (hb : b = a + skp false (l.drop a)) (hr : l.drop b ≠ []) (hL : isL (byteAt (l.drop b) 0) = true) :
    nxt l a = if 16 < spn isN (l.drop b) then (zt, (b : Int), 5) else (⟨if isW ((l.drop b).take (spn isN (l.drop b))) then 3 else 1, str ((l.drop b).take (spn isN (l.drop b))), 0, (b : Int)⟩, ((b + spn isN (l.drop b) : Nat) : Int), 0) := by
  have hp : pc (l.drop b) = pcName (l.drop b) := by unfold pc; rw [if_neg hr, if_pos hL]
  unfold pcName at hp
  split
  · rw [if_pos (by assumption)] at hp
    exact nxt_bad hb hp (by decide)
  · rw [if_neg (by assumption)] at hp
    split
    · rw [if_pos (by assumption)] at hp
      rw [nxt_good hb hp, if_neg (by decide)]; simp
    · rw [if_neg (by assumption)] at hp
      rw [nxt_good hb hp, if_neg (by decide)]; simp

set_option maxRecDepth 100000 in
set_option maxHeartbeats 4000000 in
theorem rnext_end (l : List UInt8) (a b : Nat) (ha : a ≤ l.length) (hs : l.length ≤ 1000000) (hb : b = a + skp false (l.drop a)) (hr : l.drop b = []) (w : World) :
    Calls Try.prog 20 #[.string (str l), .int .i64 (a : Int)] w fun e w' => GotIs (nxt l a) e ∧ Below w.heap.size w w' := by
  have hz : (str l).size = l.length := str_size l
  have HBG := keep (begin_any l a ha hs)
  rw [← hb] at HBG
  have hbl : b ≤ l.length := by have := skp_le (l.drop a) false; rw [List.length_drop] at this; omega
  have hbe : b = l.length := by have h := congrArg List.length hr; rw [List.length_drop] at h; simp at h; omega
  have HN := keep (nxt_end hb hr)
  generalize nxt l a = X at *
  generalize str l = s at *
  have hbs : ((b : Int) == (s.size : Int)) = true := by rw [hz, hbe]; simp
  have haI : (a : Int) ≤ (s.size : Int) := by omega
  have ha0 : (0 : Int) ≤ (a : Int) := by omega
  clear hz hbl hbe hb hr ha hs
  go_enter Try.func20, Try.ntmps20
  go_wp2_with (go_at_call 31; refine (HBG.out _).mono ?_; rintro e w' ⟨rfl, rfl⟩)
  go_returns
  exact ⟨by rw [HN.out]; rfl, (Below.refl _ _).alloc (Nat.le_refl _) _⟩

set_option maxRecDepth 100000 in
set_option maxHeartbeats 4000000 in
theorem rnext_dig (l : List UInt8) (a b : Nat) (ha : a ≤ l.length) (hs : l.length ≤ 1000000) (hb : b = a + skp false (l.drop a)) (hr : l.drop b ≠ []) (hD : isD (byteAt (l.drop b) 0) = true) (w : World) :
    Calls Try.prog 20 #[.string (str l), .int .i64 (a : Int)] w fun e w' => GotIs (nxt l a) e ∧ Below w.heap.size w w' := by
  have hz : (str l).size = l.length := str_size l
  have HBG := keep (begin_any l a ha hs)
  rw [← hb] at HBG
  have hlt : b < l.length := by
    rcases Nat.lt_or_ge b l.length with h | h
    · exact h
    · exact absurd (List.drop_eq_nil_of_le h) hr
  have hg := get_bt (str l)
  have hg0 : bt (str l) b = byteAt (l.drop b) 0 := by rw [bt_at l hlt, at_drop]; rfl
  have HG : Keep (∀ k, b + k < (str l).size → bt (str l) (b + k) = byteAt (l.drop b) k) := ⟨fun k hk => by rw [bt_at l (by omega), at_drop]⟩
  have HDG := keep (fun m hm => digits_any l b m hm hlt hD hs)
  have HN := keep (nxt_dig hb hr hD)
  have HD0 := keep (rdigit_any (byteAt (l.drop b) 0))
  rw [hD] at HD0
  have hle := spn_le isD (l.drop b)
  rw [List.length_drop] at hle
  have HRL : Keep ((l.drop b).length = l.length - b) := ⟨List.length_drop⟩
  have HZ := keep hz
  rw [← HN.out] at HDG
  generalize l.drop b = r at *
  generalize nxt l a = X at *
  generalize byteAt r 0 = c at *
  have HS0 : Keep (0 + spn isD (r.drop 0) = spn isD r) := ⟨by simp⟩
  have HS1 := keep (fun k (b : UInt8) t (h : r.drop k = b :: t) hk hb => spn_step (p := isD) h hk hb)
  have HS2 := keep (fun k (b : UInt8) t (h : r.drop k = b :: t) hk hb => spn_stop (p := isD) h hk hb)
  have HS3 := keep (fun k (h : r.drop k = []) hk => spn_end (p := isD) h hk)
  generalize str l = s at *
  have hbs : ((b : Int) == (s.size : Int)) = false := by simp; omega
  have hbI : (b : Int) < (s.size : Int) := by omega
  have haI : (a : Int) ≤ (s.size : Int) := by omega
  have ha0 : (0 : Int) ≤ (a : Int) := by omega
  have hsI : (s.size : Int) ≤ 1000000 := by omega
  have HB0 := keep (BoxL.new w [.int .i64 0, .string ⟨#[]⟩, .int .i64 0, .int .i64 0, .int .i64 0, .int .i64 0] 53)
  obtain ⟨⟨K, S, V, A⟩, N, E⟩ := X
  unfold GotIs at HDG
  simp only at HDG
  clear hz hlt hb hr ha hs hD hle HN
  go_enter Try.func20, Try.ntmps20
  go_wp2_with (first
    | (go_at_call 31; refine (HBG.out _).mono ?_; rintro e w' ⟨rfl, rfl⟩)
    | (go_at_call 32; refine (HD0.out _).mono ?_; rintro e w' ⟨rfl, rfl⟩))
  go_loop [6] (fun iv => ∃ k i : Nat, iv = .int .i64 (i : Int) ∧ i = b + k ∧ i ≤ s.size ∧ Keep (k + spn isD (r.drop k) = spn isD r)) (fun iv => s.size - (intOf iv).toNat)
  case atStart => exact ⟨0, b, rfl, rfl, by omega, HS0⟩
  case round =>
    obtain ⟨k, i, rfl, hi, hk, HK⟩ := hrel
    have HI := keep hi
    clear HS0
    by_cases hlt : i < s.size
    · have hltI : (i : Int) < (s.size : Int) := by omega
      have hrl := HRL.out
      have hzz := HZ.out
      have hgi : bt s i = byteAt r k := by rw [hi]; exact HG.out k (by omega)
      obtain ⟨y, hy⟩ := get_of_lt (l := r) (i := k) (by omega)
      have hdr : r.drop k = y :: r.drop (k + 1) := by rw [List.drop_eq_getElem_cons (by omega)]; congr 1; exact (List.getElem?_eq_some_iff.1 hy).2
      have hby : byteAt r k = ob y := by unfold byteAt; rw [hy]
      have HDR := keep hdr
      have HDC := keep (rdigit_any (byteAt r k))
      rw [hby] at hgi HDC
      generalize hq : isD (ob y) = q at *
      have HQ := keep hq
      clear hi hy hdr hrl hzz hq hby
      cases q with
      | true =>
        have HNX := keep (HS1.out _ _ _ HDR.out HK.out HQ.out)
        go_wp2_with (go_at_call 32; refine (HDC.out _).mono ?_; rintro e w' ⟨rfl, rfl⟩)
        go_round
        case rel => exact ⟨k + 1, i + 1, by go_num, by have := HI.out; omega, by omega, HNX⟩
        case measure => simp [intOf]; omega
      | false =>
        have HNX := keep (HS2.out _ _ _ HDR.out HK.out HQ.out)
        have HDF := keep (HDG.out i (by rw [HI.out, HNX.out]))
        clear HDG HK
        go_wp2_with (go_at_call 32; refine (HDC.out _).mono ?_; rintro e w' ⟨rfl, rfl⟩)
        refine (HDF.out _).mono ?_
        rintro e w2 ⟨rfl, hb⟩
        have HB := keep (((Below.refl _ w).alloc (Nat.le_refl _) _).trans (hb.mono (by simp)))
        have HX := keep (HB0.out.to hb)
        clear hb
        have hx0 := HX.out.row 0 _ rfl
        have hx1 := HX.out.row 1 _ rfl
        have hx2 := HX.out.row 2 _ rfl
        have hx3 := HX.out.row 3 _ rfl
        have hx4 := HX.out.row 4 _ rfl
        have hx5 := HX.out.row 5 _ rfl
        have hxf := HX.out.free
        have hxl := HX.out.lt
        obtain ⟨hs0, hs1, hs2, hs3, hs4, hs5⟩ := HX.out.put6
        go_wp2_with fail
        refine bodyPost_ret (v := .agg #[.int .i64 K, .string S, .int .i64 V, .int .i64 A, .int .i64 N, .int .i64 E]) ?_ rfl ⟨rfl, below_put6 HB.out (Nat.le_refl _) _ _ _ _ _ _⟩
        simp [results, Try.results20, go_sem, hs0, hs1, hs2, hs3, hs4, hs5]
    · have hie : i = s.size := by omega
      have hrl := HRL.out
      have hzz := HZ.out
      have hdr : r.drop k = [] := List.drop_eq_nil_of_le (by omega)
      have HNX := keep (HS3.out _ hdr HK.out)
      have HDF := keep (HDG.out i (by rw [HI.out, HNX.out]))
      have hltI : (s.size : Int) ≤ (i : Int) := by omega
      clear HDG HK hi hdr hrl hzz hie hlt
      go_wp2_with fail
      refine (HDF.out _).mono ?_
      rintro e w2 ⟨rfl, hb⟩
      have HB := keep (((Below.refl _ w).alloc (Nat.le_refl _) _).trans (hb.mono (by simp)))
      have HX := keep (HB0.out.to hb)
      clear hb
      have hx0 := HX.out.row 0 _ rfl
      have hx1 := HX.out.row 1 _ rfl
      have hx2 := HX.out.row 2 _ rfl
      have hx3 := HX.out.row 3 _ rfl
      have hx4 := HX.out.row 4 _ rfl
      have hx5 := HX.out.row 5 _ rfl
      have hxf := HX.out.free
      have hxl := HX.out.lt
      obtain ⟨hs0, hs1, hs2, hs3, hs4, hs5⟩ := HX.out.put6
      go_wp2_with fail
      refine bodyPost_ret (v := .agg #[.int .i64 K, .string S, .int .i64 V, .int .i64 A, .int .i64 N, .int .i64 E]) ?_ rfl ⟨rfl, below_put6 HB.out (Nat.le_refl _) _ _ _ _ _ _⟩
      simp [results, Try.results20, go_sem, hs0, hs1, hs2, hs3, hs4, hs5]
end Go.Proofs.Ytglmcjplglgnlaa
