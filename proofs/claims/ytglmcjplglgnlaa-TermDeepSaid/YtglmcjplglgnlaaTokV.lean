/-
  The document's Next at signs, and in all.
-/
import Derived.Test.YtglmcjplglgnlaaTokU
namespace Go.Proofs.Ytglmcjplglgnlaa
open Go.RowKit Go.Joins

theorem RowAt.to {w w' : World} {v : Value} {l : List (List UInt8)} (h : RowAt SV w.heap.size w v l) (hb : Below w.heap.size w w') : RowAt SV w'.heap.size w' v l := (h.below hb).mono hb.size
theorem signs_len : ∀ x ∈ signsL, 1 ≤ x.length ∧ x.length ≤ 2 := by decide
theorem begins_short {x r : List UInt8} (h : r.length < x.length) : begins x r = false := by
  cases hb : begins x r with
  | false => rfl
  | true =>
    obtain ⟨t, ht⟩ := begins_of hb
    rw [ht, List.length_append] at h; omega
theorem begins_take {x r : List UInt8} (h : begins x r = true) : r.take x.length = x := by simpa [begins] using h
theorem nxt_sgn {l : List UInt8} {a b : Nat} (hb : b = a + skp false (l.drop a)) (hr : l.drop b ≠ []) (hL : isL (byteAt (l.drop b) 0) = false) (hD : isD (byteAt (l.drop b) 0) = false) :
    (∀ (k : Nat) (x : List UInt8), signsL[k]? = some x → begins x (l.drop b) = true → (∀ (i : Nat) (y : List UInt8), i < k → signsL[i]? = some y → begins y (l.drop b) = false) → nxt l a = (⟨4, str x, 0, (b : Int)⟩, (b : Int) + (x.length : Int), 0)) ∧
      ((∀ (i : Nat) (y : List UInt8), signsL[i]? = some y → begins y (l.drop b) = false) → nxt l a = (zt, (b : Int), 10)) := by
  have hp : pc (l.drop b) = pcSign (l.drop b) := by unfold pc; rw [if_neg hr, if_neg (by rw [hL]; simp), if_neg (by rw [hD]; simp)]
  refine ⟨fun k x hk hx hno => ?_, fun hno => ?_⟩
  · rw [sign_hit hk hx hno] at hp
    rw [nxt_good hb hp, if_neg (by decide), begins_take hx]
  · rw [sign_none hno] at hp
    exact nxt_bad hb hp (by decide)

set_option maxRecDepth 100000 in
set_option maxHeartbeats 8000000 in
theorem rnext_sgn (l : List UInt8) (a b : Nat) (ha : a ≤ l.length) (hs : l.length ≤ 1000000) (hb : b = a + skp false (l.drop a)) (hr : l.drop b ≠ []) (hL : isL (byteAt (l.drop b) 0) = false) (hD : isD (byteAt (l.drop b) 0) = false) (w : World) :
    Calls Try.prog 20 #[.string (str l), .int .i64 (a : Int)] w fun e w' => GotIs (nxt l a) e ∧ Below w.heap.size w w' := by
  have hz : (str l).size = l.length := str_size l
  have HBG := keep (begin_any l a ha hs)
  rw [← hb] at HBG
  have hlt : b < l.length := by
    rcases Nat.lt_or_ge b l.length with h | h
    · exact h
    · exact absurd (List.drop_eq_nil_of_le h) hr
  have hg := get_bt (str l)
  have hg0 : bt (str l) b = byteAt (l.drop b) 0 := by rw [bt_at l hlt, at_drop]; rfl
  have HN := keep (nxt_sgn hb hr hL hD)
  have HD0 := keep (rdigit_any (byteAt (l.drop b) 0))
  have HL0 := keep (rletter_any (byteAt (l.drop b) 0))
  rw [hD] at HD0
  rw [hL] at HL0
  have HRL : Keep ((l.drop b).length = l.length - b) := ⟨List.length_drop⟩
  have HX0 := keep (fun n (h : b + n ≤ l.length) => show (str l).extract b (b + n) = str ((l.drop b).take n) by rw [extract_is, str_data]; congr 2; omega)
  have HZ := keep hz
  generalize l.drop b = r at *
  generalize nxt l a = X at *
  generalize byteAt r 0 = c at *
  generalize str l = s at *
  have hbs : ((b : Int) == (s.size : Int)) = false := by simp; omega
  have hbI : (b : Int) < (s.size : Int) := by omega
  have hb0 : (0 : Int) ≤ (b : Int) := by omega
  have haI : (a : Int) ≤ (s.size : Int) := by omega
  have ha0 : (0 : Int) ≤ (a : Int) := by omega
  have hsI : (s.size : Int) ≤ 1000000 := by omega
  have HB0 := keep (BoxL.new w [.int .i64 0, .string ⟨#[]⟩, .int .i64 0, .int .i64 0, .int .i64 0, .int .i64 0] 53)
  clear hz hlt hb hr ha hs hL hD
  go_enter Try.func20, Try.ntmps20
  go_wp2_with (first
    | (go_at_call 31; refine (HBG.out _).mono ?_; rintro e w' ⟨rfl, rfl⟩)
    | (go_at_call 32; refine (HD0.out _).mono ?_; rintro e w' ⟨rfl, rfl⟩)
    | (go_at_call 34; refine (HL0.out _).mono ?_; rintro e w' ⟨rfl, rfl⟩))
  refine (signs_any _).mono ?_
  rintro e w1 ⟨v, rfl, hrow, hb⟩
  have HB := keep (((Below.refl _ w).alloc (Nat.le_refl _) (.cells #[.int .i64 0, .string ⟨#[]⟩, .int .i64 0, .int .i64 0, .int .i64 0, .int .i64 0] 53)).trans (hb.mono (by simp)))
  have HX := keep (HB0.out.to hb)
  have HROW := keep hrow
  obtain ⟨o, cap, rfl, hform⟩ := hrow.form
  have HFORM := keep hform
  have hlen : signsL.length = 25 := rfl
  rw [hlen] at HROW ⊢
  clear hrow hb hform hlen HD0 HL0 HBG HB0
  go_wp2_with fail
  go_loopw [9] (fun iv wr => ∃ k : Nat, iv = .int .i64 (k : Int) ∧ k ≤ 25 ∧ Keep (Below w1.heap.size w1 wr ∧ ∀ (i : Nat) (y : List UInt8), i < k → signsL[i]? = some y → begins y r = false)) (fun iv _ => 25 - (intOf iv).toNat)
  case atStart => exact ⟨0, rfl, Nat.zero_le _, ⟨Below.refl _ _, fun i y h => by omega⟩⟩
  case round =>
    obtain ⟨k, rfl, hk, HK⟩ := hrel
    have HB' := keep (HB.out.trans (HK.out.1.mono HB.out.size))
    have HX' := keep (HX.out.to HK.out.1)
    by_cases hlt : k < 25
    · obtain ⟨x, hx⟩ := get_of_lt (l := signsL) (i := k) hlt
      obtain ⟨bb, off, rfl, hbb, hc⟩ := HFORM.out k x hx
      have hcell : wr.cell? ⟨bb, off + k, none⟩ = some (.string (str x)) := hc wr HK.out.1
      have hcellD : wr.drew.cell? ⟨bb, off + k, none⟩ = some (.string (str x)) := hc wr.drew (HK.out.1.drew)
      have hzx : (str x).size = x.length := str_size x
      have hxl := signs_len x (List.mem_of_getElem? hx)
      have hsx := toList_str x
      have HHIT := keep (fun h => HN.out.1 k x hx h HK.out.2)
      have HNEXT : Keep (begins x r = false → ∀ (i : Nat) (y : List UInt8), i < k + 1 → signsL[i]? = some y → begins y r = false) := ⟨fun h i y hi hy => by
        by_cases e : i = k
        · subst e; rw [hx] at hy; obtain rfl := Option.some.inj hy; exact h
        · exact HK.out.2 i y (by omega) hy⟩
      have HSH := keep (begins_short (x := x) (r := r))
      have hdef : (r.take x.length == x) = begins x r := rfl
      obtain ⟨z, hzz⟩ : ∃ z, z = x.length := ⟨_, rfl⟩
      have hsy := toList_str (r.take x.length)
      rw [← hzz] at hzx hxl HHIT HSH hdef hsy
      have HX1 := keep (HX0.out z)
      have hzI : (z : Int) ≤ 2 := by omega
      have hz1 : (1 : Int) ≤ (z : Int) := by omega
      have hkI : (k : Int) < 25 := by omega
      have hwr : IntKind.i64.wrap ((b : Int) + (z : Int)) = (b : Int) + (z : Int) := IntWalk.i64_in _ ⟨by omega, by omega⟩
      have hnat : ((b : Int) + (z : Int)).toNat = b + z := by omega
      have hbz : (b : Int) ≤ (b : Int) + (z : Int) := by omega
      obtain ⟨sx, hsx2⟩ : ∃ sx, str x = sx := ⟨_, rfl⟩
      rw [hsx2] at hcell hcellD hzx hsx
      simp only [hsx2] at HHIT
      generalize hq : begins x r = q at *
      have HCW : Keep (∀ W, Below wr.heap.size wr W → W.cell? ⟨bb, off + k, none⟩ = some (.string sx)) := ⟨fun W hW => by
        have h1 : W.cell? ⟨bb, off + k, none⟩ = some (.string (str x)) := hc W (HK.out.1.trans (hW.mono HK.out.1.size))
        rw [hsx2] at h1
        exact h1⟩
      by_cases hfit : (b : Int) + (z : Int) ≤ (s.size : Int)
      · have hx1 := HX1.out (by have := HZ.out; omega)
        generalize str (r.take z) = sy at *
        clear hx hc hxl hzz hcellD
        cases q with
        | true =>
          have HE := keep (HHIT.out rfl)
          clear HHIT HNEXT HSH hq
          go_wp2_with fail
          go_quiet (fail)
          have hbd := below_draws wr.heap.size wr nq
          have HX2 := keep (HX'.out.to hbd)
          have HB2 := keep (HB'.out.trans (hbd.mono HB'.out.size))
          have hcell2 := HCW.out _ hbd
          clear hbd hcell
          generalize wr.drewN nq = W2 at *
          have hx0 := HX2.out.row 0 _ rfl
          have hx1' := HX2.out.row 1 _ rfl
          have hx2 := HX2.out.row 2 _ rfl
          have hx3 := HX2.out.row 3 _ rfl
          have hx4 := HX2.out.row 4 _ rfl
          have hx5 := HX2.out.row 5 _ rfl
          have hxf := HX2.out.free
          have hxl := HX2.out.lt
          obtain ⟨hs0, hs1, hs2, hs3, hs4, hs5⟩ := HX2.out.put6
          go_wp2_with fail
          refine bodyPost_ret (v := .agg #[.int .i64 4, .string sx, .int .i64 0, .int .i64 (b : Int), .int .i64 ((b : Int) + (z : Int)), .int .i64 0]) ?_ rfl ⟨by rw [HE.out]; rfl, below_put6 HB2.out (Nat.le_refl _) _ _ _ _ _ _⟩
          simp [results, Try.results20, go_sem, hs0, hs1, hs2, hs3, hs4, hs5]
        | false =>
          have HNX := keep (HNEXT.out rfl)
          clear HHIT HNEXT HSH hq
          go_wp2_with fail
          go_quiet (fail)
          have HBD := keep (below_draws wr.heap.size wr nq)
          generalize wr.drewN nq = W2 at *
          go_wp2_with fail
          go_roundw
          case rel => exact ⟨k + 1, by go_num, by omega, ⟨HK.out.1.trans (HBD.out.mono HK.out.1.size), HNX.out⟩⟩
          case measure => simp [intOf]; omega
      · have hqf : q = false := HSH.out (by have := HZ.out; have := HRL.out; omega)
        subst hqf
        have HNX := keep (HNEXT.out rfl)
        have hfd : decide ((b : Int) + (z : Int) ≤ (s.size : Int)) = false := decide_eq_false hfit
        clear hx hc hxl hzz hcellD HHIT HNEXT HSH hq
        go_wp2_with fail
        go_quiet (fail)
        have HBD := keep (below_draws wr.heap.size wr nq)
        generalize wr.drewN nq = W2 at *
        go_wp2_with fail
        go_roundw
        case rel => exact ⟨k + 1, by go_num, by omega, ⟨HK.out.1.trans (HBD.out.mono HK.out.1.size), HNX.out⟩⟩
        case measure => simp [intOf]; omega
    · have hkn : k = 25 := by omega
      subst hkn
      have HE := keep (HN.out.2 (fun i y hy => HK.out.2 i y (List.getElem?_eq_some_iff.1 hy).1 hy))
      have hx0 := HX'.out.row 0 _ rfl
      have hx1' := HX'.out.row 1 _ rfl
      have hx2 := HX'.out.row 2 _ rfl
      have hx3 := HX'.out.row 3 _ rfl
      have hx4 := HX'.out.row 4 _ rfl
      have hx5 := HX'.out.row 5 _ rfl
      have hxf := HX'.out.free
      have hxl := HX'.out.lt
      obtain ⟨hs0, hs1, hs2, hs3, hs4, hs5⟩ := HX'.out.put6
      clear hlt
      go_wp2_with fail
      refine bodyPost_ret (v := .agg #[.int .i64 0, .string ⟨#[]⟩, .int .i64 0, .int .i64 0, .int .i64 (b : Int), .int .i64 10]) ?_ rfl ⟨by rw [HE.out]; rfl, below_put6 HB'.out (Nat.le_refl _) _ _ _ _ _ _⟩
      simp [results, Try.results20, go_sem, hs0, hs1, hs2, hs3, hs4, hs5]

set_option maxRecDepth 100000 in
set_option maxHeartbeats 1000000 in
theorem rnext_low (s : ByteArray) (a : Int) (h0 : a < 0) (w : World) : Calls Try.prog 20 #[.string s, .int .i64 a] w fun e w' => GotIs (zt, 0, 1) e ∧ Below w.heap.size w w' := by
  go_enter Try.func20, Try.ntmps20
  go_wp2
  go_returns
  exact ⟨rfl, (Below.refl _ _).alloc (Nat.le_refl _) _⟩
set_option maxRecDepth 100000 in
set_option maxHeartbeats 1000000 in
theorem rnext_high (s : ByteArray) (a : Int) (h0 : ¬ a < 0) (h : (s.size : Int) < a) (w : World) : Calls Try.prog 20 #[.string s, .int .i64 a] w fun e w' => GotIs (zt, 0, 1) e ∧ Below w.heap.size w w' := by
  go_enter Try.func20, Try.ntmps20
  go_wp2
  go_returns
  exact ⟨rfl, (Below.refl _ _).alloc (Nat.le_refl _) _⟩

/-- The document's Next, at any place. -/
theorem rnext_any (l : List UInt8) (a : Int) (hs : l.length ≤ 1000000) (w : World) : Calls Try.prog 20 #[.string (str l), .int .i64 a] w fun e w' => GotIs (nxtI l a) e ∧ Below w.heap.size w w' := by
  have hz : (str l).size = l.length := str_size l
  by_cases h0 : a < 0
  · rw [nxtI_out (.inl h0)]
    exact rnext_low (str l) a h0 w
  · by_cases h1 : (l.length : Int) < a
    · rw [nxtI_out (.inr h1)]
      exact rnext_high (str l) a (by omega) (by omega) w
    · obtain ⟨k, rfl⟩ := Int.eq_ofNat_of_zero_le (show 0 ≤ a by omega)
      rw [nxtI_in (by omega)]
      by_cases hr : l.drop (k + skp false (l.drop k)) = []
      · exact rnext_end l k _ (by omega) hs rfl hr w
      · cases hL : isL (byteAt (l.drop (k + skp false (l.drop k))) 0) with
        | true => exact rnext_let l k _ (by omega) hs rfl hr hL w
        | false =>
          cases hD : isD (byteAt (l.drop (k + skp false (l.drop k))) 0) with
          | true => exact rnext_dig l k _ (by omega) hs rfl hr hD w
          | false => exact rnext_sgn l k _ (by omega) hs rfl hr hL hD w
end Go.Proofs.Ytglmcjplglgnlaa
