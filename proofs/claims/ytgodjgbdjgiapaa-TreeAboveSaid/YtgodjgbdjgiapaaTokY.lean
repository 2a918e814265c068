/-
  The document's Name.
-/
import Derived.Test.YtgodjgbdjgiapaaTokS
namespace Go.Proofs.Ytgodjgbdjgiapaa
open Go.RowKit Go.Joins

theorem isName_eq (l : List UInt8) : isName l = (isL (byteAt l 0) && (spn isN l == l.length) && decide (l.length ≤ 16) && !isW l) := by
  unfold isName
  by_cases h0 : l = []
  · subst h0; rfl
  · by_cases hL : isL (byteAt l 0) = true
    · have hp : pc l = pcName l := by unfold pc; rw [if_neg h0, if_pos hL]
      rw [hp, hL]
      unfold pcName
      have hle := spn_le isN l
      by_cases h16 : 16 < spn isN l
      · rw [if_pos h16]
        have hd : decide (l.length ≤ 16) = false := decide_eq_false (by omega)
        rw [hd]; simp
      · rw [if_neg h16]
        by_cases he : spn isN l = l.length
        · have hd : decide (l.length ≤ 16) = true := decide_eq_true (by omega)
          rw [he, List.take_length, hd]
          cases hw : isW l <;> simp
        · have hb : (spn isN l == l.length) = false := by simpa using he
          split <;> simp [hb]
    · have hL' : isL (byteAt l 0) = false := by simpa using hL
      have hp : pc l = if isD (byteAt l 0) then pcNum l else pcSign l := by unfold pc; rw [if_neg h0, if_neg hL]
      rw [hp, hL']
      have hk : ∀ x : Int × Nat × Int, (x.1 ≠ 1) → (x.1 == 1 && x.2.1 == l.length) = (false && (spn isN l == l.length) && decide (l.length ≤ 16) && !isW l) := fun x hx => by
        have : (x.1 == 1) = false := by simpa using hx
        rw [this]; rfl
      refine hk _ ?_
      split
      · unfold pcNum; split
        · simp
        · split
          · simp
          · split <;> simp
      · unfold pcSign; split <;> simp
theorem name_no {l : List UInt8} (h : isL (byteAt l 0) = false ∨ spn isN l ≠ l.length ∨ 16 < l.length ∨ isW l = true) : isName l = false := by
  rw [isName_eq]
  rcases h with h | h | h | h
  · rw [h]; rfl
  · rw [show (spn isN l == l.length) = false by simpa using h]; simp
  · rw [show decide (l.length ≤ 16) = false from decide_eq_false (by omega)]; simp
  · rw [h]; simp
theorem name_yes {l : List UInt8} (h1 : isL (byteAt l 0) = true) (h2 : spn isN l = l.length) (h3 : l.length ≤ 16) (h4 : isW l = false) : isName l = true := by
  rw [isName_eq, h1, h2, h4, decide_eq_true h3]; simp

set_option maxHeartbeats 4000000 in
theorem rname_any (l : List UInt8) (hs : l.length ≤ 9223372036854775807) (w : World) : Calls Try.prog 45 #[.string (str l)] w fun e w' => e = .returned (.bool (isName l)) ∧ Below w.heap.size w w' := by
  have hz : (str l).size = l.length := str_size l
  have hg := get_bt (str l)
  have HG : Keep (∀ k, k < (str l).size → bt (str l) k = byteAt l k) := ⟨fun k hk => bt_at l (by omega)⟩
  have HNO := keep (name_no (l := l))
  have HYES := keep (name_yes (l := l))
  have HZ := keep hz
  have HS1 := keep (fun k (b : UInt8) t (h : l.drop k = b :: t) hk hb => spn_step (p := isN) h hk hb)
  have HS2 := keep (fun k (b : UInt8) t (h : l.drop k = b :: t) hk hb => spn_stop (p := isN) h hk hb)
  have HS3 := keep (fun k (h : l.drop k = []) hk => spn_end (p := isN) h hk)
  have HIN := keep (fun v W (h : RowAt SV W.heap.size W v wordsL) => in_any l h)
  have hwd : decide (l ∈ wordsL) = isW l := rfl
  rw [hwd] at HIN
  have hl0 := at_end l (k := l.length) (Nat.le_refl _)
  generalize isName l = R at *
  generalize str l = s at *
  have hsI : (s.size : Int) ≤ 9223372036854775807 := by omega
  have HL0 := keep hl0
  clear hz hs hwd hl0
  go_enter Try.func45, Try.ntmps45
  go_wp2_with fail
  go_loop [3] (fun iv => ∃ k : Nat, iv = .int .i64 (k : Int) ∧ k ≤ s.size ∧ Keep (k = 0 ∨ (isL (byteAt l 0) = true ∧ k + spn isN (l.drop k) = spn isN l))) (fun iv => s.size - (intOf iv).toNat)
  case atStart => exact ⟨0, rfl, Nat.zero_le _, ⟨.inl rfl⟩⟩
  case round =>
    obtain ⟨k, rfl, hk, HK⟩ := hrel
    by_cases hlt : k < s.size
    · have hltI : (k : Int) < (s.size : Int) := by omega
      have hzz := HZ.out
      have hgi : bt s k = byteAt l k := HG.out k hlt
      obtain ⟨y, hy⟩ := get_of_lt (l := l) (i := k) (by omega)
      have hdr : l.drop k = y :: l.drop (k + 1) := by rw [List.drop_eq_getElem_cons (by omega)]; congr 1; exact (List.getElem?_eq_some_iff.1 hy).2
      have hby : byteAt l k = ob y := by unfold byteAt; rw [hy]
      have HDR := keep hdr
      have HLC := keep (rletter_any (byteAt l k))
      have HDC := keep (rdigit_any (byteAt l k))
      have hdef : isN (ob y) = (isL (byteAt l k) || isD (byteAt l k)) := by rw [hby]; rfl
      have hk0 : k + spn isN (l.drop k) = spn isN l := by
        rcases HK.out with rfl | ⟨_, h⟩
        · simp
        · exact h
      have HK0 := keep hk0
      have HBY := keep hby
      generalize hp : isL (byteAt l k) = p at *
      generalize hq : isD (byteAt l k) = q at *
      have hgi2 := hgi
      cases p with
      | true =>
        have HNX : Keep (k + 1 = 0 ∨ (isL (byteAt l 0) = true ∧ k + 1 + spn isN (l.drop (k + 1)) = spn isN l)) := ⟨.inr ⟨by
          rcases HK.out with rfl | ⟨h, _⟩
          · exact hp
          · exact h, HS1.out _ _ _ HDR.out HK0.out (by rw [hdef]; rfl)⟩⟩
        clear hy hdr hzz hq hp hby hdef hk0 hgi2 HK
        go_wp2_with (first
          | (go_at_call 50; refine (HLC.out _).mono ?_; rintro e w' ⟨rfl, rfl⟩)
          | (go_at_call 51; refine (HDC.out _).mono ?_; rintro e w' ⟨rfl, rfl⟩))
        go_round
        case rel => exact ⟨k + 1, by go_num, by omega, HNX⟩
        case measure => simp [intOf]; omega
      | false =>
        by_cases hkz : k = 0
        · subst hkz
          have HE := keep (HNO.out (.inl hp))
          clear hy hdr hzz hq hp hby hdef hk0 hgi2 HK
          go_wp2_with (first
            | (go_at_call 50; refine (HLC.out _).mono ?_; rintro e w' ⟨rfl, rfl⟩)
            | (go_at_call 51; refine (HDC.out _).mono ?_; rintro e w' ⟨rfl, rfl⟩))
          go_ret
          exact ⟨by rw [HE.out]; rfl, Below.refl _ _⟩
        · have hkb : ((k : Int) == 0) = false := by simp; omega
          cases q with
          | true =>
            have HNX : Keep (k + 1 = 0 ∨ (isL (byteAt l 0) = true ∧ k + 1 + spn isN (l.drop (k + 1)) = spn isN l)) := ⟨.inr ⟨by
              rcases HK.out with h | ⟨h, _⟩
              · exact absurd h hkz
              · exact h, HS1.out _ _ _ HDR.out HK0.out (by rw [hdef]; rfl)⟩⟩
            clear hy hdr hzz hq hp hby hdef hk0 hgi2 HK hkz
            go_wp2_with (first
              | (go_at_call 50; refine (HLC.out _).mono ?_; rintro e w' ⟨rfl, rfl⟩)
              | (go_at_call 51; refine (HDC.out _).mono ?_; rintro e w' ⟨rfl, rfl⟩))
            go_round
            case rel => exact ⟨k + 1, by go_num, by omega, HNX⟩
            case measure => simp [intOf]; omega
          | false =>
            have hst := HS2.out _ _ _ HDR.out HK0.out (by rw [hdef]; rfl)
            have HE := keep (HNO.out (.inr (.inl (by omega))))
            clear hy hdr hzz hq hp hby hdef hk0 hgi2 HK hkz hst
            go_wp2_with (first
              | (go_at_call 50; refine (HLC.out _).mono ?_; rintro e w' ⟨rfl, rfl⟩)
              | (go_at_call 51; refine (HDC.out _).mono ?_; rintro e w' ⟨rfl, rfl⟩))
            go_ret
            exact ⟨by rw [HE.out]; rfl, Below.refl _ _⟩
    · have hke : k = s.size := by omega
      have hzz := HZ.out
      by_cases h0 : s.size = 0
      · have HE : Keep (R = false) := ⟨HNO.out (.inl (by have := HL0.out; rw [show l.length = 0 by omega] at this; rw [this]; decide))⟩
        have hk0 : (k : Int) = 0 := by omega
        have hs0 : (s.size : Int) < 1 := by omega
        have hsz : ¬ (k : Int) < (s.size : Int) := by omega
        clear hlt hke hzz HK h0
        go_wp2_with fail
        go_ret
        exact ⟨by rw [HE.out]; rfl, Below.refl _ _⟩
      · have hconf : isL (byteAt l 0) = true ∧ spn isN l = l.length := by
          rcases HK.out with h | ⟨h, h2⟩
          · omega
          · have := HS3.out k (List.drop_eq_nil_of_le (by omega)) h2
            exact ⟨h, by omega⟩
        have hsz : ¬ (k : Int) < (s.size : Int) := by omega
        have hs0 : (1 : Int) ≤ (s.size : Int) := by omega
        by_cases h16 : (16 : Int) < (s.size : Int)
        · have HE := keep (HNO.out (.inr (.inr (.inl (by omega)))))
          have h16' : ¬ (s.size : Int) ≤ 16 := by omega
          clear hlt hke hzz HK h0 hconf
          go_wp2_with fail
          go_ret
          exact ⟨by rw [HE.out]; rfl, Below.refl _ _⟩
        · have h16' : (s.size : Int) ≤ 16 := by omega
          have HE : Keep (R = !isW l) := ⟨by
            cases hw : isW l with
            | true => exact HNO.out (.inr (.inr (.inr hw)))
            | false => exact HYES.out hconf.1 hconf.2 (by omega) hw⟩
          generalize isW l = q at *
          clear hlt hke hzz HK h0 hconf h16
          go_wp2_with fail
          refine (words_any _).mono ?_
          rintro e w1 ⟨v, rfl, hrow, hb⟩
          have HROW := keep hrow
          have HB := keep hb
          clear hrow hb
          go_wp2_with fail
          refine (HIN.out _ _ HROW.out).mono ?_
          rintro e w' ⟨rfl, rfl⟩
          go_wp2_with fail
          go_ret
          exact ⟨by rw [HE.out]; rfl, HB.out⟩
end Go.Proofs.Ytgodjgbdjgiapaa
