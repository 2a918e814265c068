/-
  The document's register, sum and more.
-/
import Derived.Test.YtghgahcgbnpidaaCrcB
namespace Go.Proofs.Ytghgahcgbnpidaa
open Go.RowKit

def pshI (c : Int) (s : ByteArray) (k : Nat) : Int := ((psh c.toNat (s.data.toList.take k) : Nat) : Int)
theorem pshI_bd {c : Int} (h0 : 0 ≤ c) (h1 : c < 4294967296) (s : ByteArray) (k : Nat) : 0 ≤ pshI c s k ∧ pshI c s k < 4294967296 := by
  unfold pshI
  have := psh_lt (c := c.toNat) (by omega) (s.data.toList.take k)
  omega
theorem pshI_zero {c : Int} (h0 : 0 ≤ c) (s : ByteArray) : c = pshI c s 0 := by
  show c = ((c.toNat : Nat) : Int)
  omega
theorem pshI_last (c : Int) (s : ByteArray) {k : Nat} (hk : s.size ≤ k) : pshI c s k = ((psh c.toNat s.data.toList : Nat) : Int) := by
  unfold pshI; rw [List.take_of_length_le (by rw [← size_list]; exact hk)]
/-- The byte put in, and k steps. -/
def midI (r b : Int) (k : Nat) : Int := ((stpN k (r.toNat ^^^ b.toNat) : Nat) : Int)
theorem midI_bd {r b : Int} (h1 : r < 4294967296) (h3 : b ≤ 255) (k : Nat) : 0 ≤ midI r b k ∧ midI r b k < 4294967296 := by
  unfold midI
  have := stpN_lt k (Nat.xor_lt_two_pow (n := 32) (x := r.toNat) (y := b.toNat) (by omega) (by omega))
  omega
theorem midI_zero {r b : Int} (h0 : 0 ≤ r) (h1 : r < 4294967296) (h2 : 0 ≤ b) (h3 : b ≤ 255) : bits .xor .u32 r b = midI r b 0 := by
  obtain ⟨x, rfl⟩ := Int.eq_ofNat_of_zero_le h0
  obtain ⟨y, rfl⟩ := Int.eq_ofNat_of_zero_le h2
  exact xor_u32 x y (by omega) (by omega)
theorem midI_next (r b : Int) (k : Nat) : stpI (midI r b k) = midI r b (k + 1) := by
  unfold midI stpI; rw [Int.toNat_natCast, stpN_succ]
theorem pshI_next (c : Int) (s : ByteArray) {k : Nat} (hk : k < s.size) : midI (pshI c s k) (bt s k) 8 = pshI c s (k + 1) := by
  unfold midI pshI
  have h' : k < s.data.toList.length := by rw [← size_list]; exact hk
  rw [List.take_succ_eq_append_getElem h', psh_append, Int.toNat_natCast]
  have e : (bt s k).toNat = (s.data.toList[k]'h').toNat := by
    rw [← get_bt s k hk, Int.toNat_natCast]; rfl
  rw [e]; rfl

set_option maxHeartbeats 1000000 in
theorem refPush_any (c : Int) (s : ByteArray) (w : World) (h0 : 0 ≤ c) (h1 : c < 4294967296) (hs : s.size ≤ 1000000) :
    Calls Try.prog 34 #[.int .u32 c, .string s] w fun e w' => e = .returned (.int .u32 ((psh c.toNat s.data.toList : Nat) : Int)) ∧ w = w' := by
  have HC1 := keep h1
  have HS := keep hs
  have E0 := keep (pshI_zero h0 s)
  clear h1 hs
  go_enter Try.func34, Try.ntmps34
  go_wp2_with fail
  go_loop [0, 5] (fun rv iv => ∃ (k : Nat) (r : Int), Keep (k ≤ s.size ∧ r = pshI c s k) ∧ rv = .int .u32 r ∧ iv = .int .i64 k) (fun _ iv => s.size - (intOf iv).toNat)
  case atStart => exact ⟨0, _, keep ⟨Nat.zero_le _, E0.out⟩, rfl, rfl⟩
  case round =>
    obtain ⟨k, r, HR, rfl, rfl⟩ := hrel
    have hk := HR.out.1
    by_cases hlt : k < s.size
    · have hb := get_bt s
      have hbd := bt_bd s k
      have hr := pshI_bd h0 HC1.out s k
      rw [← HR.out.2] at hr
      have M0 := keep (midI_zero hr.1 hr.2 hbd.1 hbd.2)
      have MB := keep (fun j => midI_bd (r := r) (b := bt s k) hr.2 hbd.2 j)
      have hr0 := hr.1
      have HSZ : Keep (k < s.size) := keep hlt
      have hk1 : (k : Int) ≤ 1000000 := by have := HS.out; omega
      clear hr hk
      go_wp2_with fail
      go_loop [0, 6] (fun rv jv => ∃ (j : Nat) (x : Int), Keep (j ≤ 8 ∧ x = midI r (bt s k) j) ∧ rv = .int .u32 x ∧ jv = .int .i64 j) (fun _ jv => 8 - (intOf jv).toNat)
      case atStart => exact ⟨0, _, keep ⟨by omega, M0.out⟩, rfl, rfl⟩
      case round =>
        obtain ⟨j, x, HX, rfl, rfl⟩ := hrel
        by_cases h8 : j < 8
        · have hx := MB.out j
          rw [← HX.out.2] at hx
          have hx0 := hx.1
          have hx1 : x ≤ 4294967295 := by have := hx.2; omega
          have hj8 : (j : Int) < 8 := by omega
          have HJ := keep h8
          by_cases hodd : x % 2 = 1
          · have hE := keep (stp_one hx.1 hx.2 hodd).2
            have ht : (x % 2 == 1) = true := by simp [hodd]
            clear hx h8 hodd
            go_wp2_with fail
            go_round
            case rel => exact ⟨j + 1, _, keep ⟨HJ.out, rfl⟩, val_int (by rw [hE.out, HX.out.2, midI_next]), by go_num⟩
            case measure => have := HJ.out; simp [intOf]; omega
          · have hE := keep (stp_none hx.1 hx.2 hodd).2
            have ht : (x % 2 == 1) = false := by simp [hodd]
            clear hx h8 hodd
            go_wp2_with fail
            go_round
            case rel => exact ⟨j + 1, _, keep ⟨HJ.out, rfl⟩, val_int (by rw [hE.out, HX.out.2, midI_next]), by go_num⟩
            case measure => have := HJ.out; simp [intOf]; omega
        · have hj : j = 8 := by have := HX.out.1; omega
          subst hj
          clear h8
          go_wp2_with fail
          go_round
          case rel => exact ⟨k + 1, _, keep ⟨HSZ.out, rfl⟩, val_int (by rw [HX.out.2, HR.out.2]; exact pshI_next c s HSZ.out), by go_num⟩
          case measure => have := HSZ.out; simp [intOf]; omega
    · have HE := keep (pshI_last c s (k := k) (by omega))
      have hn : decide ((k : Int) < (s.size : Int)) = false := by simp; omega
      have HN := keep hn
      clear hk
      go_wp2_with fail
      go_ret
      exact ⟨ret_int (by rw [HR.out.2]; exact HE.out), rfl⟩

theorem xor_onesI (x : Nat) (h : x < 4294967296) : bits .xor .u32 (x : Int) 4294967295 = ((x ^^^ ones : Nat) : Int) := xor_u32 x 4294967295 h (by omega)

set_option maxHeartbeats 400000 in
theorem refSum_any (s : ByteArray) (w : World) (hs : s.size ≤ 1000000) :
    Calls Try.prog 26 #[.string s] w fun e w' => e = .returned (.int .u32 ((sumN s.data.toList : Nat) : Int)) ∧ w = w' := by
  have HM := keep (refPush_any 4294967295 s w (by omega) (by omega) hs)
  have HE := keep (xor_onesI (psh 4294967295 s.data.toList) (psh_lt (by omega) _))
  clear hs
  go_enter Try.func26, Try.ntmps26
  go_wp2_with fail
  refine HM.out.mono ?_
  rintro e w1 ⟨rfl, rfl⟩
  go_wp2_with fail
  go_ret
  exact ⟨ret_int (by rw [HE.out]; rfl), rfl⟩

end Go.Proofs.Ytghgahcgbnpidaa
