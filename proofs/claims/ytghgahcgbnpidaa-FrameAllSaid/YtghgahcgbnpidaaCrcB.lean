/-
  More, Sum: the program's, by its table.
-/
import Derived.Test.YtghgahcgbnpidaaCrcA
namespace Go.Proofs.Ytghgahcgbnpidaa
open Go.RowKit

def tabI (i : Nat) : Int := ((stpN 8 i : Nat) : Int)
theorem tab_cell (W : World) (B : Nat) (h : ∃ t fr, W.heap[B]? = some (.cells tabV t fr)) (i : Nat) (hi : i < 256) : W.cell? ⟨B, i, none⟩ = some (.int .u32 (tabI i)) := by
  obtain ⟨t, fr, h⟩ := h
  rw [cell_of_row W B i _ _ _ h]
  unfold tabV tabI
  simp [hi]

/-- One round by the table, over Int. -/
theorem round_i {c x : Int} (hc0 : 0 ≤ c) (hc1 : c < 4294967296) (hx0 : 0 ≤ x) (hx1 : x ≤ 255) :
    ∃ m : Nat, m < 256 ∧ bits .xor .u8 (c % 256) x = (m : Int) ∧ bits .xor .u32 (c / 256) (tabI m) = ((stpN 8 (c.toNat ^^^ x.toNat) : Nat) : Int) ∧ stpN 8 (c.toNat ^^^ x.toNat) < 4294967296 := by
  obtain ⟨a, rfl⟩ := Int.eq_ofNat_of_zero_le hc0
  obtain ⟨b, rfl⟩ := Int.eq_ofNat_of_zero_le hx0
  have e1 := xor_u8 (a % 256) b (by omega) (by omega)
  have hm : a % 256 ^^^ b < 256 := Nat.xor_lt_two_pow (n := 8) (by omega) (by omega)
  have e2 := xor_u32 (a / 256) (stpN 8 (a % 256 ^^^ b)) (by omega) (tab_lt _ hm)
  refine ⟨a % 256 ^^^ b, hm, e1, ?_, ?_⟩
  · rw [Int.toNat_natCast, Int.toNat_natCast, round8]; exact e2
  · exact stpN_lt 8 (Nat.xor_lt_two_pow (n := 32) (by omega) (by omega))

theorem tabV_size : tabV.size = 256 := by unfold tabV; simp
theorem tabV_info : (Try.prog.info? 75).map (·.size) = some tabV.size := by rw [tabV_size]; exact tab_info
theorem tabV_old : zeros.size = tabV.size := by rw [tabV_size]; unfold zeros; exact Array.size_replicate
theorem tabV_one : tabV.all (·.oneCell') = true := by unfold tabV; exact all_oneCell_toArray (by intro v hv; rw [List.mem_map] at hv; obtain ⟨a, _, rfl⟩ := hv; rfl)

/-- The register behind the first k bytes. -/
def regI (c : Int) (s : ByteArray) (k : Nat) : Int := ((psh (c.toNat ^^^ ones) (s.data.toList.take k) : Nat) : Int)
theorem regI_bd {c : Int} (h0 : 0 ≤ c) (h1 : c < 4294967296) (s : ByteArray) (k : Nat) : 0 ≤ regI c s k ∧ regI c s k < 4294967296 := by
  unfold regI
  have := psh_lt (xor_ones_lt (c := c.toNat) (by omega)) (s.data.toList.take k)
  omega
theorem regI_zero {c : Int} (h0 : 0 ≤ c) (h1 : c < 4294967296) (s : ByteArray) : bits .xor .u32 c 4294967295 = regI c s 0 := by
  obtain ⟨a, rfl⟩ := Int.eq_ofNat_of_zero_le h0
  exact xor_u32 a 4294967295 (by omega) (by omega)
theorem regI_last {c : Int} (h0 : 0 ≤ c) (h1 : c < 4294967296) (s : ByteArray) {k : Nat} (hk : s.size ≤ k) : bits .xor .u32 (regI c s k) 4294967295 = ((moreN c.toNat s.data.toList : Nat) : Int) := by
  unfold regI moreN
  rw [List.take_of_length_le (by rw [← size_list]; exact hk)]
  exact xor_u32 _ 4294967295 (psh_lt (xor_ones_lt (by omega)) _) (by omega)
theorem regI_next (c : Int) (s : ByteArray) {k : Nat} (hk : k < s.size) : ((stpN 8 ((regI c s k).toNat ^^^ (bt s k).toNat) : Nat) : Int) = regI c s (k + 1) := by
  unfold regI
  have h' : k < s.data.toList.length := by rw [← size_list]; exact hk
  rw [List.take_succ_eq_append_getElem h', psh_append, Int.toNat_natCast]
  have e : (bt s k).toNat = (s.data.toList[k]'h').toNat := by
    rw [← get_bt s k hk, Int.toNat_natCast]; rfl
  rw [e]; rfl

set_option maxHeartbeats 1000000 in
theorem more_any (c : Int) (s : ByteArray) (w : World) (h0 : 0 ≤ c) (h1 : c < 4294967296) (hs : s.size ≤ 1000000) :
    Calls Try.prog 36 #[.int .u32 c, .string s] w fun e w' => e = .returned (.int .u32 ((moreN c.toNat s.data.toList : Nat) : Int)) ∧ Below w.heap.size w w' := by
  have hz : ∀ W, (zeroValue 75).run Try.prog W = .ok (.agg zeros) W := fun _ => by kernel_rfl
  have HC1 := keep h1
  have HS := keep hs
  have HA := keep steps_any
  have HI := keep tabV_info
  have HO := keep tabV_old
  have H1 := keep tabV_one
  have HT := keep tab_cell
  clear h1 hs
  generalize tabV = tv at *
  go_enter Try.func36, Try.ntmps36
  go_wp2_with fail
  refine (HA.out w).mono ?_
  rintro e w1 ⟨rfl, hb⟩
  have HB := keep hb
  clear hb
  go_upto_region 2 with (refine wpList_store_row rfl 75 _ _ rfl w1.heap.size tv rfl rfl 75 zeros (heap_alloc_new _ _) HI.out HO.out H1.out ?_)
  obtain ⟨w2, ew2⟩ : ∃ w2, w2 = (w1.alloc (.cells zeros 75)).setRow w1.heap.size tv := ⟨_, rfl⟩
  have HB2 : Keep (Below w.heap.size w w2) := keep (by rw [ew2]; exact setRow_below (HB.out.alloc HB.out.size _) HB.out.size tv)
  have hcell := HT.out w2 w1.heap.size ⟨_, _, by rw [ew2]; exact setRow_heap _ _ _ _ _ _ (heap_alloc_new _ _)⟩
  rw [← ew2]
  clear ew2
  go_wp2_with fail
  have E0 := keep (regI_zero h0 HC1.out s)
  go_loop [6, 13] (fun rv iv => ∃ (k : Nat) (r : Int), Keep (k ≤ s.size ∧ r = regI c s k) ∧ rv = .int .u32 r ∧ iv = .int .i64 k) (fun _ iv => s.size - (intOf iv).toNat)
  case atStart => exact ⟨0, _, keep ⟨Nat.zero_le _, E0.out⟩, rfl, rfl⟩
  case round =>
    obtain ⟨k, r, HR, rfl, rfl⟩ := hrel
    have hk := HR.out.1
    by_cases hlt : k < s.size
    · have hb := get_bt s
      have hbd := bt_bd s k
      have hr := regI_bd h0 HC1.out s k
      rw [← HR.out.2] at hr
      obtain ⟨m, hm, e1, e2, e3⟩ := round_i hr.1 hr.2 hbd.1 hbd.2
      have hc := hcell m hm
      have hm0 : (0 : Int) ≤ (m : Int) := by omega
      have hm1 : (m : Int) < 256 := by omega
      have hr0 := hr.1
      have E2 := keep e2
      have HSZ : Keep (k < s.size) := keep hlt
      clear hcell hm e2 e3 hr hk
      have hk1 : (k : Int) ≤ 1000000 := by have := HS.out; omega
      go_wp2_with fail
      go_round
      case rel => exact ⟨k + 1, _, keep ⟨HSZ.out, rfl⟩, val_int (by rw [E2.out, HR.out.2]; exact regI_next c s HSZ.out), by go_num⟩
      case measure => have := HSZ.out; simp [intOf]; omega
    · have hend : s.size = k := by omega
      have HE := keep (regI_last h0 HC1.out s (k := k) (by omega))
      have hn : decide ((k : Int) < (s.size : Int)) = false := by simp; omega
      have HN := keep hn
      clear hend hk hcell
      go_wp2_with fail
      go_ret
      exact ⟨ret_int (by rw [HR.out.2]; exact HE.out), HB2.out⟩

set_option maxHeartbeats 400000 in
theorem sum_any (s : ByteArray) (w : World) (hs : s.size ≤ 1000000) :
    Calls Try.prog 33 #[.string s] w fun e w' => e = .returned (.int .u32 ((sumN s.data.toList : Nat) : Int)) ∧ Below w.heap.size w w' := by
  have HM := keep (more_any 0 s w (by omega) (by omega) hs)
  clear hs
  go_enter Try.func33, Try.ntmps33
  go_wp2_with fail
  refine HM.out.mono ?_
  rintro e w1 ⟨rfl, hb⟩
  have HB := keep hb
  clear hb
  go_wp2_with fail
  go_ret
  exact ⟨rfl, HB.out⟩
end Go.Proofs.Ytghgahcgbnpidaa
