/-
  The program's step, and the table that it makes of steps.
-/
import Derived.Test.YtghgahcgbnpidaaRows
import Derived.Test.YtghgahcgbnpidaaCrcM
import Derived.Laws.Rows
import Derived.Deep.MidRow
import Derived.Deep.Cut
namespace Go.Proofs.Ytghgahcgbnpidaa
open Go.RowKit

def stpI (c : Int) : Int := ((stp c.toNat : Nat) : Int)

theorem stp_one {c : Int} (h0 : 0 ≤ c) (h1 : c < 4294967296) (h : c % 2 = 1) : bits .and .u32 c 1 = 1 ∧ bits .xor .u32 (c / 2) 3988292384 = stpI c := by
  obtain ⟨a, rfl⟩ := Int.eq_ofNat_of_zero_le h0
  have e1 := and_one_u32 a (by omega)
  have e2 := xor_u32 (a / 2) 3988292384 (by omega) (by omega)
  refine ⟨by rw [e1]; omega, ?_⟩
  unfold stpI stp
  rw [Int.toNat_natCast, if_pos (by omega)]
  exact e2
theorem stp_none {c : Int} (h0 : 0 ≤ c) (h1 : c < 4294967296) (h : ¬ c % 2 = 1) : bits .and .u32 c 1 = 0 ∧ c / 2 = stpI c := by
  obtain ⟨a, rfl⟩ := Int.eq_ofNat_of_zero_le h0
  have e1 := and_one_u32 a (by omega)
  refine ⟨by rw [e1]; omega, ?_⟩
  unfold stpI stp
  rw [Int.toNat_natCast, if_neg (by omega)]
  omega

theorem step_any (c : Int) (w : World) (h0 : 0 ≤ c) (h1 : c < 4294967296) :
    Calls Try.prog 39 #[.int .u32 c] w fun e w' => e = .returned (.int .u32 (stpI c)) ∧ w = w' := by
  by_cases h : c % 2 = 1
  · obtain ⟨e1, e2⟩ := stp_one h0 h1 h
    have E2 := keep e2
    clear e2 h
    go_enter Try.func39, Try.ntmps39
    go_wp2
    go_ret
    exact ⟨ret_int E2.out, rfl⟩
  · obtain ⟨e1, e2⟩ := stp_none h0 h1 h
    have E2 := keep e2
    clear e2 h
    go_enter Try.func39, Try.ntmps39
    go_wp2
    go_ret
    exact ⟨ret_int E2.out, rfl⟩

def zeros : Array Value := Array.replicate 256 (.int .u32 0)
def tabV : Array Value := ((List.range 256).map fun b => Value.int .u32 ((stpN 8 b : Nat) : Int)).toArray

/-- The 256 cells of a table. -/
structure Tab (B : Nat) (ds : List Int) (w : World) : Prop where
  len : ds.length = 256
  row : w.heap[B]? = some (.cells (ds.map (Value.int .u32)).toArray 75 (0, 0))

theorem Tab.cell {B : Nat} {ds : List Int} {w : World} (h : Tab B ds w) {i : Nat} (hi : i < 256) : w.cell? ⟨B, i, none⟩ = some (.int .u32 (ds.getD i 0)) := by
  rw [cell_of_row w B i _ _ _ h.row]
  simp [List.getD, h.len, hi]
theorem Tab.free {B : Nat} {ds : List Int} {w : World} (h : Tab B ds w) (i : Nat) : w.frozen? ⟨B, i, none⟩ = false := frozen_of_row w B i _ _ h.row
theorem Tab.set {B : Nat} {ds : List Int} {w : World} (h : Tab B ds w) (i : Nat) (v : Int) : Tab B (ds.set i v) (w.setCell ⟨B, i, none⟩ (.int .u32 v)) :=
  ⟨by simp [h.len], by rw [heap_setCell_same w B i _ _ _ h.row]; simp⟩
set_option maxRecDepth 4000 in
theorem zeros_list : zeros = ((List.replicate 256 (0 : Int)).map (Value.int .u32)).toArray := by unfold zeros; rw [List.map_replicate, List.toArray_replicate]
theorem Tab.new (w : World) (t : TypeId) (ht : t = 75) : Tab w.heap.size (List.replicate 256 0) (w.alloc (.cells zeros t)) :=
  ⟨List.length_replicate, by rw [heap_alloc_new, ← zeros_list, ht]⟩

/-- What is in the table at bit 2 ^ (7 - j), ahead of place b. -/
def Filled (j b : Nat) (ds : List Int) : Prop := ∀ i, i < 256 → (i % 2 ^ (8 - j) = 0 ∨ (i % 2 ^ (7 - j) = 0 ∧ i < b)) → ds.getD i 0 = ((stpN 8 i : Nat) : Int)

theorem tab_lt (i : Nat) (h : i < 256) : stpN 8 i < 4294967296 := stpN_lt 8 (by omega)
theorem tab_split : ∀ j, j < 8 → ∀ i, i < 256 → i % 2 ^ (7 - j) = 0 → i % 2 ^ (8 - j) ≠ 0 → stpN 8 i = stpN 8 (i - 2 ^ (7 - j)) ^^^ stpN (j + 1) 1 := by decide +kernel

theorem Filled.zero : Filled 0 0 (List.replicate 256 0) := by
  intro i hi h
  have : i = 0 := by simp at h; omega
  subst this
  rfl

/-- One round within a bit. -/
theorem Filled.step {j p P : Nat} {ds : List Int} (hj : j < 8) (hP : P = 2 ^ (7 - j)) (hl : ds.length = 256) (h : Filled j (p + P) ds) (hp : p % (2 * P) = 0) (hlt : p + P < 256) :
    bits .xor .u32 (ds.getD p 0) ((stpN (j + 1) 1 : Nat) : Int) = ((stpN 8 (p + P) : Nat) : Int) ∧ Filled j (p + 2 * P + P) (ds.set (p + P) ((stpN 8 (p + P) : Nat) : Int)) := by
  have h2 : 2 ^ (8 - j) = 2 * P := by rw [hP, show 8 - j = (7 - j) + 1 by omega, Nat.pow_succ, Nat.mul_comm]
  have hP0 : 0 < P := by rw [hP]; exact Nat.two_pow_pos _
  have m1 : p % P = 0 := by
    have := Nat.mod_mul_left_mod p 2 P
    rw [hp] at this; simpa using this.symm
  have e := tab_split j hj (p + P) hlt (by rw [← hP]; simp [m1]) (by
    rw [h2, Nat.add_mod, hp, Nat.zero_add, Nat.mod_mod, Nat.mod_eq_of_lt (by omega)]; omega)
  rw [← hP, Nat.add_sub_cancel] at e
  have h0 := h p (by omega) (.inl (by rw [h2]; exact hp))
  refine ⟨?_, ?_⟩
  · rw [h0, xor_u32 _ _ (tab_lt _ (by omega)) (stpN_lt _ (by omega)), ← e]
  · intro i hi hb
    by_cases hip : i = p + P
    · subst hip; simp [List.getD, hl, hlt]
    · have e1 : (ds.set (p + P) ((stpN 8 (p + P) : Nat) : Int)).getD i 0 = ds.getD i 0 := by
        simp [List.getD, Ne.symm hip]
      rw [e1]
      refine h i hi ?_
      rcases hb with hb | ⟨hb, hlt2⟩
      · exact .inl hb
      · by_cases hib : i < p + P
        · exact .inr ⟨hb, hib⟩
        · left
          rw [h2]
          rw [← hP] at hb
          obtain ⟨q, rfl⟩ := Nat.dvd_of_mod_eq_zero hb
          obtain ⟨r, rfl⟩ := Nat.dvd_of_mod_eq_zero hp
          have e3 : P * (2 * r + 1) < P * q := by
            have : 2 * P * r + P = P * (2 * r + 1) := by rw [Nat.mul_add, Nat.mul_one, Nat.mul_comm 2 P, Nat.mul_assoc]
            omega
          have e4 : P * q < P * (2 * r + 3) := by
            have : 2 * P * r + 2 * P + P = P * (2 * r + 3) := by rw [Nat.mul_add, Nat.mul_comm 2 P, Nat.mul_assoc]; omega
            omega
          have e5 := Nat.lt_of_mul_lt_mul_left e3
          have e6 := Nat.lt_of_mul_lt_mul_left e4
          have : q = 2 * (r + 1) := by omega
          subst this
          rw [← Nat.mul_assoc, Nat.mul_comm P 2, Nat.mul_mod_right]
theorem Filled.next {j b : Nat} {ds : List Int} (hj : j < 8) (h : Filled j b ds) (hb : 256 ≤ b) : Filled (j + 1) 0 ds := by
  intro i hi hh
  refine h i hi ?_
  rcases hh with hh | ⟨_, hh⟩
  · right; rw [show 8 - (j + 1) = 7 - j by omega] at hh; exact ⟨hh, by omega⟩
  · omega
theorem Filled.start {j b : Nat} {ds : List Int} (h : Filled j 0 ds) (hb : b = 2 ^ (7 - j)) : Filled j b ds := by
  intro i hi hh
  refine h i hi ?_
  rcases hh with hh | ⟨h1, h2⟩
  · exact .inl hh
  · left; rw [hb] at h2; rw [Nat.mod_eq_of_lt h2] at h1; subst h1; exact Nat.zero_mod _
theorem Filled.done {ds : List Int} (hl : ds.length = 256) (h : Filled 8 0 ds) : (ds.map (Value.int .u32)).toArray = tabV := by
  unfold tabV
  congr 1
  apply List.ext_getElem
  · simp [hl]
  · intro i h1 h2
    have hi : i < 256 := by simpa using h2
    have := h i hi (.inl (Nat.mod_one _))
    simp [List.getD, hl, hi] at this
    simp [this]
theorem bit_of : ∀ j : Nat, j < 8 → (128 : Int) / 2 ^ j = ((2 ^ (7 - j) : Nat) : Int) := by decide
theorem half_of : ∀ j : Nat, j < 8 → ((2 ^ (7 - j) : Nat) : Int) / 2 = 128 / 2 ^ (j + 1) := by decide
theorem setRow_below {B g : Nat} {a w : World} (h : Below B a w) (hg : B ≤ g) (cs : Array Value) : Below B a (w.setRow g cs) :=
  h.trans ⟨rfl, rfl, rfl, by simp, fun k hk => setRow_other w g k cs (by omega)⟩
theorem stpI_next (j : Nat) : stpI ((stpN j 1 : Nat) : Int) = ((stpN (j + 1) 1 : Nat) : Int) := by
  unfold stpI; rw [Int.toNat_natCast, stpN_succ]

theorem tab_info : (Try.prog.info? 75).map (·.size) = some 256 := by kernel_rfl
set_option maxHeartbeats 1000000 in
theorem steps_any (w : World) :
    Calls Try.prog 38 #[] w fun e w' => e = .returned (.agg tabV) ∧ Below w.heap.size w w' := by
  have hz : ∀ W, (zeroValue 75).run Try.prog W = .ok (.agg zeros) W := fun _ => by kernel_rfl
  have T0 := keep (Tab.new (w.alloc (.cells zeros 75)) 75 rfl)
  have T1 := keep (Tab.new w 75 rfl)
  have hsz : (w.alloc (.cells zeros 75)).heap.size = w.heap.size + 1 := by simp
  rw [hsz] at T0
  clear hsz
  go_enter Try.func38, Try.ntmps38
  go_wp2
  go_loopw [2, 3] (fun al bt wr => ∃ (j : Nat) (bit : Int) (ds : List Int), j ≤ 8 ∧ bit = 128 / 2 ^ j ∧ al = .int .u32 ((stpN j 1 : Nat) : Int) ∧ bt = .int .i64 bit ∧ Tab (w.heap.size + 1) ds wr ∧ Filled j 0 ds ∧ Keep (wr.heap[w.heap.size]? = some (.cells zeros 75 (0, 0)) ∧ Below w.heap.size w wr)) (fun _ bt _ => (intOf bt).toNat)
  case atStart => exact ⟨0, 128, _, by omega, rfl, rfl, rfl, T0.out, Filled.zero, keep ⟨by rw [Below.heap_alloc _ _ _ (by simp)]; exact heap_alloc_new _ _, ((Below.refl _ _).alloc (Nat.le_refl _) _).alloc (by simp) _⟩⟩
  case round =>
    obtain ⟨j, bit, ds, hj, hbit, rfl, rfl, hT, hF, hB⟩ := hrel
    by_cases h8 : j = 8
    · subst h8
      obtain rfl : bit = 0 := by rw [hbit]; decide
      clear hbit
      obtain ⟨cs, ecs⟩ : ∃ cs : Array Value, cs = (ds.map (Value.int .u32)).toArray := ⟨_, rfl⟩
      have hR := hT.row
      rw [← ecs] at hR
      have hz0 : cs.size = 256 := by rw [ecs]; simp [hT.len]
      have HI : Keep ((Try.prog.info? 75).map (·.size) = some cs.size) := keep (by rw [hz0]; exact tab_info)
      have HO : Keep (zeros.size = cs.size) := keep (by rw [hz0]; unfold zeros; exact Array.size_replicate)
      have H1 : Keep (cs.all (·.oneCell') = true) := keep (by rw [ecs]; exact all_oneCell_toArray (by intro v hv; rw [List.mem_map] at hv; obtain ⟨a, _, rfl⟩ := hv; rfl))
      clear hz0
      have HC : Keep (cs = tabV) := keep (by rw [ecs]; exact hF.done hT.len)
      have HR := keep hR
      clear hR ecs hT hF
      go_upto_region 11 with (fail)
      go_step
      refine wpList_load_row rfl 75 _ rfl (w.heap.size + 1) rfl 75 cs (0, 0) _ HR.out Try.underlying75 rfl HI.out ?_
      refine wpList_store_row rfl 75 _ _ rfl w.heap.size cs rfl rfl 75 zeros hB.out.1 HI.out HO.out H1.out ?_
      repeat go_step
      exact bodyPost_ret (v := .agg cs) (results_cell_row rfl _ _ w.heap.size 75 cs (0, 0) _ rfl (setRow_heap _ _ _ _ _ _ hB.out.1) Try.underlying75 rfl HI.out) rfl ⟨by rw [HC.out], setRow_below hB.out.2 (Nat.le_refl _) cs⟩
    · have hj8 : j < 8 := by omega
      obtain ⟨P, hP⟩ : ∃ P : Nat, P = 2 ^ (7 - j) := ⟨_, rfl⟩
      obtain rfl : bit = (P : Int) := by rw [hbit, hP]; exact bit_of j hj8
      have hP0 : 0 < P := by rw [hP]; exact Nat.two_pow_pos _
      have hP1 : P ≤ 128 := by rw [hP]; exact Nat.pow_le_pow_right (n := 2) (j := 7) (by omega) (by omega)
      have hh : ((P : Nat) : Int) / 2 = 128 / 2 ^ (j + 1) := by rw [hP]; exact half_of j hj8
      have HH := keep hh
      have HJ := keep hj8
      have HP := keep hP
      have HF := keep (hF.start (b := 0 + P) (by rw [Nat.zero_add]; exact hP))
      have HB0 := keep hbit
      have hx : 0 ≤ ((stpN j 1 : Nat) : Int) := by omega
      have hx1 : ((stpN j 1 : Nat) : Int) < 4294967296 := by have := stpN_lt j (x := 1) (by omega); omega
      have HS := keep (fun w => step_any ((stpN j 1 : Nat) : Int) w hx hx1)
      rw [stpI_next] at HS
      clear hh hj8 hP hbit h8 hj hF hx hx1
      go_wp2_with (go_at_call 39; refine (HS.out _).mono ?_; rintro e w' ⟨rfl, rfl⟩)
      obtain ⟨wo, rfl⟩ : ∃ wo : World, wo = wr := ⟨_, rfl⟩
      go_loopw [4] (fun bv wr => ∃ (p : Nat) (ds : List Int), Keep (p % (2 * P) = 0) ∧ bv = .int .i64 ((p : Int) + (P : Int)) ∧ Tab (w.heap.size + 1) ds wr ∧ Keep (Filled j (p + P) ds) ∧ Keep (wr.heap[w.heap.size]? = some (.cells zeros 75 (0, 0)) ∧ Below w.heap.size w wr)) (fun bv _ => (400 - intOf bv).toNat)
      case atStart => exact ⟨0, _, keep (by simp), val_int (by omega), hT, HF, hB⟩
      case round =>
        obtain ⟨p, ds1, HP1, rfl, hT1, HF1, HB1⟩ := hrel
        by_cases hlt : p + P < 256
        · have hc := hT1.cell (i := p) (by omega)
          have hc2 := hT1.cell (i := p + P) hlt
          have hf := hT1.free (p + P)
          have i0 : (0 : Int) ≤ (p : Int) := by omega
          have i1 : (p : Int) < 256 := by omega
          have i2 : (0 : Int) ≤ (p : Int) + (P : Int) := by omega
          have i3 : (p : Int) + (P : Int) < 256 := by omega
          have ⟨s1, s2⟩ := HF1.out.step HJ.out HP.out hT1.len HP1.out hlt
          have hset := hT1.set (p + P) ((stpN 8 (p + P) : Nat) : Int)
          have S1 := keep s1
          have S2 := keep s2
          have ST := keep hset
          have HQ := keep hP0
          clear hlt hP0 hP1 hT1 hT s1 s2 hset
          go_wp2_with fail
          go_roundw
          case rel =>
            refine ⟨p + 2 * P, _, keep ?_, val_int (by omega), ?_, S2, keep ⟨?_, ?_⟩⟩
            · rw [Nat.add_mod_right]; exact HP1.out
            · have e : bits .xor .u32 (ds1[p]?.getD 0) ((stpN (j + 1) 1 : Nat) : Int) = _ := S1.out
              rw [e]; exact ST.out
            · rw [heap_setCell_other _ _ _ _ (by simp)]; exact HB1.out.1
            · exact HB1.out.2.setCell (by simp) _
          case measure => have := HQ.out; simp [intOf]; omega
        · have i3 : ¬ (p : Int) + (P : Int) < 256 := by omega
          have i4 : decide ((p : Int) + (P : Int) < 256) = false := by simp; omega
          have hP2 : (P : Int) ≤ 128 := by omega
          have HN : Keep (Filled (j + 1) 0 ds1) := keep (HF1.out.next HJ.out (by omega))
          have HT1 := keep hT1
          have HQ := keep hP0
          have HQ1 := keep hP1
          clear hlt hP0 hP1 hT1 hT
          go_wp2_with fail
          go_roundw
          case rel => exact ⟨j + 1, _, ds1, by have := HJ.out; omega, HH.out, rfl, rfl, HT1.out, HN.out, HB1⟩
          case measure => have := HQ.out; simp [intOf]; omega
end Go.Proofs.Ytghgahcgbnpidaa
