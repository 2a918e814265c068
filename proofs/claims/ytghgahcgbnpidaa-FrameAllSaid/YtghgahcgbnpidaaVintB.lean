/-
  The bytes of a number: the program's Put, and the document's.
-/
import Derived.Test.YtghgahcgbnpidaaVintA
namespace Go.Proofs.Ytghgahcgbnpidaa
open Go.RowKit

def numF : Nat → Nat → List UInt8
  | 0, u => [UInt8.ofNat u]
  | f + 1, u => if u < 128 then [UInt8.ofNat u] else UInt8.ofNat (u % 128 + 128) :: numF f (u / 128)
/-- The bytes of a number. -/
def num (u : Nat) : List UInt8 := numF 10 u

theorem numF_succ (f : Nat) : ∀ u, u < 128 ^ (f + 1) → numF (f + 1) u = numF f u := by
  induction f with
  | zero => intro u h; simp only [numF]; rw [if_pos (by omega)]
  | succ f ih =>
    intro u h
    have e : u / 128 < 128 ^ (f + 1) := by
      rw [Nat.div_lt_iff_lt_mul (by omega)]; rw [Nat.pow_succ] at h; omega
    show (if u < 128 then _ else _) = (if u < 128 then _ else _)
    rw [ih _ e]

theorem num_lt {u : Nat} (h : u < 128) : num u = [UInt8.ofNat u] := by unfold num numF; rw [if_pos h]
theorem num_ge {u : Nat} (h : 128 ≤ u) (h1 : u < 18446744073709551616) : num u = UInt8.ofNat (u % 128 + 128) :: num (u / 128) := by
  have e : numF 10 (u / 128) = numF 9 (u / 128) := numF_succ 9 _ (by omega)
  unfold num
  rw [e]
  show (if u < 128 then _ else _) = _
  rw [if_neg (by omega)]

/-! ### The ten cells of Put's array -/
structure Row10 (B : Nat) (ds : List Int) (w : World) : Prop where
  len : ds.length = 10
  cell : ∀ i, i < 10 → w.cell? ⟨B, i, none⟩ = some (.int .u8 (ds.getD i 0))
  free : ∀ i, w.frozen? ⟨B, i, none⟩ = false

theorem Row10.set {B : Nat} {ds : List Int} {w : World} (h : Row10 B ds w) {k : Nat} (hk : k < 10) (v : Int) : Row10 B (ds.set k v) (w.setCell ⟨B, k, none⟩ (.int .u8 v)) := by
  obtain ⟨h1, h2, h3⟩ := h
  refine ⟨by simp [h1], fun i hi => ?_, fun i => by rw [World.frozen?_setCell]; exact h3 i⟩
  by_cases e : i = k
  · subst e
    rw [World.cell?_setCell_same _ _ _ (h2 i hi)]
    simp [List.getD, h1, hi]
  · rw [World.cell?_setCell_other _ _ _ _ (by intro c; injection c with c1 c2; exact e c2.symm), h2 i hi]
    have e' : ¬ k = i := fun c => e c.symm
    simp [List.getD, e']

theorem Row10.new (w : World) (t : TypeId) : Row10 w.heap.size [0, 0, 0, 0, 0, 0, 0, 0, 0, 0] (w.alloc (.cells #[.int .u8 0, .int .u8 0, .int .u8 0, .int .u8 0, .int .u8 0, .int .u8 0, .int .u8 0, .int .u8 0, .int .u8 0, .int .u8 0] t)) := by
  refine ⟨rfl, fun i hi => ?_, fun i => ?_⟩
  · rw [World.cell?_alloc_new]
    match i, hi with
    | 0, _ => rfl
    | 1, _ => rfl
    | 2, _ => rfl
    | 3, _ => rfl
    | 4, _ => rfl
    | 5, _ => rfl
    | 6, _ => rfl
    | 7, _ => rfl
    | 8, _ => rfl
    | 9, _ => rfl
  · rw [frozen?_alloc_cells]
    simp [World.frozen?]

theorem or_128 : ∀ a, a < 256 → a ||| 128 = a % 128 + 128 := by decide +kernel

theorem digit_u8 (x : Nat) : bits .or .u8 ((x : Int) % 256) 128 = ((x % 128 + 128 : Nat) : Int) := by
  have e : (x : Int) % 256 = ((x % 256 : Nat) : Int) := by omega
  have h := (bits_nat .u8 8 (by decide) wraps_u8 (x % 256) 128 (by omega) (by omega)).2
  have e2 := or_128 (x % 256) (by omega)
  rw [e, show (128 : Int) = ((128 : Nat) : Int) from rfl, h, e2]
  omega

/-- k digits are done: what they are, and what is left. -/
structure Done (u k x : Nat) (ds : List Int) : Prop where
  reads : num u = (ds.take k).map (fun n => UInt8.ofNat n.toNat) ++ num x
  left : x * 128 ^ k ≤ u
  few : k ≤ 9

theorem Done.zero (u : Nat) (ds : List Int) : Done u 0 u ds := ⟨by simp, by simp, by omega⟩

theorem Done.step {u k x : Nat} {ds : List Int} (h : Done u k x ds) (hl : ds.length = 10) (hu : u < 18446744073709551616) (hx : 128 ≤ x) : Done u (k + 1) (x / 128) (ds.set k ((x % 128 + 128 : Nat) : Int)) := by
  obtain ⟨h1, h2, h3⟩ := h
  have hk : 128 ^ (k + 1) < 128 ^ 10 := by
    rw [Nat.pow_succ]
    have := Nat.mul_le_mul_right (128 ^ k) hx
    have e : (128 : Nat) ^ 10 = 1180591620717411303424 := by decide
    omega
  have hk' : k + 1 < 10 := (Nat.pow_lt_pow_iff_right (by omega)).1 hk
  have hxx : x < 18446744073709551616 := by
    have : 1 ≤ 128 ^ k := Nat.one_le_pow _ _ (by omega)
    have := Nat.mul_le_mul_left x this
    omega
  refine ⟨?_, ?_, by omega⟩
  · rw [h1, num_ge hx hxx, List.take_add_one, List.map_append, List.take_set_of_le (Nat.le_refl _), List.append_assoc]
    congr 1
    have e : ((x : Int) % 128 + 128).toNat = x % 128 + 128 := by omega
    simp [hl, show k < 10 by omega, e]
  · have : x / 128 * 128 ≤ x := Nat.div_mul_le_self x 128
    have := Nat.mul_le_mul_right (128 ^ k) this
    rw [Nat.pow_succ]
    have e : x / 128 * (128 ^ k * 128) = x / 128 * 128 * 128 ^ k := by rw [Nat.mul_assoc, Nat.mul_comm 128]
    omega

theorem Done.whole {u k x : Nat} {ds : List Int} (h : Done u k x ds) (hl : ds.length = 10) (hx : x < 128) : num u = (strOfNums ((ds.set k (x : Int)).take (k + 1))).data.toList := by
  have hk := h.few
  rw [h.reads, num_lt hx, strOfNums_data, List.take_add_one, List.map_append, List.take_set_of_le (Nat.le_refl _)]
  simp [hl, show k < 10 by omega]

theorem slice10 (k B : Nat) (hk : k ≤ 9) (W : World) : (Instr.sliceAt 72 (.pointer (some ⟨B, 0, none⟩)) none (some (.int .i64 ((k : Int) + 1))) none).run Try.prog W = .ok (.slice (some ⟨B, 0, none⟩) (k + 1) 10) W := by
  have e : Try.prog.arrayLen 72 = 10 := by kernel_rfl
  have e2 : (sizeOf (Try.prog.elem 72)).run Try.prog W = .ok 1 W := by kernel_rfl
  rw [run_sliceAt_array_h W 72 ⟨B, 0, none⟩ (by kernel_rfl) .i64 _ (by omega) (by rw [e]; omega), e2, e]
  have e3 : ((k : Int) + 1).toNat = k + 1 := by omega
  have e4 : (⟨B, 0, none⟩ : Addr).add 0 = ⟨B, 0, none⟩ := rfl
  simp [Result.andThen, slicedAt, e3, e4]

set_option maxHeartbeats 400000 in
theorem put_any (s : ByteArray) (u : Int) (w : World) (hs : s.size ≤ 1000) (h0 : 0 ≤ u) (h1 : u < 18446744073709551616) :
    Calls Try.prog 22 #[.string s, .int .u64 u] w fun e w' => e = .returned (.string ⟨(s.data.toList ++ num u.toNat).toArray⟩) ∧ Below w.heap.size w w' := by
  obtain ⟨u, rfl⟩ := Int.eq_ofNat_of_zero_le h0
  rw [Int.toNat_natCast]
  have R0 := Row10.new w 72
  go_enter Try.func22, Try.ntmps22
  go_wp2
  go_loopw [1, 6] (fun uv nv wr => ∃ (k x : Nat) (ds : List Int), uv = .int .u64 x ∧ nv = .int .i64 k ∧ Row10 w.heap.size ds wr ∧ Done u k x ds ∧ Below w.heap.size w wr) (fun uv _ _ => (intOf uv).toNat)
  case atStart => exact ⟨0, u, _, rfl, rfl, R0, Done.zero _ _, (Below.refl _ _).alloc (Nat.le_refl _) _⟩
  case round =>
    obtain ⟨k, x, ds, rfl, rfl, hR, hD, hB⟩ := hrel
    have hk : k ≤ 9 := hD.few
    obtain ⟨c0, hc⟩ : ∃ c, wr.cell? ⟨w.heap.size, k, none⟩ = some (.int .u8 c) := ⟨_, hR.cell k (by omega)⟩
    have hf := hR.free k
    have HB := keep hB; have HU := keep h1
    clear R0 hB h1
    by_cases hx : (128 : Int) ≤ (x : Int)
    · go_wp2
      go_roundw
      case rel =>
        have hl := hR.len
        exact ⟨k + 1, x / 128, _, by go_num, by go_num, by rw [digit_u8]; exact hR.set (by omega) _, hD.step hl (by have := HU.out; omega) (by omega), HB.out.setCell (Nat.le_refl _) _⟩
      case measure => simp [intOf]; omega
    · have hR1 := hR.set (show k < 10 by omega) (x : Int)
      have hl1 := hR1.len
      have hw := hD.whole hR.len (by omega)
      have hsl := slice10 k w.heap.size hk
      obtain ⟨bs, ebs⟩ : ∃ bs, bs = strOfNums ((ds.set k (x : Int)).take (k + 1)) := ⟨_, rfl⟩
      have hbz : bs.size ≤ 10 := by rw [ebs, strOfNums_size]; simp; omega
      have hcv := run_convert_bytes_arg (P := Try.prog) (wr.setCell ⟨w.heap.size, k, none⟩ (.int .u8 (x : Int))) 30 5 Try.underlying30 Try.underlying5 w.heap.size 0 (k + 1) 10 ((ds.set k (x : Int)).take (k + 1)) (by simp [hl1]; omega) (fun i hi => by
        rw [Nat.zero_add, hR1.cell i (by omega)]; simp [List.getD, hi]) 9 Try.underlying9
      rw [← ebs] at hcv
      have EB := keep ebs; have HW := keep hw
      clear ebs hw
      go_wp2
      go_ret
      refine ⟨?_, HB.out.setCell (Nat.le_refl _) _⟩
      rw [HW.out, ← EB.out]
      exact ret_str (cat_data s bs)
end Go.Proofs.Ytghgahcgbnpidaa
