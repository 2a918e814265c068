/-
  The document's text with bits turned.
-/
import Derived.Test.YtghgahcgbnpidaaCrcE
import Derived.Laws.IdiomStrings
namespace Go.Proofs.Ytghgahcgbnpidaa
open Go.RowKit

/-- The bytes of a slice. -/
structure Bytes (B : Nat) (bs : List UInt8) (w : World) : Prop where
  cell : ∀ j (h : j < bs.length), w.cell? ⟨B, j, none⟩ = some (.int .u8 ((bs[j]'h).toNat : Int))
  free : ∀ j, j < bs.length → w.frozen? ⟨B, j, none⟩ = false

theorem Bytes.set {B : Nat} {bs : List UInt8} {w : World} (h : Bytes B bs w) {k : Nat} (hk : k < bs.length) (x : UInt8) (v : Int) (hv : v = (x.toNat : Int)) : Bytes B (bs.set k x) (w.setCell ⟨B, k, none⟩ (.int .u8 v)) := by
  subst hv
  refine ⟨fun j hj => ?_, fun j hj => by rw [World.frozen?_setCell]; exact h.free j (by simpa using hj)⟩
  have hj' : j < bs.length := by simpa using hj
  by_cases e : j = k
  · subst e
    rw [World.cell?_setCell_same _ _ _ (h.cell j hj')]
    simp
  · rw [World.cell?_setCell_other _ _ _ _ (by intro c; injection c with c1 c2; exact e c2.symm), h.cell j hj']
    have e' : ¬ k = j := fun c => e c.symm
    simp [e']

theorem bytes_of (w : World) (s : ByteArray) : ∃ (cap : Nat) (w1 : World), (convert 9 30 (.string s)).run Try.prog w = .ok (.slice (some ⟨w.heap.size, 0, none⟩) s.size cap) w1 ∧ Bytes w.heap.size s.data.toList w1 ∧ Below w.heap.size w w1 := by
  refine ⟨_, _, run_bytes_of_string w 9 30 5 s Try.underlying9 Try.underlying30 Try.underlying5, ⟨fun j hj => ?_, fun j hj => ?_⟩, (Below.refl _ _).drew.alloc (Nat.le_refl _) _⟩
  · have hj' : j < s.data.size := by simpa using hj
    have := World.cell?_alloc_mark w.drew (bytesRow s (grownCap w s.size 0 5)) 5 ((bytesRow s (grownCap w s.size 0 5)).size, (bytesRow s (grownCap w s.size 0 5)).size + 1) j
    rw [show w.drew.heap.size = w.heap.size from rfl] at this
    rw [this, bytesRow_at s _ j hj']
    simp
  · have hj' : j < s.data.size := by simpa using hj
    have := World.frozen?_alloc_mark w.drew (bytesRow s (grownCap w s.size 0 5)) 5 (bytesRow s (grownCap w s.size 0 5)).size ((bytesRow s (grownCap w s.size 0 5)).size + 1) j
    rw [show w.drew.heap.size = w.heap.size from rfl] at this
    rw [this]
    have hz : s.data.size ≤ (bytesRow s (grownCap w s.size 0 5)).size := by unfold bytesRow; simp
    simp; omega

/-- A text with bits turned. -/
def TurnedIs (s : ByteArray) (a : Nat) (w : World) (e : Ending) (w' : World) : Prop :=
  ∃ (t : ByteArray) (F : Nat), e = .returned (.string t) ∧ t.data.toList.length = s.data.toList.length ∧ val t.data.toList = val s.data.toList ^^^ 2 ^ a * F ∧ F < 4294967296 ∧ Below w.heap.size w w'

structure Turns (s : ByteArray) (a i : Nat) (bs : List UInt8) (F : Nat) : Prop where
  len : bs.length = s.data.toList.length
  is : val bs = val s.data.toList ^^^ 2 ^ a * F
  lt : F < 2 ^ i

theorem Turns.skip {s : ByteArray} {a i : Nat} {bs : List UInt8} {F : Nat} (h : Turns s a i bs F) : Turns s a (i + 1) bs F :=
  ⟨h.len, h.is, by have := h.lt; rw [Nat.pow_succ]; omega⟩
theorem mul_xor (a x y : Nat) : 2 ^ a * (x ^^^ y) = 2 ^ a * x ^^^ 2 ^ a * y := by
  apply Nat.eq_of_testBit_eq
  intro i
  simp only [Nat.testBit_xor, Nat.testBit_two_pow_mul]
  cases decide (i ≥ a) <;> simp
theorem Turns.step {s : ByteArray} {a i : Nat} {bs : List UInt8} {F : Nat} (h : Turns s a i bs F) (hq : (a + i) / 8 < bs.length) : Turns s a (i + 1) (bs.set ((a + i) / 8) (bs[(a + i) / 8]'hq ^^^ UInt8.ofNat (2 ^ ((a + i) % 8)))) (F ^^^ 2 ^ i) := by
  refine ⟨by rw [List.length_set]; exact h.len, ?_, ?_⟩
  · have e : 8 * ((a + i) / 8) + (a + i) % 8 = a + i := Nat.div_add_mod _ 8
    rw [val_set _ _ _ hq (Nat.mod_lt _ (by omega)), e, h.is, mul_xor, Nat.xor_assoc, Nat.pow_add]
  · have := h.lt
    exact Nat.xor_lt_two_pow (by rw [Nat.pow_succ]; omega) (Nat.pow_lt_pow_right (by omega) (by omega))
theorem turn_val (x : UInt8) {r : Nat} (hr : r < 8) : bits .xor .u8 (x.toNat : Int) ((2 : Int) ^ r % 256) = ((x ^^^ UInt8.ofNat (2 ^ r)).toNat : Int) := by
  have hp : 2 ^ r < 256 := Nat.pow_lt_pow_right (a := 2) (n := 8) (by omega) hr
  have e : (2 : Int) ^ r % 256 = ((2 ^ r : Nat) : Int) := by
    have e1 : ((2 : Int) ^ r) = ((2 ^ r : Nat) : Int) := by rw [Int.natCast_pow]; rfl
    rw [e1]; exact Int.emod_eq_of_lt (Int.natCast_nonneg _) (Int.ofNat_lt.2 hp)
  rw [e, xor_u8 _ _ x.toNat_lt hp, UInt8.toNat_xor, UInt8.toNat_ofNat', Nat.mod_eq_of_lt (by omega)]

set_option maxHeartbeats 1000000 in
theorem turned_any (s : ByteArray) (a : Nat) (m : Int) (w : World) (hs : s.size ≤ 1000) (ha : a ≤ 10000) :
    Calls Try.prog 21 #[.string s, .int .i64 a, .int .u32 m] w (TurnedIs s a w) := by
  obtain ⟨cap, w1, hcv, hB1, hb⟩ := bytes_of w s
  have HB := keep hb
  clear hb
  have ha0 : (0 : Int) ≤ (a : Int) := by omega
  have ha1 : (a : Int) ≤ 10000 := by omega
  have hs1 : (s.size : Int) ≤ 1000 := by omega
  clear ha hs
  go_enter Try.func21, Try.ntmps21
  go_wp2_with fail
  go_loopw [8] (fun iv wr => ∃ (i : Nat) (bs : List UInt8) (F : Nat), iv = .int .i64 i ∧ Keep (i ≤ 32) ∧ Bytes w.heap.size bs wr ∧ Keep (Turns s a i bs F) ∧ Keep (Below w.heap.size w wr)) (fun iv _ => 32 - (intOf iv).toNat)
  case atStart => exact ⟨0, _, 0, rfl, keep (by omega), hB1, keep ⟨rfl, by simp, by simp⟩, HB⟩
  case round =>
    obtain ⟨i, bs, F, rfl, HI, hR, HT, HBw⟩ := hrel
    by_cases h32 : i < 32
    · have hi : (i : Int) < 32 := by omega
      have H32 := keep h32
      clear h32
      by_cases hbit : bits .and .u32 (m / 2 ^ i) 1 = 1
      · have hbe : (bits .and .u32 (m / 2 ^ i) 1 == 1) = true := by rw [hbit]; rfl
        have HG := keep hbit
        clear hbit
        by_cases hin : a + i < 8 * s.size
        · have hin' : (a : Int) + (i : Int) < 8 * (s.size : Int) := by omega
          have hq : (a + i) / 8 < bs.length := by rw [HT.out.len, ← size_list]; omega
          obtain ⟨x, hx⟩ : ∃ x : UInt8, x = bs[(a + i) / 8]'hq := ⟨_, rfl⟩
          have hc := hR.cell _ hq
          rw [← hx] at hc
          have hf := hR.free _ hq
          have HX := keep hx
          have HR := keep hR
          clear hx hin hR hB1
          go_wp2_with fail
          go_roundw
          case rel => exact ⟨i + 1, _, _, by go_num, keep H32.out, HR.out.set hq _ _ (by rw [HX.out]; exact turn_val _ (Nat.mod_lt _ (by omega))), keep (HT.out.step hq), keep (HBw.out.setCell (Nat.le_refl _) _)⟩
          case measure => have := H32.out; simp [intOf]; omega
        · have hn : decide ((a : Int) + (i : Int) < 8 * (s.size : Int)) = false := by simp; omega
          have HR := keep hR
          clear hin hR hB1
          go_wp2_with fail
          go_roundw
          case rel => exact ⟨i + 1, _, _, by go_num, keep H32.out, HR.out, keep HT.out.skip, HBw⟩
          case measure => have := H32.out; simp [intOf]; omega
      · have hbe : (bits .and .u32 (m / 2 ^ i) 1 == 1) = false := by simpa using hbit
        have HR := keep hR
        clear hbit hR hB1
        go_wp2_with fail
        go_roundw
        case rel => exact ⟨i + 1, _, _, by go_num, keep H32.out, HR.out, keep HT.out.skip, HBw⟩
        case measure => have := H32.out; simp [intOf]; omega
    · have h33 : i = 32 := by have := HI.out; omega
      subst h33
      obtain ⟨t, et⟩ : ∃ t : ByteArray, t = ⟨bs.toArray⟩ := ⟨_, rfl⟩
      have hz : bs.length = s.size := by rw [HT.out.len, size_list]
      have hback := run_convert_bytes_back (P := Try.prog) wr 30 9 5 ⟨w.heap.size, 0, none⟩ cap bs Try.underlying30 Try.underlying5 Try.underlying9 (fun j hj => by
        have e : (⟨w.heap.size, 0, none⟩ : Addr).add j = ⟨w.heap.size, j, none⟩ := by rw [Addr.add_mid, Nat.zero_add]
        rw [e]; exact hR.cell j hj)
      rw [hz, ← et] at hback
      have ET := keep et
      clear h32 hR hB1 hz et
      go_wp2_with fail
      go_ret
      refine ⟨t, F, rfl, ?_, ?_, ?_, HBw.out⟩
      · rw [ET.out]; simpa using HT.out.len
      · rw [ET.out]; simpa using HT.out.is
      · have := HT.out.lt; omega
end Go.Proofs.Ytghgahcgbnpidaa
