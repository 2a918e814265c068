/-
  strconv.Atoi at up to 18 digits.
-/
import Derived.Test.YtekonndjanaoaaaDoorTokE
import Derived.Lib.ConvBytes
import Derived.Lib.SmallJoins
namespace Go.Proofs.YtekonndjanaoaaaDoor
open Go.RowKit Go.Joins

theorem isD_bd {c : Int} (h : isD c = true) : 48 ≤ c ∧ c ≤ 57 := of_decide_eq_true h
theorem digits_at {l : List UInt8} (h : ∀ b ∈ l, isD (ob b) = true) {k : Nat} {b : UInt8} (hk : l[k]? = some b) : 48 ≤ ob b ∧ ob b ≤ 57 := isD_bd (h b (List.mem_of_getElem? hk))
theorem worth_take_bd {l : List UInt8} (h : ∀ b ∈ l, isD (ob b) = true) (hl : l.length ≤ 18) (k : Nat) (hk : k < l.length) : 0 ≤ worth (l.take k) ∧ worth (l.take k) < 100000000000000000 := by
  have hlen : (l.take k).length = k := by rw [List.length_take]; omega
  have h1 := worth_bd k (l.take k) hlen (fun b hb => h b (List.mem_of_mem_take hb))
  have h2 : (10 : Int) ^ k ≤ 10 ^ 17 := by
    have : (10 : Nat) ^ k ≤ 10 ^ 17 := Nat.pow_le_pow_right (by decide) (by omega)
    exact_mod_cast this
  exact ⟨h1.1, Int.lt_of_lt_of_le h1.2 h2⟩

set_option maxRecDepth 100000 in
set_option maxHeartbeats 4000000 in
theorem iatoi_any (l : List UInt8) (h1 : 1 ≤ l.length) (h18 : l.length ≤ 18) (hd : ∀ b ∈ l, isD (ob b) = true) (w : World) :
    Calls Tryd.prog 32 #[.string (str l)] w fun e w' => e = .returned (.tuple #[.int .i64 (worth l), .nilIface]) ∧ Below w.heap.size w w' := by
  have hz : (str l).size = l.length := str_size l
  have hg := get_bt (str l)
  have hg0 := bt_at l (k := 0) (by omega)
  have hc0 : 48 ≤ byteAt l 0 ∧ byteAt l 0 ≤ 57 := by
    obtain ⟨b, hb⟩ : ∃ b, l[0]? = some b := ⟨_, List.getElem?_eq_getElem (by omega)⟩
    have := digits_at hd hb
    unfold byteAt; rw [hb]; exact this
  have HB : Keep (∀ w j, j < (str l).size → ∃ b, l[j]? = some b ∧ (Lib.bytesWorld w 5 (str l)).cell? ⟨w.heap.size, j, none⟩ = some (.int .u8 (ob b))) := ⟨fun w j hj => by
    refine ⟨_, List.getElem?_eq_getElem (by omega), ?_⟩
    rw [Lib.bytesWorld_cell w 5 (str l) j hj, str_data]
    simp [List.getD, ob, show j < l.length by omega]⟩
  have HBW := keep (below_bytesWorld w.heap.size w 5 (str l) (Nat.le_refl _))
  generalize byteAt l 0 = c at *
  have n45 : (c == 45) = false := by simp; omega
  have n43 : (c == 43) = false := by simp; omega
  generalize str l = s at *
  have hcv := Lib.run_convert_string_bytes (P := Tryd.prog) w 9 38 5 s (u := .string) Tryd.underlying9 Tryd.underlying38 Tryd.underlying5
  have HB' := keep (HB.out w)
  obtain ⟨W1, hW1⟩ : ∃ W1, W1 = Lib.bytesWorld w 5 s := ⟨_, rfl⟩
  rw [← hW1] at hcv HB' HBW
  have HD : Keep (∀ (k : Nat) (b : UInt8), l[k]? = some b → 48 ≤ ob b ∧ ob b ≤ 57 ∧ worth (l.take (k + 1)) = worth (l.take k) * 10 + (ob b - 48)) := ⟨fun k b hk => by
    have := digits_at hd hk
    refine ⟨this.1, this.2, ?_⟩
    rw [List.take_add_one, hk]
    exact worth_snoc _ _⟩
  have HWT := keep (worth_take_bd hd h18)
  have HZ := keep hz
  have hsI : (s.size : Int) ≤ 18 := by omega
  have hs0 : (0 : Int) < (s.size : Int) := by omega
  clear hz hc0 h1 h18 hd HB hW1
  go_enter Tryd.func32, Tryd.ntmps32
  go_wp2_with fail
  go_loop [49, 6] (fun vi vn => ∃ (k : Nat) (acc : Int), k ≤ s.size ∧ vi = .int .i64 k ∧ vn = .int .i64 acc ∧ Keep (acc = worth (l.take k))) (fun vi _ => s.size - (intOf vi).toNat)
  case atStart => exact ⟨0, 0, Nat.zero_le _, rfl, rfl, ⟨rfl⟩⟩
  case round =>
    obtain ⟨k, acc, hk, rfl, rfl, HA⟩ := hrel
    by_cases hlt : k < s.size
    · obtain ⟨b, hb, hcell⟩ := HB'.out k hlt
      obtain ⟨b1, b2, b3⟩ := HD.out k b hb
      obtain ⟨a1, a2⟩ := HWT.out k (by rw [← HZ.out]; exact hlt)
      rw [← HA.out] at a1 a2 b3
      have HN := keep b3.symm
      generalize ob b = d at *
      have hltI : (k : Int) < (s.size : Int) := by omega
      clear hb b3
      go_wp2_with fail
      go_round
      case rel => exact ⟨k + 1, acc * 10 + (d - 48), by omega, by go_num, by first | rfl | go_num | (congr 1; omega), HN⟩
      case measure => simp [intOf]; omega
    · obtain rfl : k = s.size := by omega
      have HE : Keep (acc = worth l) := ⟨by rw [HA.out, List.take_of_length_le (by rw [HZ.out]; exact Nat.le_refl _)]⟩
      go_wp2_with fail
      go_ret2
      exact ⟨by rw [← HE.out]; rfl, HBW.out⟩

set_option maxHeartbeats 1000000 in
theorem atoi_any (l : List UInt8) (h1 : 1 ≤ l.length) (h18 : l.length ≤ 18) (hd : ∀ b ∈ l, isD (ob b) = true) (w : World) :
    Calls Tryd.prog 20 #[.string (str l)] w fun e w' => e = .returned (.tuple #[.int .i64 (worth l), .nilIface]) ∧ Below w.heap.size w w' := by
  have HA := keep (iatoi_any l h1 h18 hd)
  clear h1 h18 hd
  generalize str l = s at *
  generalize worth l = n at *
  go_enter Tryd.func20, Tryd.ntmps20
  go_wp2_with (go_at_call 32; refine (HA.out _).mono ?_; rintro e w' ⟨rfl, hb⟩; have HB := keep hb; clear hb)
  go_ret2
  exact ⟨rfl, HB.out⟩
end Go.Proofs.YtekonndjanaoaaaDoor
