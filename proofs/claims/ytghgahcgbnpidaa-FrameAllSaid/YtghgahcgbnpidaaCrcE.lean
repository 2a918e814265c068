/-
  Seal and Open.
-/
import Derived.Test.YtghgahcgbnpidaaCrcD
namespace Go.Proofs.Ytghgahcgbnpidaa
open Go.RowKit

def sumI (s : ByteArray) : Int := ((sumN s.data.toList : Nat) : Int)
theorem sumI_bd (s : ByteArray) : 0 ≤ sumI s ∧ sumI s < 4294967296 := by unfold sumI; have := sumN_lt s.data.toList; omega
theorem seal4_size (c : Int) : (seal4 c).size = 4 := rfl

set_option maxHeartbeats 400000 in
theorem seal_any (s : ByteArray) (w : World) (hs : s.size ≤ 1000000) :
    Calls Try.prog 23 #[.string s] w fun e w' => e = .returned (.string (s ++ seal4 (sumI s))) ∧ Below w.heap.size w w' := by
  have HM := keep (sum_any s w hs)
  have HB := keep (sumI_bd s)
  have HZ := seal4_size (sumI s)
  have HS := keep hs
  have hs' : (s.size : Int) ≤ 1000000 := by omega
  clear hs
  go_enter Try.func23, Try.ntmps23
  go_wp2_with fail
  refine HM.out.mono ?_
  rintro e w1 ⟨rfl, hb⟩
  have HB1 := keep hb
  clear hb
  rw [show ((sumN s.data.toList : Nat) : Int) = sumI s from rfl]
  go_wp2_with fail
  refine (bytes_any (sumI s) w1 HB.out.1 HB.out.2).mono ?_
  rintro e w2 ⟨rfl, hb⟩
  have HB2 := keep hb
  clear hb
  go_wp2_with fail
  go_ret
  exact ⟨rfl, HB1.out.trans (HB2.out.mono HB1.out.size)⟩

/-- What Open answers. -/
def openT (s : ByteArray) : Value := 
  if s.size < 4 then .tuple #[.string ⟨#[]⟩, .int .i64 2]
  else if s.extract (s.size - 4) s.size = seal4 (sumI (s.extract 0 (s.size - 4))) then .tuple #[.string (s.extract 0 (s.size - 4)), .int .i64 0]
  else .tuple #[.string ⟨#[]⟩, .int .i64 4]

set_option maxHeartbeats 1000000 in
theorem open_any (s : ByteArray) (w : World) (hs : s.size ≤ 1000000) :
    Calls Try.prog 28 #[.string s] w fun e w' => e = .returned (openT s) ∧ Below w.heap.size w w' := by
  by_cases h4 : s.size < 4
  · have HE : Keep (openT s = .tuple #[.string ⟨#[]⟩, .int .i64 2]) := keep (by unfold openT; rw [if_pos h4])
    have h4' : (s.size : Int) - 4 < 0 := by omega
    have hs' : (s.size : Int) ≤ 1000000 := by omega
    clear h4 hs
    go_enter Try.func28, Try.ntmps28
    go_wp2_with fail
    go_ret2
    exact ⟨by rw [HE.out]; rfl, Below.refl _ _⟩
  · obtain ⟨n, hn⟩ : ∃ n, n = s.size - 4 := ⟨_, rfl⟩
    have hsz : (s.size : Int) - 4 = (n : Int) := by omega
    have hn0 : (0 : Int) ≤ (n : Int) := by omega
    have hn1 : (n : Int) ≤ (s.size : Int) := by omega
    have hn2 : (n : Int) ≤ 1000000 := by omega
    have hs' : (s.size : Int) ≤ 1000000 := by omega
    have HT0 : openT s = if s.extract n s.size = seal4 (sumI (s.extract 0 n)) then .tuple #[.string (s.extract 0 n), .int .i64 0] else .tuple #[.string ⟨#[]⟩, .int .i64 4] := by
      unfold openT; rw [if_neg h4, ← hn]
    have HS0 : ∀ w, Calls Try.prog 33 #[.string (s.extract 0 n)] w fun e w' => e = .returned (.int .u32 (sumI (s.extract 0 n))) ∧ Below w.heap.size w w' := fun w => sum_any (s.extract 0 n) w (by rw [ByteArray.size_extract]; omega)
    have hq := sumI_bd (s.extract 0 n)
    generalize sumI (s.extract 0 n) = q at *
    have HB0 := fun w => bytes_any q w hq.1 hq.2
    have HT := keep HT0
    have HS := keep HS0
    have HBY := keep HB0
    clear hn h4 hs HT0 HS0 HB0 hq
    generalize seal4 q = b at *
    by_cases heq : s.extract n s.size = b
    · have hbe := beq_yes heq
      have HT1 : Keep (openT s = .tuple #[.string (s.extract 0 n), .int .i64 0]) := keep (by rw [HT.out, if_pos heq])
      clear heq
      go_enter Try.func28, Try.ntmps28
      go_wp2_with fail
      go_region_with (first | (go_at_call 33; refine (HS.out _).mono ?_; rintro e w1 ⟨rfl, hb⟩; have HB1 := keep hb; clear hb) | (go_at_call 32; refine (HBY.out _).mono ?_; rintro e w2 ⟨rfl, hb⟩; have HB2 := keep hb; clear hb))
      go_wp2_with fail
      go_ret2
      refine ⟨by rw [HT1.out]; rfl, ?_⟩
      exact ((Below.refl _ _).drew.trans HB1.out).trans (HB2.out.mono HB1.out.size)
    · have hbe := beq_no heq
      have HT1 : Keep (openT s = .tuple #[.string ⟨#[]⟩, .int .i64 4]) := keep (by rw [HT.out, if_neg heq])
      clear heq
      go_enter Try.func28, Try.ntmps28
      go_wp2_with fail
      go_region_with (first | (go_at_call 33; refine (HS.out _).mono ?_; rintro e w1 ⟨rfl, hb⟩; have HB1 := keep hb; clear hb) | (go_at_call 32; refine (HBY.out _).mono ?_; rintro e w2 ⟨rfl, hb⟩; have HB2 := keep hb; clear hb))
      go_wp2_with fail
      go_ret2
      refine ⟨by rw [HT1.out]; rfl, ?_⟩
      exact ((Below.refl _ _).drew.trans HB1.out).trans (HB2.out.mono HB1.out.size)
end Go.Proofs.Ytghgahcgbnpidaa
