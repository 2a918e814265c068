/-
  The program's PutInt.
-/
import Derived.Test.YtafeahjhdjcimaaVintC
namespace Go.Proofs.Ytafeahjhdjcimaa
open Go.RowKit

set_option maxHeartbeats 400000 in
theorem putInt_any (s : ByteArray) (n : Int) (w : World) (hs : s.size ≤ 1000) (h0 : -9223372036854775808 ≤ n) (h1 : n ≤ 9223372036854775807) :
    Calls Try.prog 52 #[.string s, .int .i64 n] w fun e w' => e = .returned (.string ⟨(s.data.toList ++ num (zig n).toNat).toArray⟩) ∧ Below w.heap.size w w' := by
  have hz := zig_bd h0 h1
  have HZ := keep hz
  have HC := keep (zig_any n w h0 h1)
  clear hz h0 h1
  go_enter Try.func52, Try.ntmps52
  go_wp2_with fail
  refine HC.out.mono ?_
  rintro e w' ⟨rfl, rfl⟩
  go_wp2_with fail
  refine (put_any s (zig n) w hs HZ.out.1 HZ.out.2).mono ?_
  rintro e w1 ⟨rfl, hb⟩
  have HB := keep hb
  clear hb
  go_wp2_with fail
  go_ret
  exact ⟨rfl, HB.out⟩
end Go.Proofs.Ytafeahjhdjcimaa
