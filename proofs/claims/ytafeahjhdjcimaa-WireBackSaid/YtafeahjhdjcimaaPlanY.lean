/-
  What single operations yield: loads, tests, lengths.
-/
import Derived.Test.YtafeahjhdjcimaaPlan
import Derived.Test.YtafeahjhdjcimaaWireN
namespace Go.Proofs.Ytafeahjhdjcimaa
open Go.RowKit

section
variable {a : Act} {o : Oper} {w : World} {x y : Operand}
theorem yl_int {ad : Addr} {v : Value} (hop : o.op = .load 3 x) (hx : a.eval x = .pointer (some ad)) (hc : w.cell? ad = some v) : (execOp a.eval o).run Try.prog w = .ok (.value v) w := by
  unfold execOp
  rw [hop]
  simp only [hx]
  go_simp
theorem yl_u64 {ad : Addr} {v : Value} (hop : o.op = .load 30 x) (hx : a.eval x = .pointer (some ad)) (hc : w.cell? ad = some v) : (execOp a.eval o).run Try.prog w = .ok (.value v) w := by
  unfold execOp
  rw [hop]
  simp only [hx]
  go_simp
theorem yl_bool {ad : Addr} {v : Value} (hop : o.op = .load 4 x) (hx : a.eval x = .pointer (some ad)) (hc : w.cell? ad = some v) : (execOp a.eval o).run Try.prog w = .ok (.value v) w := by
  unfold execOp
  rw [hop]
  simp only [hx]
  go_simp
theorem yl_str {ad : Addr} {v : Value} (hop : o.op = .load 9 x) (hx : a.eval x = .pointer (some ad)) (hc : w.cell? ad = some v) : (execOp a.eval o).run Try.prog w = .ok (.value v) w := by
  unfold execOp
  rw [hop]
  simp only [hx]
  go_simp
theorem yl_ints {ad : Addr} {v : Value} (hop : o.op = .load 31 x) (hx : a.eval x = .pointer (some ad)) (hc : w.cell? ad = some v) : (execOp a.eval o).run Try.prog w = .ok (.value v) w := by
  unfold execOp
  rw [hop]
  simp only [hx]
  go_simp
theorem ye_int {m n : Int} {b : Bool} (hop : o.op = .binOp .eql 3 x y 3) (hx : a.eval x = .int .i64 m) (hy : a.eval y = .int .i64 n) (h : (m == n) = b) : (execOp a.eval o).run Try.prog w = .ok (.value (.bool b)) w := by
  unfold execOp
  rw [hop]
  simp only [hx, hy]
  go_simp
theorem yn_int {m : Int} (hop : o.op = .binOp .neq 3 x y 3) (hx : a.eval x = .int .i64 m) (hy : a.eval y = .int .i64 m) : (execOp a.eval o).run Try.prog w = .ok (.value (.bool false)) w := by
  unfold execOp
  rw [hop]
  simp only [hx, hy]
  go_simp
theorem yn_u64 {m : Int} (hop : o.op = .binOp .neq 30 x y 30) (hx : a.eval x = .int .u64 m) (hy : a.eval y = .int .u64 m) : (execOp a.eval o).run Try.prog w = .ok (.value (.bool false)) w := by
  unfold execOp
  rw [hop]
  simp only [hx, hy]
  go_simp
theorem yn_bool {m : Bool} (hop : o.op = .binOp .neq 4 x y 4) (hx : a.eval x = .bool m) (hy : a.eval y = .bool m) : (execOp a.eval o).run Try.prog w = .ok (.value (.bool false)) w := by
  unfold execOp
  rw [hop]
  simp only [hx, hy]
  go_simp
theorem yn_str {m : ByteArray} (hop : o.op = .binOp .neq 9 x y 9) (hx : a.eval x = .string m) (hy : a.eval y = .string m) : (execOp a.eval o).run Try.prog w = .ok (.value (.bool false)) w := by
  unfold execOp
  rw [hop]
  simp only [hx, hy]
  go_simp
theorem yc_str {m : ByteArray} (hop : o.op = .call { callee := .builtin .len, args := #[x], argTypes := #[9] }) (hx : a.eval x = .string m) : (execOp a.eval o).run Try.prog w = .ok (.value (.int .i64 m.size)) w := by
  unfold execOp
  rw [hop]
  simp only [resolve, invoke, builtin, List.map_toArray, List.map_cons, List.map_nil, hx]
  go_simp
theorem yc_ints {q : Option Addr} {m c : Nat} (hop : o.op = .call { callee := .builtin .len, args := #[x], argTypes := #[31] }) (hx : a.eval x = .slice q m c) : (execOp a.eval o).run Try.prog w = .ok (.value (.int .i64 m)) w := by
  unfold execOp
  rw [hop]
  simp only [resolve, invoke, builtin, List.map_toArray, List.map_cons, List.map_nil, hx]
  go_simp
end
end Go.Proofs.Ytafeahjhdjcimaa
