/-
  strconv.Atoi at up to 18 digits.
-/
import Derived.Test.YtglmcjplglgnlaaTokE
import Derived.Lib.ConvBytes
import Derived.Lib.SmallJoins
namespace Go.Proofs.Ytglmcjplglgnlaa
open Go.RowKit Go.Joins

theorem digits_at {l : List UInt8} (h : ∀ b ∈ l, isD (ob b) = true) {k : Nat} {b : UInt8} (hk : l[k]? = some b) : 48 ≤ ob b ∧ ob b ≤ 57 := isD_bd (h b (List.mem_of_getElem? hk))
theorem worth_take_bd {l : List UInt8} (h : ∀ b ∈ l, isD (ob b) = true) (hl : l.length ≤ 18) (k : Nat) (hk : k < l.length) : 0 ≤ worth (l.take k) ∧ worth (l.take k) < 100000000000000000 := by
  have hlen : (l.take k).length = k := by rw [List.length_take]; omega
  have h1 := worth_bd k (l.take k) hlen (fun b hb => h b (List.mem_of_mem_take hb))
  have h2 : (10 : Int) ^ k ≤ 10 ^ 17 := by
    have : (10 : Nat) ^ k ≤ 10 ^ 17 := Nat.pow_le_pow_right (by decide) (by omega)
    exact_mod_cast this
  exact ⟨h1.1, Int.lt_of_lt_of_le h1.2 h2⟩

end Go.Proofs.Ytglmcjplglgnlaa
