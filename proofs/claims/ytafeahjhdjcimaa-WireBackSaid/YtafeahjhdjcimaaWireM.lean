/-
  What reads make of bytes and of an error: plain mathematics. A reader is what is left and what is wrong.
-/
import Derived.Test.YtafeahjhdjcimaaVintI
namespace Go.Proofs.Ytafeahjhdjcimaa
open Go.RowKit

/-- A text out of a list of bytes. -/
def str (l : List UInt8) : ByteArray := ⟨l.toArray⟩
theorem str_data (l : List UInt8) : (str l).data.toList = l := rfl
theorem str_size (l : List UInt8) : (str l).size = l.length := by unfold str; simp [ByteArray.size]
theorem str_eta (s : ByteArray) : str s.data.toList = s := by cases s; simp [str]
theorem str_of {s : ByteArray} {l : List UInt8} (h : s.data.toList = l) : s = str l := by rw [← h, str_eta]
theorem str_inj {a b : List UInt8} (h : str a = str b) : a = b := by rw [← str_data a, h, str_data]

theorem getL_three : ∀ (l : List UInt8) (k u : Nat), ((getL l k u).2.2 = 0 ∧ 1 ≤ (getL l k u).2.1 ∧ k + 1 ≤ (getL l k u).2.1 ∧ (getL l k u).2.1 ≤ k + l.length) ∨ ((getL l k u).2.2 ≠ 0 ∧ getL l k u = (0, 0, (getL l k u).2.2) ∧ ((getL l k u).2.2 = 2 ∨ (getL l k u).2.2 = 3))
  | [], k, u => by right; simp [getL]
  | b :: r, k, u => by
    unfold getL
    split
    · right; simp
    · split
      · left; simp <;> omega
      · rcases getL_three r (k + 1) (u + b.toNat % 128 * 128 ^ k) with ⟨h0, h1, h2, h3⟩ | ⟨h0, h1, h2⟩
        · left; refine ⟨h0, h1, by omega, ?_⟩; simp only [List.length_cons]; omega
        · right; exact ⟨h0, h1, h2⟩

/-- The number at the head: its value, what is behind it, what is wrong. -/
def headU (l : List UInt8) : Nat := (getL l 0 0).1
def headL (l : List UInt8) : List UInt8 := l.drop (getL l 0 0).2.1
def headE (l : List UInt8) : Nat := (getL l 0 0).2.2

theorem headE_bad {l : List UInt8} (h : headE l ≠ 0) : headU l = 0 ∧ headL l = l ∧ (headE l = 2 ∨ headE l = 3) := by
  rcases getL_three l 0 0 with ⟨h0, _⟩ | ⟨_, h1, h2⟩
  · exact absurd h0 h
  · unfold headU headL headE
    rw [h1]
    exact ⟨rfl, rfl, h2⟩
theorem headL_lt {l : List UInt8} (h : headE l = 0) : (headL l).length + 1 ≤ l.length := by
  rcases getL_three l 0 0 with ⟨h0, h1, h2, h3⟩ | ⟨h0, _⟩
  · unfold headL; rw [List.length_drop]; omega
  · exact absurd h h0
theorem headU_bd (l : List UInt8) : headU l < 18446744073709551616 := getL_bd l 0 0 (by simp) (by omega)
theorem headU_bdI (l : List UInt8) : 0 ≤ (headU l : Int) ∧ (headU l : Int) < 18446744073709551616 := by have := headU_bd l; omega

/-! ### The reads: what is told, what is left, what is wrong -/
abbrev Rd := List UInt8 × Int
def numV (l : List UInt8) (f : Int) : Nat := if f = 0 then headU l else 0
def numS (l : List UInt8) (f : Int) : Rd := if f = 0 then (headL l, (headE l : Int)) else (l, f)

def rawV (n : Int) (l : List UInt8) (f : Int) : List UInt8 := if f = 0 ∧ 0 ≤ n ∧ n ≤ l.length then l.take n.toNat else []
def rawS (n : Int) (l : List UInt8) (f : Int) : Rd := if f = 0 then (if n < 0 then (l, 1) else if n ≤ l.length then (l.drop n.toNat, 0) else (l, 2)) else (l, f)

def uptoV (m : Int) (l : List UInt8) (f : Int) : Int := if f = 0 ∧ headE l = 0 ∧ (headU l : Int) ≤ m then headU l else 0
def uptoS (m : Int) (l : List UInt8) (f : Int) : Rd := if f = 0 then (if headE l = 0 then (if (headU l : Int) ≤ m then (headL l, 0) else (l, 6)) else (l, (headE l : Int))) else (l, f)

def boolV (l : List UInt8) (f : Int) : Bool := decide (f = 0 ∧ l.head? = some 1)
def boolS (l : List UInt8) (f : Int) : Rd := if f = 0 then (match l with | [] => ([], 2) | b :: r => if b.toNat ≤ 1 then (r, 0) else (l, 3)) else (l, f)

def textV (m : Int) (l : List UInt8) (f : Int) : List UInt8 := rawV (uptoV m l f) (uptoS m l f).1 (uptoS m l f).2
def textS (m : Int) (l : List UInt8) (f : Int) : Rd := rawS (uptoV m l f) (uptoS m l f).1 (uptoS m l f).2

/-- So many ints: all of them or none; what is left; what is wrong. -/
def intsT : Nat → List UInt8 → Option (List Int) × Rd
  | 0, l => (some [], (l, 0))
  | n + 1, l => if headE l = 0 then ((intsT n (headL l)).1.map (zag (headU l) :: ·), (intsT n (headL l)).2) else (none, (l, (headE l : Int)))
def intsV (m : Int) (l : List UInt8) (f : Int) : List Int := if (uptoS m l f).2 = 0 then (intsT (uptoV m l f).toNat (uptoS m l f).1).1.getD [] else []
def intsS (m : Int) (l : List UInt8) (f : Int) : Rd := if (uptoS m l f).2 = 0 then (intsT (uptoV m l f).toNat (uptoS m l f).1).2 else uptoS m l f

def failS (e : Int) (l : List UInt8) (f : Int) : Rd := if f = 0 then (l, e) else (l, f)
def endV (l : List UInt8) (f : Int) : Int := if f = 0 ∧ 0 < l.length then 3 else f

theorem uptoV_bd (m : Int) (l : List UInt8) (f : Int) (hm : m ≤ 9223372036854775807) : 0 ≤ uptoV m l f ∧ uptoV m l f ≤ 9223372036854775807 := by
  unfold uptoV; split <;> omega
end Go.Proofs.Ytafeahjhdjcimaa
