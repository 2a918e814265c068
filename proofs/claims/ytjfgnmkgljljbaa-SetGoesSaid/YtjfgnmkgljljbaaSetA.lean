/-
  Sets: two things held against one another; a tree's size; joining.
-/
import Derived.Test.YtjfgnmkgljljbaaProg
import Derived.Test.YtjfgnmkgljljbaaSetM
import Derived.Test.YtjfgnmkgljljbaaAny
import Derived.Deep.Cut
import Derived.Deep.QuietTactic
import Derived.BigQuiet
namespace Go.Proofs.Ytjfgnmkgljljbaa
open Go.RowKit

abbrev EV : Int → Value := Value.int .i64
abbrev IsT (w : World) (p : Option Addr) (T : BT Int) : Prop := IsTree EV 58 w p T
abbrev NdAt (w : World) (b : Nat) (pl : Option Addr) (v : Int) (pr : Option Addr) (k : Nat) : Prop := NodeAt EV 58 w b pl v pr k
abbrev TT (w : World) (l : List Int) (e : Ending) (w' : World) : Prop := TTo EV 58 w l e w'
abbrev lt' : Int → Int → Bool := ltI
abbrev hlt' : Lin lt' := ltI_lin

theorem isnan_any (x : Int) (w : World) : Calls Try.prog 43 #[EV x] w fun e w' => e = .returned (.bool false) ∧ w = w' := by
  go_enter Try.func43, Try.ntmps43
  go_wp2
  go_ret
  exact ⟨ret_bool (by simp), rfl⟩

theorem less_any (x y : Int) (w : World) : Calls Try.prog 31 #[EV x, EV y] w fun e w' => e = .returned (.bool (lt' x y)) ∧ w = w' := by
  have HN := keep (isnan_any x)
  go_enter Try.func31, Try.ntmps31
  go_wp2_with fail
  refine (HN.out _).mono ?_
  rintro e w' ⟨rfl, rfl⟩
  go_wp2_with fail
  go_ret
  exact ⟨rfl, rfl⟩

-- held against one another
theorem comp_any (x y : Int) (w : World) : Calls Try.prog 29 #[EV x, EV y] w fun e w' => (∃ n : Int, e = .returned (.int .i64 n) ∧ (n < 0 ∧ lt' x y = true ∨ 0 < n ∧ lt' y x = true ∨ n = 0 ∧ x = y)) ∧ w = w' := by
  have HN := keep (isnan_any x)
  have HN2 := keep (isnan_any y)
  cases h1 : lt' x y
  · cases h2 : lt' y x
    · have e := hlt'.tri x y h1 h2
      subst e
      go_enter Try.func29, Try.ntmps29
      go_wp2_with fail
      refine (HN.out _).mono ?_
      rintro e w' ⟨rfl, rfl⟩
      go_wp2_with fail
      refine (HN2.out _).mono ?_
      rintro e w' ⟨rfl, rfl⟩
      go_wp2_with fail
      go_ret
      exact ⟨⟨0, rfl, by simp⟩, by trivial⟩
    · have h1' : decide (x < y) = false := h1
      have h2' : decide (y < x) = true := h2
      have h2I : y < x := by simpa using h2'
      go_enter Try.func29, Try.ntmps29
      go_wp2_with fail
      refine (HN.out _).mono ?_
      rintro e w' ⟨rfl, rfl⟩
      go_wp2_with fail
      refine (HN2.out _).mono ?_
      rintro e w' ⟨rfl, rfl⟩
      go_wp2_with fail
      go_ret
      exact ⟨⟨1, rfl, by simp⟩, by trivial⟩
  · have h1' : decide (x < y) = true := h1
    have h1I : x < y := by simpa using h1'
    go_enter Try.func29, Try.ntmps29
    go_wp2_with fail
    refine (HN.out _).mono ?_
    rintro e w' ⟨rfl, rfl⟩
    go_wp2_with fail
    refine (HN2.out _).mono ?_
    rintro e w' ⟨rfl, rfl⟩
    go_wp2_with fail
    go_ret
    exact ⟨⟨-1, rfl, by simp⟩, by trivial⟩

-- trees
theorem size_any {p : Option Addr} {T : BT Int} {w : World} (h : IsT w p T) :
    Calls Try.prog 32 #[.pointer p] w fun e w' => e = .returned (.int .i64 (T.row.length : Int)) ∧ w = w' := by
  cases T with
  | leaf =>
    obtain rfl : p = none := h
    go_enter Try.func32, Try.ntmps32
    go_wp2
    go_ret
    exact ⟨rfl, rfl⟩
  | node L v R =>
    obtain ⟨b, pl, pr, rfl, hb, -, -⟩ := h
    obtain ⟨-, -, -, c3⟩ := hb.cells
    have HE : Keep (((L.row.length + 1 + R.row.length : Nat) : Int) = ((BT.node L v R).row.length : Int)) := ⟨by simp [BT.row]; omega⟩
    generalize L.row.length + 1 + R.row.length = k at *
    clear hb
    go_enter Try.func32, Try.ntmps32
    go_wp2
    go_ret
    exact ⟨ret_int HE.out, rfl⟩

theorem weight_any {p : Option Addr} {T : BT Int} {w : World} (h : IsT w p T) (hn : T.row.length ≤ 1000000) :
    Calls Try.prog 48 #[.pointer p] w fun e w' => e = .returned (.int .i64 ((T.row.length : Int) + 1)) ∧ w = w' := by
  have HS := keep (size_any h)
  generalize T.row.length = k at *
  have hkI : (k : Int) ≤ 1000000 := by omega
  have hk0 : (0 : Int) ≤ (k : Int) := by omega
  clear h hn
  go_enter Try.func48, Try.ntmps48
  go_wp2_with fail
  refine HS.out.mono ?_
  rintro e w' ⟨rfl, rfl⟩
  go_wp2_with fail
  go_ret
  exact ⟨rfl, rfl⟩

theorem join_any {pl pr : Option Addr} {L R : BT Int} {w : World} (x : Int) (hl : IsT w pl L) (hr : IsT w pr R) (hn : (L.row ++ x :: R.row).length ≤ 1000000) :
    Calls Try.prog 40 #[.pointer pl, EV x, .pointer pr] w fun e w' => (∃ p, e = .returned (.pointer p) ∧ IsT w' p (.node L x R)) ∧ Below w.heap.size w w' := by
  have HS := keep (size_any hl)
  have HS2 := keep (size_any hr)
  have HE : Keep (∀ k : Int, k = ((L.row.length + 1 + R.row.length : Nat) : Int) → IsT (w.alloc (.cells #[.pointer pl, .pointer pr, EV x, .int .i64 k] 58)) (some ⟨w.heap.size, 0, none⟩) (.node L x R)) := ⟨fun k hk => hl.new hr x k hk⟩
  have hn' : L.row.length + 1 + R.row.length ≤ 1000000 := by rw [List.length_append, List.length_cons] at hn; omega
  generalize L.row.length = a at *
  generalize R.row.length = b at *
  have ha : (a : Int) ≤ 1000000 := by omega
  have hb : (b : Int) ≤ 1000000 := by omega
  have ha0 : (0 : Int) ≤ (a : Int) := by omega
  have hb0 : (0 : Int) ≤ (b : Int) := by omega
  clear hl hr hn hn'
  go_enter Try.func40, Try.ntmps40
  go_wp2_with fail
  refine HS.out.mono ?_
  rintro e w' ⟨rfl, rfl⟩
  go_wp2_with fail
  refine HS2.out.mono ?_
  rintro e w' ⟨rfl, rfl⟩
  go_wp2_with fail
  go_ret
  exact ⟨⟨_, rfl, HE.out _ (by omega)⟩, (Below.refl _ w).alloc (Nat.le_refl _) _⟩
end Go.Proofs.Ytjfgnmkgljljbaa
