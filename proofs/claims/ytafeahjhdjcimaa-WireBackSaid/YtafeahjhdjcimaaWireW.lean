/-
  The program's writer: Raw and what stands on it.
-/
import Derived.Test.YtafeahjhdjcimaaWireS
import Derived.Lib.AppendStr
import Derived.Laws.BytesArg
import Derived.Laws.IdiomStrings
namespace Go.Proofs.Ytafeahjhdjcimaa
open Go.RowKit Go.Joins

theorem infoByte : (Try.prog.info? 5).map (fun i => (i.zero, i.size, i.bytes)) = some (some (.int .u8 0), 1, 1) := by kernel_rfl

/-- All that was there is as it was, but for block b and the rows of bytes that are newer. -/
structure WKept (b : Nat) (w w' : World) : Prop where
  os : w'.os = w.os
  tape : w'.tape = w.tape
  output : w'.output = w.output
  size : w.heap.size ≤ w'.heap.size
  block : ∀ k, k < w.heap.size → k ≠ b → (b < k → ∀ cur, w.heap[k]? ≠ some (.cells cur 5 (0, 0))) → w'.heap[k]? = w.heap[k]?

theorem WKept.refl (b : Nat) (w : World) : WKept b w w := ⟨rfl, rfl, rfl, Nat.le_refl _, fun _ _ _ _ => rfl⟩
theorem WKept.trans {b : Nat} {x y z : World} (h : WKept b x y) (k : WKept b y z) : WKept b x z :=
  ⟨k.os.trans h.os, k.tape.trans h.tape, k.output.trans h.output, Nat.le_trans h.size k.size, fun i hi hn ht => by
    have e := h.block i hi hn ht
    rw [k.block i (Nat.lt_of_lt_of_le hi h.size) hn (by rw [e]; exact ht), e]⟩
theorem WKept.of {b : Nat} {x y : World} (h : Below x.heap.size x y) : WKept b x y := ⟨h.os, h.tape, h.output, h.size, fun i hi _ _ => h.block i hi⟩
theorem WKept.below {b B : Nat} {x y : World} (h : WKept b x y) (hb : B ≤ b) (hB : B ≤ x.heap.size) : Below B x y :=
  ⟨h.os, h.tape, h.output, h.size, fun i hi => h.block i (by omega) (by omega) (fun c => by omega)⟩
theorem WKept.other {b : Nat} {x y : World} (h : WKept b x y) {k : Nat} {cs : Array Value} {t : TypeId} (hk : x.heap[k]? = some (.cells cs t (0, 0))) (hb : k ≠ b) (ht : t ≠ 5) : y.heap[k]? = some (.cells cs t (0, 0)) := by
  rw [h.block k (lt_of_block hk) hb (fun _ cur e => by rw [hk] at e; injection e with e; injection e with e1 e2 e3; exact ht e2)]
  exact hk

/-- The program's writer behind p, nil too: it has written l. -/
structure PW (p : Value) (b : Nat) (l : List UInt8) (w : World) : Prop where
  out : (p = .pointer none ∧ l = []) ∨ (p = .pointer (some ⟨b, 0, none⟩) ∧ ∃ v, w.heap[b]? = some (.cells #[v] 28 (0, 0)) ∧ w.ownsRow (b + 1) 5 1 v l.length (Lib.strCells (str l)))

/-- What a writer has written once t is written: a nil one nothing. -/
def app (p : Value) (l t : List UInt8) : List UInt8 := match p with | .pointer none => l | _ => l ++ t
theorem app_none (l t : List UInt8) : app (.pointer none) l t = l := rfl
theorem app_some (a : Addr) (l t : List UInt8) : app (.pointer (some a)) l t = l ++ t := rfl
theorem PW.app_app {p : Value} {b : Nat} {l : List UInt8} {w : World} (h : PW p b l w) (l' t u : List UInt8) : app p (app p l' t) u = app p l' (t ++ u) := by
  rcases h.out with ⟨rfl, _⟩ | ⟨rfl, _⟩
  · rfl
  · simp [app_some]
theorem PW.app_nil {p : Value} {b : Nat} {l : List UInt8} {w : World} (h : PW p b l w) (l' : List UInt8) : app p l' [] = l' := by
  rcases h.out with ⟨rfl, _⟩ | ⟨rfl, _⟩
  · rfl
  · simp [app_some]
theorem PW.app_len {p : Value} {b : Nat} {l : List UInt8} {w : World} (h : PW p b l w) (l' t : List UInt8) : (app p l' t).length ≤ l'.length + t.length := by
  rcases h.out with ⟨rfl, _⟩ | ⟨rfl, _⟩
  · rw [app_none]; omega
  · rw [app_some, List.length_append]; omega

def WrTo (p : Value) (b : Nat) (l : List UInt8) (w w' : World) : Prop := PW p b l w' ∧ WKept b w w'

theorem PW.kept {p : Value} {b : Nat} {l : List UInt8} {w w' : World} (h : PW p b l w) (hb : Below w.heap.size w w') : PW p b l w' := by
  rcases h.out with h | ⟨hp, v, h1, h2⟩
  · exact ⟨.inl h⟩
  · exact ⟨.inr ⟨hp, v, by rw [hb.block b (lt_of_block h1)]; exact h1, h2.kept (row := none) ⟨hb.os, hb.tape, hb.output, hb.size, fun k hk _ => hb.block k hk⟩ (by cases hv : v.ownBlock <;> simp)⟩⟩

theorem cells_cat (l : List UInt8) (s : ByteArray) : Lib.strCells (str l) ++ Lib.strCells s = Lib.strCells (str (l ++ s.data.toList)) := by
  unfold Lib.strCells; simp [str]

set_option maxHeartbeats 400000 in
theorem raw_w (p : Value) (b : Nat) (l : List UInt8) (s : ByteArray) (w : World) (h : PW p b l w) (hz : l.length + s.size ≤ 1000000) :
    Calls Try.prog 33 #[p, .string s] w fun e w' => e = .returned (.tuple #[]) ∧ WrTo p b (app p l s.data.toList) w w' := by
  rcases h.out with ⟨rfl, rfl⟩ | ⟨rfl, v, hv, hown⟩
  · have H := keep h
    clear h hz
    go_enter Try.func33, Try.ntmps33
    go_wp2_with fail
    go_end0
    exact ⟨rfl, H.out, WKept.refl _ _⟩
  · obtain ⟨i0, hi, hz0, hz1, hz2⟩ := info_parts infoByte
    have c0 := cell_of_one hv
    have f0 := free_of_one hv
    have HO := keep hown
    have HV := keep hv
    have HI := keep hi
    have HZ0 := keep hz0
    have HZ1 := keep hz1
    have HZ2 := keep hz2
    have HLT := keep (lt_of_block hv)
    obtain ⟨n, hn⟩ : ∃ n, n = l.length := ⟨_, rfl⟩
    have HN := keep hn
    rw [← hn] at HO hz
    clear h hv hown hi hz0 hz1 hz2 hn
    go_enter Try.func33, Try.ntmps33
    go_wp2_with (at_builtin; refine Lib.wpList_append_own_string _ rfl _ _ 26 9 rfl (b + 1) 5 i0 Try.underlying26 Try.underlying9 HI.out HZ0.out HZ1.out HZ2.out _ n _ rfl HO.out s rfl ?c1 ?c2 ?c3 ?_)
    case c1 => unfold maxLen; omega
    case c2 => omega
    case c3 => have := HLT.out; omega
    intro v' w1 hown' hgrow _
    obtain ⟨o, m, c, rfl⟩ : ∃ o m c, v' = .slice o m c := by
      rcases ownsRow_forms hown' with ⟨h, _⟩ | ⟨g, cap, h⟩ <;> exact ⟨_, _, _, h⟩
    have hrow : ∀ k, v.ownBlock = some k → b + 1 ≤ k := fun k e => (HO.out.lt k e).1
    have hb1 : w1.heap[b]? = some (.cells #[v] 28 (0, 0)) := (hgrow.block b HLT.out (fun e => by have := hrow b e.symm; omega)).trans HV.out
    have c1 := cell_of_one hb1
    have f1 := free_of_one hb1
    have HB1 := keep hb1
    have HP : Keep (PW (.pointer (some ⟨b, 0, none⟩)) b (l ++ s.data.toList) (w1.setCell ⟨b, 0, none⟩ (.slice o m c))) := ⟨⟨.inr ⟨rfl, _, one_setCell hb1, by
      rw [← cells_cat, List.length_append, ← HN.out, ← size_list]
      exact ownsRow_setCell_below hown' (by show b < b + 1; omega) _⟩⟩⟩
    have HK : Keep (WKept b w (w1.setCell ⟨b, 0, none⟩ (.slice o m c))) := ⟨hgrow.os, hgrow.tape, hgrow.output, by show w.heap.size ≤ (w1.heap.modify _ _).size; simpa using hgrow.size, fun k hk hn ht => by
      rw [Below.heap_setCell _ _ _ _ (by show k ≠ b; exact hn)]
      refine hgrow.block k hk (fun e => ?_)
      have hbk := hrow k e.symm
      rcases HO.out.2 with ⟨rfl, _⟩ | ⟨g, cap, cur, rfl, _, hg, _⟩
      · cases e
      · have e' : k = g := by simpa [Value.ownBlock] using e
        subst e'
        exact ht (by omega) cur hg⟩
    clear hown' hgrow hrow hb1 c0 f0
    go_wp2_with fail
    go_end0
    exact ⟨rfl, HP.out, HK.out⟩

theorem num_w (p : Value) (b : Nat) (l : List UInt8) (u : Int) (w : World) (h : PW p b l w) (hz : l.length + 11 ≤ 1000000) (h0 : 0 ≤ u) (h1 : u < 18446744073709551616) :
    Calls Try.prog 28 #[p, .int .u64 u] w fun e w' => e = .returned (.tuple #[]) ∧ WrTo p b (app p l (num u.toNat)) w w' := by
  have HC := keep (put_any ⟨#[]⟩ u w (by decide) h0 h1)
  have HL := keep (num_len u.toNat)
  have H := keep h
  clear h h0 h1
  go_enter Try.func28, Try.ntmps28
  go_wp2_with fail
  refine HC.out.mono ?_
  rintro e w1 ⟨rfl, hb⟩
  have HB := keep hb
  clear hb
  simp only [List.nil_append]
  go_wp2_with fail
  refine (raw_w p b l ⟨(num u.toNat).toArray⟩ w1 (H.out.kept HB.out) (by have := HL.out; show l.length + (num u.toNat).toArray.size ≤ 1000000; simp; omega)).mono ?_
  rintro e w2 ⟨rfl, hR⟩
  have HR := keep hR
  clear hR
  go_wp2_with fail
  go_end0
  exact ⟨rfl, HR.out.1, (WKept.of HB.out).trans HR.out.2⟩

/-- An int's bytes. -/
def intB (n : Int) : List UInt8 := num (zig n).toNat
theorem intB_len (n : Int) : (intB n).length ≤ 11 := (num_len _).2

theorem int_w (p : Value) (b : Nat) (l : List UInt8) (n : Int) (w : World) (h : PW p b l w) (hz : l.length + 11 ≤ 1000000) (h0 : -9223372036854775808 ≤ n) (h1 : n ≤ 9223372036854775807) :
    Calls Try.prog 25 #[p, .int .i64 n] w fun e w' => e = .returned (.tuple #[]) ∧ WrTo p b (app p l (intB n)) w w' := by
  have HC := keep (putInt_any ⟨#[]⟩ n w (by decide) h0 h1)
  have HL := keep (intB_len n)
  have H := keep h
  clear h h0 h1
  unfold intB at *
  go_enter Try.func25, Try.ntmps25
  go_wp2_with fail
  refine HC.out.mono ?_
  rintro e w1 ⟨rfl, hb⟩
  have HB := keep hb
  clear hb
  simp only [List.nil_append]
  go_wp2_with fail
  refine (raw_w p b l ⟨(num (zig n).toNat).toArray⟩ w1 (H.out.kept HB.out) (by have := HL.out; show l.length + (num (zig n).toNat).toArray.size ≤ 1000000; simp; omega)).mono ?_
  rintro e w2 ⟨rfl, hR⟩
  have HR := keep hR
  clear hR
  go_wp2_with fail
  go_end0
  exact ⟨rfl, HR.out.1, (WKept.of HB.out).trans HR.out.2⟩

def boolB (b : Bool) : List UInt8 := if b then [1] else [0]

theorem bool_w (p : Value) (b : Nat) (l : List UInt8) (x : Bool) (w : World) (h : PW p b l w) (hz : l.length + 1 ≤ 1000000) :
    Calls Try.prog 27 #[p, .bool x] w fun e w' => e = .returned (.tuple #[]) ∧ WrTo p b (app p l (boolB x)) w w' := by
  have H := keep h
  clear h
  cases x
  · have hcv := byte_of_cell _ _ _ (cell_new1 w (.int .u8 0) 5)
    go_enter Try.func27, Try.ntmps27
    go_wp2_with fail
    refine (raw_w p b l (strOfNums [0]) (w.alloc (.cells #[.int .u8 0] 5)) (H.out.kept (below_alloc1 _ _)) (by show l.length + 1 ≤ 1000000; omega)).mono ?_
    rintro e w2 ⟨rfl, hR⟩
    have HR := keep hR
    clear hR
    go_wp2_with fail
    go_end0
    exact ⟨rfl, HR.out.1, (WKept.of (below_alloc1 _ _)).trans HR.out.2⟩
  · have hcv := byte_of_cell _ _ _ (cell_new1 w (.int .u8 1) 5)
    go_enter Try.func27, Try.ntmps27
    go_wp2_with fail
    refine (raw_w p b l (strOfNums [1]) (w.alloc (.cells #[.int .u8 1] 5)) (H.out.kept (below_alloc1 _ _)) (by show l.length + 1 ≤ 1000000; omega)).mono ?_
    rintro e w2 ⟨rfl, hR⟩
    have HR := keep hR
    clear hR
    go_wp2_with fail
    go_end0
    exact ⟨rfl, HR.out.1, (WKept.of (below_alloc1 _ _)).trans HR.out.2⟩

/-- A text's bytes. -/
def textB (s : ByteArray) : List UInt8 := num s.size ++ s.data.toList

theorem text_w (p : Value) (b : Nat) (l : List UInt8) (s : ByteArray) (w : World) (h : PW p b l w) (hz : l.length + 11 + s.size ≤ 1000000) :
    Calls Try.prog 26 #[p, .string s] w fun e w' => e = .returned (.tuple #[]) ∧ WrTo p b (app p l (textB s)) w w' := by
  have HC := keep (num_w p b l (s.size : Int) w h (by omega) (by omega) (by omega))
  rw [Int.toNat_natCast] at HC
  have HL := keep (h.app_len l (num s.size))
  have HL2 := keep (num_len s.size)
  have HA : Keep (app p (app p l (num s.size)) s.data.toList = app p l (textB s)) := ⟨h.app_app _ _ _⟩
  have hw : IntKind.u64.wrap (s.size : Int) = s.size := by rw [IntKind.wrap_u64]; omega
  have hm : s.size ≤ 1000000 := by omega
  clear h
  go_enter Try.func26, Try.ntmps26
  go_wp2_with fail
  refine HC.out.mono ?_
  rintro e w1 ⟨rfl, hR⟩
  have HR := keep hR
  clear hR
  go_wp2_with fail
  refine (raw_w p b _ s w1 HR.out.1 (by have := HL.out; have := HL2.out; omega)).mono ?_
  rintro e w2 ⟨rfl, hR⟩
  rw [HA.out] at hR
  have HR2 := keep hR
  clear hR
  go_wp2_with fail
  go_end0
  exact ⟨rfl, HR2.out.1, HR.out.2.trans HR2.out.2⟩

theorem bytes_w (p : Value) (b : Nat) (l : List UInt8) (w : World) (h : PW p b l w) :
    Calls Try.prog 10 #[p] w fun e w' => e = .returned (.string (str l)) ∧ w = w' := by
  rcases h.out with ⟨rfl, rfl⟩ | ⟨rfl, v, hv, hown⟩
  · clear h
    go_enter Try.func10, Try.ntmps10
    go_wp2_with fail
    go_ret
    exact ⟨rfl, rfl⟩
  · have c0 := cell_of_one hv
    rcases ownsRow_forms hown with ⟨rfl, h0⟩ | ⟨g, cap, rfl⟩
    · have hcv := run_convert_bytes_nil (P := Try.prog) w 26 5 Try.underlying26 Try.underlying5 0 0 9 Try.underlying9
      obtain rfl : l = [] := List.length_eq_zero_iff.1 h0
      clear h hv hown h0
      go_enter Try.func10, Try.ntmps10
      go_wp2_with fail
      go_ret
      exact ⟨rfl, rfl⟩
    · have hcv := run_convert_bytes_back (P := Try.prog) w 26 9 5 ⟨g, 0, none⟩ cap l Try.underlying26 Try.underlying5 Try.underlying9 (fun j hj => hown.cells (g := g) rfl j _ (by
        unfold Lib.strCells
        rw [str_data, List.getElem?_map, List.getElem?_eq_getElem hj]; rfl))
      clear h hv hown
      go_enter Try.func10, Try.ntmps10
      go_wp2_with fail
      go_ret
      exact ⟨rfl, rfl⟩
end Go.Proofs.Ytafeahjhdjcimaa
