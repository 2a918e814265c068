/-
  For every list of parts, retracelaw03.WireWrites answers true, and what it is given reads as before. No condition.
-/
import Derived.Test.YtafeahjhdjcimaaRows
import Derived.Test.YtafeahjhdjcimaaWireQ
namespace Go.Proofs.Ytafeahjhdjcimaa.wireWrites
open Go.ChangeShapes Go.WideShapes Go.ChangeAt Go.RowKit Go.Joins

theorem own : ownKnob Try.prog.godebug = none := by kernel_rfl

/-- The bytes of the first k parts. -/
def cat (ps : Nat → Pt) : Nat → List UInt8
  | 0 => []
  | k + 1 => cat ps k ++ partB (ps k)
theorem cat_len (n : Nat) (ps : Nat → Pt) (h : Short n ps) : ∀ k, k ≤ n → (cat ps k).length ≤ 700 * k
  | 0, _ => by simp [cat]
  | k + 1, hk => by
    have := cat_len n ps h k (by omega)
    have := partB_len (ps k) (h.2 k (by omega)).1 (h.2 k (by omega)).2
    rw [cat, List.length_append]; omega

/-- The writer at the head of a round. -/
structure At (p : Value) (b : Nat) (l : List UInt8) (w wr : World) : Prop where
  pw : PW p b l wr
  below : Below w.heap.size w wr
  lt : b < wr.heap.size

theorem At.step {p : Value} {b : Nat} {l l' : List UInt8} {w wr w1 : World} (h : At p b l w wr) (hb : WrTo p b l' wr w1) (hB : w.heap.size ≤ b) : At p b l' w w1 :=
  ⟨hb.1, h.below.trans (hb.2.below hB h.below.size), Nat.lt_of_lt_of_le h.lt hb.2.size⟩
theorem At.to {p : Value} {b : Nat} {l : List UInt8} {w wr w1 : World} (h : At p b l w wr) (hb : Below wr.heap.size wr w1) : At p b l w w1 :=
  ⟨h.pw.kept hb, h.below.trans (hb.mono h.below.size), Nat.lt_of_lt_of_le h.lt hb.size⟩
theorem full {w w' : World} (h : WKept (w.heap.size + 1) w w') : Below w.heap.size w w' := h.below (by omega) (Nat.le_refl _)

/-- The six cells of a part, as the walk spells them. -/
theorem six_of {w : World} {b off k : Nat} {a : Pt} (h : PtCells w b off k a) : w.cell? ⟨b, off + k * 6, none⟩ = some (.int .i64 a.K) ∧ w.cell? ⟨b, off + k * 6 + 1, none⟩ = some (.int .u64 a.U) ∧ w.cell? ⟨b, off + k * 6 + 2, none⟩ = some (.int .i64 a.N) ∧ w.cell? ⟨b, off + k * 6 + 3, none⟩ = some (.bool a.B) ∧ w.cell? ⟨b, off + k * 6 + 4, none⟩ = some (.string a.S) ∧ w.cell? ⟨b, off + k * 6 + 5, none⟩ = some a.v :=
  ⟨h.c0, h.c1, h.c2, h.c3, h.c4, h.c5⟩

set_option maxHeartbeats 4000000 in
theorem walk_none (o : Option Addr) (cap : Nat) (ps : Nat → Pt) (w : World) (h : Parts w.heap.size w (.slice o 0 cap) 0 ps) :
    Calls Try.prog 3 #[.slice o 0 cap] w fun e w' => e = .returned (.bool true) ∧ Below w.heap.size w w' := by
  have HLONG := keep (long_any _ _ 0 ps w h)
  clear h
  go_enter Try.func3, Try.ntmps3
  go_wp2_with fail
  refine HLONG.out.mono ?_
  rintro e w' ⟨x, rfl, hx, rfl⟩
  cases x
  · have HSH := keep (hx rfl)
    clear hx
    go_wp2_with fail
    have HAT0 : Keep (At (.pointer (some ⟨w.heap.size, 0, none⟩)) w.heap.size [] w (w.alloc (.cells #[.slice none 0 0] 28))) := ⟨⟨⟨.inr ⟨rfl, _, heap_alloc_new w _, World.ownsRow_nil _ _ _ _⟩⟩, below_alloc1 w _, by simp⟩⟩
    have HAT := HAT0
    generalize w.alloc (.cells #[.slice none 0 0] 28) = wr at *
    clear HAT0
    rw [show ([] : List UInt8) = cat ps 0 from rfl] at HAT
    refine wp_loop_rounds 1 ?_
    rw [rounds_succ]
    have hs0 : (⟨#[]⟩ : ByteArray) = str (cat ps 0) := rfl
    rw [hs0]
    clear hs0
    have HB := keep (bytes_w (.pointer (some ⟨w.heap.size, 0, none⟩)) w.heap.size (cat ps 0) wr HAT.out.pw)
    have HB0 : Keep (Calls Try.prog 10 #[.pointer none] wr fun e w' => e = .returned (.string ⟨#[]⟩) ∧ wr = w') := ⟨bytes_w (.pointer none) 0 [] wr ⟨.inl ⟨rfl, rfl⟩⟩⟩
    generalize str (cat ps 0) = s at *
    go_wp2_with fail
    refine HB.out.mono ?_
    rintro e w' ⟨rfl, rfl⟩
    go_wp2_with fail
    refine HB0.out.mono ?_
    rintro e w' ⟨rfl, rfl⟩
    go_wp2_with fail
    refine (live_any wr).mono ?_
    rintro e w3 ⟨rfl, hb3⟩
    have HB3 := keep (HAT.out.below.trans (hb3.mono HAT.out.below.size))
    clear hb3
    go_wp2_with fail
    go_ret
    exact ⟨rfl, HB3.out⟩
  · clear hx
    go_wp2_with fail
    refine (live_any w).mono ?_
    rintro e w1 ⟨rfl, hb⟩
    have HB := keep hb
    clear hb
    go_wp2_with fail
    go_ret
    exact ⟨rfl, HB.out⟩

set_option maxHeartbeats 4000000 in
theorem walk_some (b off n cap : Nat) (ps : Nat → Pt) (w : World) (h : Parts w.heap.size w (.slice (some ⟨b, off, none⟩) n cap) n ps) (hb : b < w.heap.size) (hc : ∀ i, i < n → PtCells w b off i (ps i) ∧ PtOk w.heap.size w (ps i)) :
    Calls Try.prog 3 #[.slice (some ⟨b, off, none⟩) n cap] w fun e w' => e = .returned (.bool true) ∧ Below w.heap.size w w' := by
  have HLONG := keep (long_any _ _ n ps w h)
  have HC := keep hc
  have hmI : (n : Int) ≤ 9223372036854775807 := by have := h.room; omega
  clear h hc
  go_enter Try.func3, Try.ntmps3
  go_wp2_with fail
  refine HLONG.out.mono ?_
  rintro e w' ⟨x, rfl, hx, rfl⟩
  cases x
  · have HSH := keep (hx rfl)
    clear hx
    go_wp2_with fail
    have HAT0 : Keep (At (.pointer (some ⟨w.heap.size, 0, none⟩)) w.heap.size [] w (w.alloc (.cells #[.slice none 0 0] 28))) := ⟨⟨⟨.inr ⟨rfl, _, heap_alloc_new w _, World.ownsRow_nil _ _ _ _⟩⟩, below_alloc1 w _, by simp⟩⟩
    have HCL := keep (cat_len n ps HSH.out)
    go_loopw [5, 6] (fun s i wr => ∃ k : Nat, i = .int .i64 k ∧ s = .string (str (cat ps k)) ∧ k ≤ n ∧ Keep (At (.pointer (some ⟨w.heap.size, 0, none⟩)) w.heap.size (cat ps k) w wr)) (fun _ i _ => n - (intOf i).toNat)
    case atStart => exact ⟨0, rfl, rfl, Nat.zero_le _, HAT0⟩
    case round =>
      obtain ⟨k, rfl, rfl, hk, HAT⟩ := hrel
      by_cases hlt : k < n
      · obtain ⟨hcs, hok⟩ := HC.out k hlt
        have hsh := HSH.out.2 k hlt
        have h40 := HSH.out.1
        have hcl := HCL.out k hk
        have HW := keep (write_any (.pointer (some ⟨w.heap.size, 0, none⟩)) w.heap.size w.heap.size (cat ps k) (ps k) wr HAT.out.pw (by have := HAT.out.lt; omega) (Nat.le_refl _) HAT.out.below.size (by omega) (hok.below HAT.out.below) hsh.1 hsh.2)
        have HW0 := keep (fun W (hW : Below w.heap.size w W) => write_any (.pointer none) (W.heap.size + 1) w.heap.size [] (ps k) W ⟨.inl ⟨rfl, rfl⟩⟩ (by omega) (by have := hW.size; omega) hW.size (by simp) (hok.below hW) hsh.1 hsh.2)
        have HSIX := keep (fun W (hW : Below w.heap.size w W) => six_of (hcs.below hW hb))
        obtain ⟨c0, c1, c2, c3, c4, c5⟩ := six_of (hcs.below HAT.out.below hb)
        obtain ⟨so, sc, hv⟩ := hok.l.form
        have hz1 : (str (cat ps k)).size ≤ 100000 := by rw [str_size]; omega
        have hz2 : (str (partB (ps k))).size ≤ 700 := by rw [str_size]; exact partB_len (ps k) hsh.1 hsh.2
        have HE : Keep (str (cat ps k) ++ str (partB (ps k)) = str (cat ps (k + 1))) := ⟨by rw [str_cat, str_data]; rfl⟩
        have HA : Keep (app (.pointer (some ⟨w.heap.size, 0, none⟩)) (cat ps k) (partB (ps k)) = cat ps (k + 1)) := ⟨rfl⟩
        unfold Pt.agg WriteTo at HW HW0
        rw [hv] at c5 HW HW0 HSIX
        rw [HA.out] at HW
        clear hcs hok hv hsh hcl h40 HA
        generalize hcat : cat ps (k + 1) = l1 at *
        generalize str (cat ps k) = s0 at *
        generalize str (partB (ps k)) = t0 at *
        generalize (ps k).L.length = sl at *
        generalize (ps k).K = K at *
        generalize (ps k).U = U at *
        generalize (ps k).N = N at *
        generalize (ps k).B = Bl at *
        generalize (ps k).S = S at *
        have HCAT := keep hcat
        clear hcat
        have hltI : (k : Int) < n := by omega
        go_wp2_with fail
        refine HW.out.mono ?_
        rintro e w2 ⟨rfl, hW⟩
        have HAT2 := keep (HAT.out.step hW (Nat.le_refl _))
        obtain ⟨d0, d1, d2, d3, d4, d5⟩ := HSIX.out w2 HAT2.out.below
        have HW2 := keep (HW0.out w2 HAT2.out.below)
        clear hW c0 c1 c2 c3 c4 c5
        go_wp2_with fail
        refine HW2.out.mono ?_
        rintro e w3 ⟨rfl, hW⟩
        have HAT3 := keep (HAT2.out.to (full hW.2))
        clear hW d0 d1 d2 d3 d4 d5
        go_wp2_with fail
        go_roundw
        case rel => exact ⟨k + 1, by go_num, by rw [HE.out, HCAT.out], by omega, by rw [HCAT.out]; exact HAT3⟩
        case measure => simp [intOf]; omega
      · obtain rfl : k = n := by omega
        have HB := keep (bytes_w (.pointer (some ⟨w.heap.size, 0, none⟩)) w.heap.size (cat ps k) wr HAT.out.pw)
        have HB0 : Keep (Calls Try.prog 10 #[.pointer none] wr fun e w' => e = .returned (.string ⟨#[]⟩) ∧ wr = w') := ⟨bytes_w (.pointer none) 0 [] wr ⟨.inl ⟨rfl, rfl⟩⟩⟩
        generalize str (cat ps k) = s at *
        go_wp2_with fail
        refine HB.out.mono ?_
        rintro e w' ⟨rfl, rfl⟩
        go_wp2_with fail
        refine HB0.out.mono ?_
        rintro e w' ⟨rfl, rfl⟩
        go_wp2_with fail
        refine (live_any wr).mono ?_
        rintro e w3 ⟨rfl, hb3⟩
        have HB3 := keep (HAT.out.below.trans (hb3.mono HAT.out.below.size))
        clear hb3
        go_wp2_with fail
        go_ret
        exact ⟨rfl, HB3.out⟩
  · clear hx
    go_wp2_with fail
    refine (live_any w).mono ?_
    rintro e w1 ⟨rfl, hb⟩
    have HB := keep hb
    clear hb
    go_wp2_with fail
    go_ret
    exact ⟨rfl, HB.out⟩

theorem walk (v : Value) (n : Nat) (ps : Nat → Pt) (w : World) (h : Parts w.heap.size w v n ps) :
    Calls Try.prog 3 #[v] w fun e w' => e = .returned (.bool true) ∧ Below w.heap.size w w' := by
  rcases h.out with ⟨rfl, o, cap, rfl⟩ | ⟨b, off, cap, rfl, hb, hc⟩
  · exact walk_none o cap ps w h
  · exact walk_some b off n cap ps w h hb hc
theorem laid : laidOutB Try.prog = true := by kernel_rfl

set_option maxRecDepth 100000 in
theorem lifted (os : Os) (started : os.Started) (H : Type) (enc : TypeId × Value → H) :
    ReturnsInHanded {} Try.checked os 3 .any (Rows.wireWritesSpec.pre6 enc Try.prog Try.f3 Rows.wireWritesRow.domain false) (Rows.wireWritesSpec.post enc Try.prog Try.f3 false true false false) := by
  refine returnsInHanded_of_change (C := Try.checked) own started (by kernel_rfl) Try.func3
    (ChangeSpec.witness6 (enc := enc) (C := Try.checked) false ⟨#[], #[.slice none 0 0], []⟩ 8 (by kernel_rfl) (by kernel_rfl) (by kernel_rfl) (by kernel_rfl)) ?_
  intro W base args ds gs before hval0 hW hcnd _
  have hval : ∀ (j : Nat) t v, Try.f3.params[j]? = some t → args[j]? = some v → Value.okWide Try.prog W .any base t v := hval0
  have hW' := hW
  obtain ⟨p, q, hA0, hV, rfl, hfz, hnd⟩ := hW
  have hA : DataW.TrodAll enc Try.prog W 0 (fun _ => true) true Try.f3.params.toList args.toList ds p := hA0
  rw [Try.params3] at hA hval
  obtain ⟨v0, vs0, d0, ds0, p0, q0, hargs, rfl, rfl, h0, r0⟩ := trodAll_cons hA
  obtain ⟨rfl, rfl, rfl⟩ := trodAll_nil r0
  obtain rfl : args = #[v0] := by cases args; simp_all
  obtain ⟨rfl, rfl⟩ := trodVars_none hV
  have hv0 := hval 0 22 v0 rfl rfl
  obtain ⟨n, ps, hP⟩ := parts_of (enc := enc) h0 hv0
  clear hA0 hval0
  simp only [List.append_nil] at hW'
  have hlt : ∀ x ∈ p0, x.block < W.heap.size := fun x hx => by simpa using hW'.lt x hx
  refine (walk v0 n ps W hP).mono fun e W' ⟨he, hg⟩ => ?_
  subst he
  refine ⟨_, rfl, _, _, _, [], _, [], hW', (trodAll_cons_mk (shut_bool Try.underlying4 _) trodAll_mk0), (trodAll_cons_mk (Below.trod laid (by kernel_rfl) (of_decide_eq_true (by kernel_rfl)) h0 hg hlt) trodAll_mk0), rfl, hg.frame _, fun h => by cases h⟩

theorem over : Rows.wireWritesRow.holds Try.pinned (OpenSpec.ofChange Rows.wireWritesSpec) :=
  OpenClaim.holds_of_wide 3 Try.f3 rfl rfl rfl rfl rfl rfl rfl ⟨rfl, rfl, rfl, rfl, rfl⟩ rfl rfl rfl rfl rfl (by kernel_rfl) Try.func3 (by kernel_rfl)
    (of_decide_eq_true (by kernel_rfl)) (by unfold Func.isWrapper; first | (rw [if_pos (by decide +kernel)]; kernel_rfl) | (rw [if_neg (by decide +kernel)]; exact ⟨rfl, rfl⟩))
    (fun os started H enc _ => lifted os started H enc)

/-- The statement. -/
theorem proved : Rows.WireWritesSaid :=
  over
#print axioms proved
end Go.Proofs.Ytafeahjhdjcimaa.wireWrites
