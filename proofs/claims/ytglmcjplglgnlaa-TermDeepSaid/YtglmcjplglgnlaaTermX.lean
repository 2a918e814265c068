/-
  live; the laws' same; a slice of tokens opened.
-/
import Derived.Test.YtglmcjplglgnlaaTermO
import Derived.ProofKit
import Derived.OpenShut
import Derived.ShutString
import Derived.Carry
import Derived.Deep.Slices
import Derived.Deep.Fields
namespace Go.Proofs.Ytglmcjplglgnlaa
open Go.ChangeShapes Go.WideShapes Go.ChangeAt Go.RowKit Go.Joins Go.Deep

theorem fld_list (o : Option Addr) (n c : Nat) (a b : Int) (w : World) : (Instr.field 34 (.agg #[.slice o n c, .int .i64 a, .int .i64 b]) 0).run Try.prog w = .ok (.slice o n c) w := by kernel_rfl
theorem sgS5 : sgS 5 = str [43] := by simp [sgS, signT]
theorem lvl2 : lvl 2 = 7 := rfl

/-- A text's tokens, read by the program. -/
def AllTo (ts : List Tok) (r : Int × Int) (w : World) (e : Ending) (w' : World) : Prop := ∃ o c, e = .returned (.agg #[.slice o (told ts r).length c, .int .i64 r.1, .int .i64 r.2]) ∧ TkRow w'.heap.size w' (.slice o (told ts r).length c) (told ts r) ∧ Below w.heap.size w w'
theorem all_to (l : List UInt8) (ts : List Tok) (r : Int × Int) (hs : l.length ≤ 65536) (h : Toks l 0 ts r) (w : World) : Calls Try.prog 11 #[.string (str l)] w fun e w' => AllTo ts r w e w' :=
  (rall_any l ts r hs h w).mono fun e w' ⟨v, he, hr, hb⟩ => by
    obtain ⟨o, c, rfl, _⟩ := hr.form
    exact ⟨o, c, he, hr, hb⟩
/-- Parse, its nodes as a slice. -/
def ParseTo (R : List Nd × Nat × Int) (w : World) (e : Ending) (w' : World) : Prop := ∃ o c, e = .returned (.tuple #[.slice o R.1.length c, .int .i64 R.2.1, .int .i64 R.2.2]) ∧ NRow w'.heap.size w' (.slice o R.1.length c) R.1 ∧ Below w.heap.size w w'
theorem parse_to (ts : List Tok) (tv : Value) (a : Int) (hlen : ts.length ≤ 1000) (hts : ∀ t ∈ ts, t.S.size ≤ maxLen) (ha : a ≤ 9223372036854775807) (w : World) (h : TkRow w.heap.size w tv ts) :
    Calls Try.prog 8 #[tv, .int .i64 a] w fun e w' => ParseTo (parseI ts a) w e w' :=
  (parse_any ts tv a hlen hts ha w h).mono fun e w' ⟨v, he, hr, hb⟩ => by
    obtain ⟨o, c, rfl, _⟩ := hr.form
    exact ⟨o, c, he, hr, hb⟩

set_option maxRecDepth 100000 in
set_option maxHeartbeats 8000000 in
theorem live_any (w : World) : Calls Try.prog 7 #[] w fun e w' => e = .returned (.bool true) ∧ Below w.heap.size w w' := by
  have HA1 := keep (fun W => show Calls Try.prog 11 #[.string ⟨#[97, 45, 49, 45, 98, 42, 50]⟩] W fun e w' => AllTo exT (7, 0) W e w' from all_to exL exT (7, 0) (by decide) ex_toks W)
  have HA2 := keep (fun W => show Calls Try.prog 11 #[.string ⟨#[97, 43]⟩] W fun e w' => AllTo exT2 (2, 0) W e w' from all_to exL2 exT2 (2, 0) (by decide) ex_toks2 W)
  have HP1 := keep (fun W tv (h : TkRow W.heap.size W tv exT) => show Calls Try.prog 8 #[tv, .int .i64 0] W fun e w' => ParseTo (exN, 7, 0) W e w' from by have := parse_to exT tv 0 (by decide) ex_sizes (by omega) W h; rwa [ex_parse] at this)
  have HP2 := keep (fun W tv (h : TkRow W.heap.size W tv exT2) => show Calls Try.prog 8 #[tv, .int .i64 0] W fun e w' => ParseTo ([], 2, 11) W e w' from by have := parse_to exT2 tv 0 (by decide) ex_sizes2 (by omega) W h; rwa [ex_parse2] at this)
  have HS := keep (fun W => tsign_any 5 rfl W)
  rw [sgS5] at HS
  have HV := keep (fun W => tlevel_any 2 rfl W)
  rw [lvl2] at HV
  have hfd := fld_list
  go_enter Try.func7, Try.ntmps7
  go_wp2_with fail
  refine (HA1.out _).mono ?_
  rintro e w1 ⟨o1, c1, rfl, ht1, hb1⟩
  have HT1 := keep ht1
  have HB1 := keep hb1
  clear ht1 hb1
  simp only [told, if_pos] at HT1 ⊢
  have e8 : exT.length = 8 := rfl
  rw [e8] at HT1 ⊢
  clear e8 HA1
  go_wp2_with fail
  refine (HP1.out _ _ HT1.out).mono ?_
  rintro e w2 ⟨o2, c2, rfl, hn2, hb2⟩
  simp only at hn2
  have e7 : exN.length = 7 := rfl
  rw [e7] at hn2 ⊢
  have HN2 := keep hn2
  have HB2 := keep (HB1.out.trans (hb2.mono HB1.out.size))
  clear hn2 hb2 e7 HP1 HT1
  go_wp2_with fail
  refine (HA2.out _).mono ?_
  rintro e w3 ⟨o3, c3, rfl, ht3, hb3⟩
  have HT3 := keep ht3
  have HN3 := keep (HN2.out.to hb3)
  have HB3 := keep (HB2.out.trans (hb3.mono HB2.out.size))
  clear ht3 hb3
  simp only [told, if_pos] at HT3 ⊢
  have e3 : exT2.length = 3 := rfl
  rw [e3] at HT3 ⊢
  clear e3 HA2
  go_wp2_with fail
  refine (HP2.out _ _ HT3.out).mono ?_
  rintro e w4 ⟨o4, c4, rfl, hn4, hb4⟩
  have HN4 := keep (HN3.out.to hb4)
  have HB4 := keep (HB3.out.trans (hb4.mono HB3.out.size))
  clear hn4 hb4 HP2 HT3
  obtain ⟨b, off, cap, eo, hbl, hcs⟩ : ∃ b off cap, (Value.slice o2 7 c2) = .slice (some ⟨b, off, none⟩) 7 cap ∧ b < w4.heap.size ∧ ∀ j u, (ncs exN)[j]? = some u → w4.cell? ⟨b, off + j, none⟩ = some u := by
    rcases HN4.out.out with ⟨h, _⟩ | ⟨b, off, cap, h1, h2, h3⟩
    · exact absurd h (by simp [exN])
    · exact ⟨b, off, cap, h1, h2, h3⟩
  injection eo with eo1 eo3 eo2
  clear eo3
  subst eo1 eo2
  have d0 := hcs 0 _ rfl
  have d1 := hcs 5 _ rfl
  have d4 := hcs 20 _ rfl
  simp only [Nat.add_zero] at d0
  clear hcs
  go_wp2_with fail
  have hq : ((str [43]).toList == [43]) = true := by rw [toList_str]; rfl
  refine (HS.out _).mono ?_
  rintro e w5 ⟨rfl, hb5⟩
  have HB5 := keep (HB4.out.trans (hb5.mono HB4.out.size))
  clear hb5 HS
  go_wp2_with fail
  refine (HV.out _).mono ?_
  rintro e w6 ⟨rfl, hb6⟩
  have HB6 := keep (HB5.out.trans (hb6.mono HB5.out.size))
  clear hb6 HV
  go_wp2_with fail
  go_ret
  exact ⟨rfl, HB6.out⟩

set_option maxHeartbeats 4000000 in
/-- What both told is alike. -/
theorem same_eq (v u : Value) (l : List Nd) (a e : Int) (w : World) (h : NRow w.heap.size w v l) (h' : NRow w.heap.size w u l) :
    Calls Try.prog 9 #[v, .int .i64 a, .int .i64 e, .agg #[u, .int .i64 a, .int .i64 e]] w fun e' w' => e' = .returned (.bool true) ∧ Below w.heap.size w w' := by
  obtain ⟨o, c, rfl, -⟩ := h.form
  obtain ⟨o', c', rfl, -⟩ := h'.form
  have HB0 := keep ((Below.refl _ w).alloc (Nat.le_refl _) (.cells #[.slice o' l.length c', .int .i64 a, .int .i64 e] 30))
  have HX := keep (BoxL.new w [.slice o' l.length c', .int .i64 a, .int .i64 e] 30)
  have HC := keep (rsame_eq _ _ l _ (h.to HB0.out) (h'.to HB0.out))
  generalize l.length = n at *
  clear h h'
  go_enter Try.func9, Try.ntmps9
  go_wp2_with fail
  refine HC.out.mono ?_
  rintro e' w1 ⟨rfl, h1⟩
  have HB1 := keep (HB0.out.trans (h1.mono HB0.out.size))
  have HX1 := keep (HX.out.to h1)
  have x1 := HX1.out.row 1 _ rfl
  have x2 := HX1.out.row 2 _ rfl
  clear h1 HC
  go_wp2_with fail
  go_ret
  exact ⟨rfl, HB1.out⟩

/-! ### A slice of tokens, opened -/
theorem icellsInt : Try.prog.cellsOf 3 = 1 := by kernel_rfl
theorem icellsStr : Try.prog.cellsOf 9 = 1 := by kernel_rfl
theorem cellsTk : Try.prog.cellsOf 51 = 4 := by kernel_rfl

section
variable {H : Type} {enc : TypeId × Value → H} {w : World}
def Tok.cs (t : Tok) : List Value := [.int .i64 t.K, .string t.S, .int .i64 t.V, .int .i64 t.A]
theorem tk_of_cells {fuel : Nat} {cs : List Value} {x : DataW H × List MemPlace} (h : DataW.trod enc Try.prog w 0 (fun _ => true) true fuel 51 cs = some x) :
    ∃ f : Tok, cs = f.cs ∧ f.S.size ≤ maxLen := by
  obtain ⟨ys, n, _, _, hlen, hyl, hf⟩ := DataW.trod_struct Try.underlying51 h
  rw [cellsTk] at hlen
  match cs, hlen with
  | [c0, c1, c2, c3], _ =>
    match ys, hyl with
    | [y0, y1, y2, y3], _ =>
      have g0 : DataW.trod enc Try.prog w 0 (fun _ => true) true n 3 (([c0, c1, c2, c3].drop 0).take (Try.prog.cellsOf 3)) = some y0 := hf 0 _ rfl
      rw [icellsInt] at g0
      have g1 : DataW.trod enc Try.prog w 0 (fun _ => true) true n 9 (([c0, c1, c2, c3].drop 1).take (Try.prog.cellsOf 9)) = some y1 := hf 1 _ rfl
      rw [icellsStr] at g1
      have g2 : DataW.trod enc Try.prog w 0 (fun _ => true) true n 3 (([c0, c1, c2, c3].drop 2).take (Try.prog.cellsOf 3)) = some y2 := hf 2 _ rfl
      rw [icellsInt] at g2
      have g3 : DataW.trod enc Try.prog w 0 (fun _ => true) true n 3 (([c0, c1, c2, c3].drop 3).take (Try.prog.cellsOf 3)) = some y3 := hf 3 _ rfl
      rw [icellsInt] at g3
      obtain ⟨K0, e0, _, w0⟩ := DataW.trod_int Try.underlying3 g0
      obtain ⟨S, e1, _, w1⟩ := DataW.trod_string Try.underlying9 g1
      obtain ⟨K2, e2, _, w2⟩ := DataW.trod_int Try.underlying3 g2
      obtain ⟨K3, e3, _, w3⟩ := DataW.trod_int Try.underlying3 g3
      obtain rfl : c0 = .int .i64 K0 := by simpa using e0
      obtain rfl : c1 = .string S := by simpa using e1
      obtain rfl : c2 = .int .i64 K2 := by simpa using e2
      obtain rfl : c3 = .int .i64 K3 := by simpa using e3
      exact ⟨⟨K0, S, K2, K3⟩, rfl, w1⟩

/-- What came in: a slice of n tokens; if they are no more than a million, they are there. -/
structure TksIn (w : World) (v : Value) (n : Nat) : Prop where
  form : ∃ o c, v = .slice o n c
  most : n ≤ maxLen
  few : n ≤ 1000000 → ∃ ts, ts.length = n ∧ TkRow w.heap.size w v ts ∧ ∀ t ∈ ts, t.S.size ≤ maxLen
theorem toks_of' {v : Value} {d : DataW H} {p : List MemPlace} {r : Reach} {b0 : Nat} (h : DataW.Trod enc Try.prog w 0 (fun _ => true) true 22 v d p) (hv : Value.okWide Try.prog w r b0 22 v) :
    ∃ n : Nat, TksIn w v n := by
  obtain ⟨a0, len0, cap0, rfl⟩ := okWide_slice Try.underlying22 hv
  obtain ⟨fuel, hf⟩ := h
  rcases open_slice Try.underlying22 hf with ⟨hcs, _⟩ | ⟨a, len, cap, m, n, D, Pl, hcs, _, hl, hm, hmm, _, hi⟩
  · simp [Value.cells] at hcs
    obtain ⟨rfl, rfl, rfl⟩ := hcs
    exact ⟨0, ⟨_, _, rfl⟩, by unfold maxLen; omega, fun _ => ⟨[], rfl, TkRow.nil _ _, by simp⟩⟩
  · simp [Value.cells] at hcs
    obtain ⟨rfl, rfl, rfl⟩ := hcs
    simp only [if_true] at hmm
    subst hmm
    refine ⟨len0, ⟨_, _, rfl⟩, by omega, fun hfew => ?_⟩
    by_cases h0 : len0 = 0
    · subst h0
      exact ⟨[], rfl, ⟨by simp, .inl ⟨rfl, _, _, rfl⟩⟩, by simp⟩
    · obtain ⟨b, off, spot⟩ := a
      have each : ∀ i, i < len0 → ∃ f : Tok, (∀ j v, f.cs[j]? = some v → w.cell? (((⟨b, off, spot⟩ : Addr).add (i * 4)).add j) = some v) ∧ f.S.size ≤ maxLen := fun i hlt => by
        obtain ⟨cs', hc, ht⟩ := hi i (by omega)
        rw [cellsTk] at hc
        obtain ⟨a, rfl, hok⟩ := tk_of_cells ht
        obtain ⟨_, _, hat⟩ := World.cells?_some hc
        refine ⟨a, fun j v hj => ?_, hok⟩
        have hjl : j < 4 := (List.getElem?_eq_some_iff.1 hj).1
        rw [hat j hjl, hj]
      have hs : spot = none := by
        obtain ⟨a, ha, _⟩ := each 0 (by omega)
        have := World.cell?_spot (ha 0 _ rfl)
        simpa [Addr.add] using this
      subst hs
      have hb : b < w.heap.size := by
        obtain ⟨a, ha, _⟩ := each 0 (by omega)
        have := World.block_lt_of_cell? w _ (ha 0 _ rfl)
        simpa [Addr.add] using this
      have each' : ∀ i, ∃ f : Tok, i < len0 → (∀ j v, f.cs[j]? = some v → w.cell? ⟨b, off + i * 4 + j, none⟩ = some v) ∧ f.S.size ≤ maxLen := fun i => by
        by_cases hlt : i < len0
        · obtain ⟨f, ha, hok⟩ := each i hlt
          refine ⟨f, fun _ => ⟨fun j v hj => ?_, hok⟩⟩
          have := ha j v hj
          rwa [Addr.add_mid, Addr.add_mid] at this
        · exact ⟨zt, fun h => absurd h hlt⟩
      refine ⟨(List.range len0).map (fun i => Classical.choose (each' i)), by simp, ⟨by simp; omega, .inr ⟨b, off, _, by rw [List.length_map, List.length_range], hb, fun i x hi => ?_⟩⟩, ?_⟩
      · have hlt := (List.getElem?_eq_some_iff.1 hi).1
        simp only [List.length_map, List.length_range] at hlt
        rw [List.getElem?_map, List.getElem?_range hlt] at hi
        obtain rfl := Option.some.inj hi
        have hc := (Classical.choose_spec (each' i) hlt).1
        exact ⟨hc 0 _ rfl, hc 1 _ rfl, hc 2 _ rfl, hc 3 _ rfl⟩
      · intro x hx
        obtain ⟨i, hi, rfl⟩ := List.mem_map.1 hx
        exact (Classical.choose_spec (each' i) (List.mem_range.1 hi)).2
end
end Go.Proofs.Ytglmcjplglgnlaa
