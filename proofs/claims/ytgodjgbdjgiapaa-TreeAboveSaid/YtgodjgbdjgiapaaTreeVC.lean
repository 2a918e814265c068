/-
  The program's Check.
-/
import Derived.Test.YtgodjgbdjgiapaaTreeV
namespace Go.Proofs.Ytgodjgbdjgiapaa
open Go.RowKit Go.Joins

theorem elR : (Try.prog.info? 51).map (fun i => (i.zero, i.size, i.bytes)) = some (some (.agg #[.int .i64 0, .int .i64 0]), 2, 16) := by kernel_rfl
theorem wpList_append_pr {ops : Array Oper} {rest : List Oper} {o : Oper} {a : Act} {W : World} {Q : Exit → Act → World → Prop} (hgd : o.guard = none) (s x : Operand)
    (ho : o.op = .call { callee := .builtin .append, args := #[s, x], argTypes := #[45, 45] })
    (B : Nat) (v : Value) (l : List (Nat × Nat)) (hs : a.eval s = v) (h : W.ownsRow B 51 2 v l.length (pcs l)) (hB : B ≤ W.heap.size) (hl : l.length ≤ 1000000) (b : Nat) (c : Nat) (p : Nat × Nat) (hx : a.eval x = .slice (some ⟨b, 0, none⟩) 1 c)
    (ha : ∀ j u, ([.int .i64 (p.1 : Int), .int .i64 (p.2 : Int)] : List Value)[j]? = some u → W.cell? ⟨b, j, none⟩ = some u)
    (hK : ∀ v' W', W'.ownsRow B 51 2 v' (l ++ [p]).length (pcs (l ++ [p])) → W.grownBy W' v.ownBlock → wpList Try.prog ops Q rest (a.put o.dst v') W') : wpList Try.prog ops Q (o :: rest) a W := by
  obtain ⟨i0, hi, hz0, hz1, hz2⟩ := info_parts elR
  refine wpList_append_own _ hgd s x 45 ho B 51 i0 (.agg #[.int .i64 0, .int .i64 0]) 2 16 Try.underlying45 hi hz0 hz1 hz2 rfl (by decide) v l.length (pcs l) hs h ⟨b, 0, none⟩ 1 c [.int .i64 (p.1 : Int), .int .i64 (p.2 : Int)] hx rfl ?_ ?_ (by unfold maxLen; omega) (by omega) hB ?_
  · intro j u hj
    rw [show (⟨b, 0, none⟩ : Addr).add j = ⟨b, j, none⟩ by rw [Addr.add_mid, Nat.zero_add]]
    exact ha j u hj
  · intro u hu
    simp only [List.mem_cons, List.not_mem_nil, or_false] at hu
    rcases hu with rfl | rfl <;> rfl
  · intro v' w' hown hgrow _
    refine hK v' w' ?_ hgrow
    rw [List.length_append, pcs_append]
    exact hown

/-- Between two rounds of Check. -/
structure CkAt (l : List Nd) (w : World) (a : Nat) (o : List (Nat × Nat)) (c : UInt8) (u : Value) (wr : World) : Prop where
  at_ : ChkAt l a o c
  own : wr.ownsRow w.heap.size 51 2 u o.length (pcs o)
  below : Below w.heap.size w wr
theorem ob_ne {a b : UInt8} (h : a ≠ b) : (ob a != ob b) = true := by
  have : ob a ≠ ob b := fun c => h (ob_inj c)
  simpa using this

set_option maxRecDepth 100000 in
set_option maxHeartbeats 8000000 in
theorem check_any (v : Value) (l : List Nd) (hn : l.length ≤ 1000) (w : World) (h : NdRow w.heap.size w v l) :
    Calls Try.prog 16 #[v] w fun e w' => e = .returned (.tuple #[.int .i64 ((checkP l).1 : Int), .int .i64 (checkP l).2]) ∧ Below w.heap.size w w' := by
  have HROW := keep h
  obtain ⟨o, cap, rfl, hf⟩ := h.form
  have HF := keep hf
  have HLN := keep hn
  have H0 : Keep (CkAt l w 0 [] 85 (.slice none 0 0) w) := ⟨⟨ChkAt.start l, World.ownsRow_nil _ _ _ _, Below.refl _ _⟩⟩
  obtain ⟨n, hnn⟩ : ∃ n, n = l.length := ⟨_, rfl⟩
  have HNN := keep hnn
  have hnI : (n : Int) ≤ 1000 := by omega
  rw [← hnn]
  rw [← hnn] at HROW
  clear h hf hn hnn
  go_enter Try.func16, Try.ntmps16
  go_wp2_with fail
  go_loopw [4, 5, 10] (fun uv cv av wr => ∃ (a : Nat) (q : List (Nat × Nat)) (c : UInt8) (oo : Option Addr) (cc : Nat), uv = .slice oo q.length cc ∧ cv = .int .u8 (ob c) ∧ av = .int .i64 (a : Int) ∧ a ≤ n ∧ Keep (CkAt l w a q c (.slice oo q.length cc) wr)) (fun _ _ av _ => n - (intOf av).toNat)
  case atStart => exact ⟨0, [], 85, none, 0, rfl, rfl, rfl, Nat.zero_le _, H0⟩
  case round =>
    obtain ⟨a, q, c, oo, cc, rfl, rfl, rfl, han, HA⟩ := hrel
    clear H0
    by_cases hlt : a < n
    · have hltI : (a : Int) < (n : Int) := by omega
      obtain ⟨x, hx⟩ := get_of_lt (l := l) (i := a) (by rw [← HNN.out]; exact hlt)
      obtain ⟨hok, b, off, rfl, hb, hc⟩ := HF.out a x hx
      obtain ⟨n0, n1, n2, n3, n4⟩ := hc wr HA.out.below
      have hblt : b < wr.heap.size := Nat.lt_of_lt_of_le hb HA.out.below.size
      have HX := keep hx
      have HCL := keep (fun W => class_any x.O W)
      have HFT := keep (fun W => fits_any x hok W)
      have HBX : Keep (NCells (wr.alloc (.cells #[.int .i64 x.O, .string x.S, .int .i64 x.N, .int .i64 x.K, .int .i64 x.A] 39)) wr.heap.size x.O x.S x.N x.K x.A) := ⟨ncells_new wr _ _ _ _ _⟩
      have HBW : Keep (Below wr.heap.size wr (wr.alloc (.cells #[.int .i64 x.O, .string x.S, .int .i64 x.N, .int .i64 x.K, .int .i64 x.A] 39))) := ⟨(Below.refl _ wr).alloc (Nat.le_refl _) _⟩
      have HBAD : Keep (rowC c x = none → (a, 3) = checkP l) := ⟨fun hr => (HA.out.at_.bad HX.out hr).symm⟩
      unfold Nd.agg at HFT
      clear hx hok hc hb
      by_cases hcl : clsOf x.O = c
      · have hne : (ob (clsOf x.O) != ob c) = false := by rw [hcl]; simp
        cases hft : fitsP x with
        | false =>
          have HE := keep (HBAD.out (by unfold rowC; rw [if_neg (fun e => by rw [hft] at e; cases e.2)]))
          rw [hft] at HFT
          clear hcl hft HBAD
          go_wp2_with fail
          refine (HCL.out _).mono ?_
          rintro e w' ⟨rfl, rfl⟩
          go_wp2_with fail
          refine (HFT.out _).mono ?_
          rintro e w2 ⟨rfl, hb2⟩
          have HB2 := keep (HA.out.below.trans ((HBW.out.trans (hb2.mono HBW.out.size)).mono HA.out.below.size))
          clear hb2
          go_wp2_with fail
          go_ret2
          exact ⟨by rw [← HE.out]; rfl, HB2.out⟩
        | true =>
          have HR : Keep (rowC c x = some (rowP x)) := ⟨by unfold rowC; rw [if_pos ⟨hcl, hft⟩]⟩
          have HFIT := keep hft
          rw [hft] at HFT
          clear hcl hft HBAD
          go_wp2_with fail
          refine (HCL.out _).mono ?_
          rintro e w' ⟨rfl, rfl⟩
          go_wp2_with fail
          refine (HFT.out _).mono ?_
          rintro e w2 ⟨rfl, hb2⟩
          have hbw2 := HBW.out.trans (hb2.mono HBW.out.size)
          have HB2 := keep (HA.out.below.trans (hbw2.mono HA.out.below.size))
          have HO2 := keep (own_to HA.out.own hbw2)
          have HCP := keep (BoxL.new w2 [.int .i64 (a : Int), .int .i64 0] 51)
          clear hb2 hbw2
          go_wp2_with (at_builtin; refine wpList_append_pr rfl _ _ rfl w.heap.size (.slice oo q.length cc) q rfl (HO2.out.alloc _) (by have := HB2.out.size; simp; omega) (by have := HA.out.at_.1; have := HA.out.at_.2.1; have := HLN.out; omega) w2.heap.size 1 (a, 0) rfl HCP.out.row ?_)
          intro v' w3 hown' hgrow
          obtain ⟨o', c', rfl⟩ := own_slice' hown'
          have HO3 := keep hown'
          have HB3 := keep ((HB2.out.alloc HB2.out.size (.cells #[.int .i64 (a : Int), .int .i64 0] 51)).grown hgrow (by have := HB2.out.size; simp; omega) (fun m hm => (HO2.out.lt m hm).1))
          have HOP : Keep (Opens l (q ++ [(a, 0)])) := ⟨HA.out.at_.2.2.1.snoc HX.out HFIT.out (by have := (fits_told HFIT.out).2; simp only; omega)⟩
          have hl1 : (q ++ [(a, 0)]).length = q.length + 1 := by simp
          have HNXT := keep (next_any _ l (q ++ [(a, 0)]) (.slice o' (q.length + 1) c') w.heap.size w3 HB3.out.size (HROW.out.below HB3.out) HLN.out (by have := HA.out.at_.1; have := HA.out.at_.2.1; have := HLN.out; simp; omega) HOP.out (by rw [hl1]; exact HO3.out))
          clear hown' hgrow hl1
          go_wp2_with fail
          refine HNXT.out.mono ?_
          rintro e w4 ⟨u4, q4, c4, rfl, hnx, hown4, hb4⟩
          obtain ⟨o4, cc4, rfl⟩ := own_slice' hown4
          have HST := keep (HA.out.at_.step HX.out HR.out hnx)
          have HO4 := keep hown4
          have HB4 := keep (HB3.out.trans hb4)
          clear hnx hown4 hb4
          go_wp2_with fail
          go_roundw
          case rel => exact ⟨a + 1, q4, c4, o4, cc4, rfl, rfl, by go_num, by omega, ⟨⟨HST.out, HO4.out, HB4.out⟩⟩⟩
          case measure => simp [intOf]; omega
      · have hne := ob_ne hcl
        have HE := keep (HBAD.out (by unfold rowC; rw [if_neg (fun e => hcl e.1)]))
        clear hcl HBAD
        go_wp2_with fail
        refine (HCL.out _).mono ?_
        rintro e w' ⟨rfl, rfl⟩
        go_wp2_with fail
        have HB2 := keep (HA.out.below.trans (HBW.out.mono HA.out.below.size))
        go_ret2
        exact ⟨by rw [← HE.out]; rfl, HB2.out⟩
    · have hal : l.length = a := by have := HNN.out; omega
      have hd1 : ¬ ((a : Int) < (n : Int)) := by omega
      have HFIN := keep (show checkP l = if c = 46 then (0, 0) else (l.length, 3) from (hal ▸ HA.out.at_ : ChkAt l l.length q c).fin)
      rw [← HNN.out] at HFIN
      by_cases hc : c = 46
      · subst hc
        have hb : (ob 46 != 46) = false := by decide
        have HE : Keep ((0, 0) = checkP l) := ⟨by rw [HFIN.out, if_pos rfl]⟩
        clear hlt hal HFIN
        go_wp2_with fail
        go_ret2
        exact ⟨by rw [← HE.out]; rfl, HA.out.below⟩
      · have hb : (ob c != 46) = true := ob_ne (b := 46) hc
        have HE : Keep ((n, 3) = checkP l) := ⟨by rw [HFIN.out, if_neg hc]⟩
        clear hlt hal HFIN hc
        go_wp2_with fail
        go_ret2
        exact ⟨by rw [← HE.out]; rfl, HA.out.below⟩
end Go.Proofs.Ytgodjgbdjgiapaa
