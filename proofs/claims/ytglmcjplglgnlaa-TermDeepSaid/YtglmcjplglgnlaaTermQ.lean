/-
  A part of a term: a number, a name, a sign ahead, brackets.
-/
import Derived.Test.YtglmcjplglgnlaaTermP
namespace Go.Proofs.Ytglmcjplglgnlaa
open Go.RowKit Go.Joins

theorem Rd.put {ts : List Tok} {tv : Value} {km b i : Nat} {l : List Nd} {nv : Value} {w : World} (hlen : ts.length ≤ 1000) (hi : i < ts.length) (h : Rd ts tv km b i l nv w) (x : Nd) :
    Calls Try.prog 38 #[.pointer (some ⟨b, 0, none⟩), .agg #[.int .i64 x.O, .string x.S, .int .i64 x.N, .int .i64 x.K, .int .i64 x.A]] w fun e w' => e = .returned (.tuple #[]) ∧ ∃ nv', Rd ts tv km b (i + 1) (l ++ [x]) nv' w' ∧ RKept b nv.ownBlock nv'.ownBlock w w' :=
  (put_any b tv nv (.map (some km)) i l x (by omega) (by have := h.len; omega) w h.box h.own).mono fun e w' ⟨he, nv', h1, h2, h3⟩ =>
    ⟨he, nv', h.after h1 h3 h2 (by have := h.len; rw [List.length_append]; simp; omega), h3⟩

section
variable {ts : List Tok} {f i d : Nat}
theorem one_num (h : (tokAt ts i).K = 2) : one ts (f + 1) i d = ([⟨1, ⟨#[]⟩, (tokAt ts i).V, 0, (tokAt ts i).A⟩], i + 1, 0) := by rw [one, if_pos h]
theorem one_name (h : (tokAt ts i).K = 1) : one ts (f + 1) i d = ([⟨2, (tokAt ts i).S, 0, 0, (tokAt ts i).A⟩], i + 1, 0) := by rw [one, if_neg (by omega), if_pos h]
theorem one_none (h2 : (tokAt ts i).K ≠ 2) (h1 : (tokAt ts i).K ≠ 1) (h : kd (tokAt ts i) 6 = 0) (ho : isOn (tokAt ts i) (str [40]) = false) : one ts (f + 1) i d = ([], i, 11) := by rw [one, if_neg h2, if_neg h1, if_pos ⟨h, ho⟩]
theorem one_deep (h2 : (tokAt ts i).K ≠ 2) (h1 : (tokAt ts i).K ≠ 1) (h : ¬ (kd (tokAt ts i) 6 = 0 ∧ isOn (tokAt ts i) (str [40]) = false)) (hd : d = 24) : one ts (f + 1) i d = ([], i, 5) := by rw [one, if_neg h2, if_neg h1, if_neg h, if_pos hd]
theorem one_brk (h2 : (tokAt ts i).K ≠ 2) (h1 : (tokAt ts i).K ≠ 1) (h : kd (tokAt ts i) 6 = 0) (ho : isOn (tokAt ts i) (str [40]) = true) (hd : d ≠ 24) : one ts (f + 1) i d = brk ts f i (d + 1) := by
  rw [one, if_neg h2, if_neg h1, if_neg (fun c => by rw [ho] at c; cases c.2), if_neg hd, if_pos h]; rfl
theorem one_sign (h2 : (tokAt ts i).K ≠ 2) (h1 : (tokAt ts i).K ≠ 1) (h : kd (tokAt ts i) 6 ≠ 0) (hd : d ≠ 24) :
    one ts (f + 1) i d = match one ts f (i + 1) (d + 1) with | (l, a, e) => if e ≠ 0 then ([], a, e) else (⟨kd (tokAt ts i) 6, ⟨#[]⟩, 0, 1, (tokAt ts i).A⟩ :: l, a, 0) := by
  rw [one, if_neg h2, if_neg h1, if_neg (fun c => h c.1), if_neg hd, if_neg h]
end

set_option maxRecDepth 100000 in
set_option maxHeartbeats 8000000 in
theorem part_any (ts : List Tok) (tv : Value) (km b f : Nat) (hlen : ts.length ≤ 1000) (hts : ∀ t ∈ ts, t.S.size ≤ maxLen) (HR : RowOk ts tv km b f) (HP : PartOk ts tv km b f) : PartOk ts tv km b (f + 1) := by
  intro i d l nv w hd hf h
  have HRD := keep h
  have HTOK := keep (token_any b b tv nv (.map (some km)) ts i w h.box h.toks (Nat.le_of_lt h.size))
  have HPUT := keep (fun W x (hi : i < ts.length) (h : Rd ts tv km b i l nv W) => h.put hlen hi x)
  have HKIND := keep (fun W (h : Rd ts tv km b i l nv W) => kind_any b b km tv nv ts i 6 (by omega) hts W h.box h.toks (Nat.le_of_lt h.size) h.map)
  have HON := keep (fun W (h : Rd ts tv km b i l nv W) => on_any b b tv nv (.map (some km)) ts i (str [40]) W h.box h.toks (Nat.le_of_lt h.size))
  have hk1 := fun (e : (tokAt ts i).K = 2) => one_num (f := f) (d := d) e
  have hk2 := fun (e : (tokAt ts i).K = 1) => one_name (f := f) (d := d) e
  have hk3 := fun (h2 : (tokAt ts i).K ≠ 2) (h1 : (tokAt ts i).K ≠ 1) (h : kd (tokAt ts i) 6 = 0) (ho : isOn (tokAt ts i) (str [40]) = false) => one_none (f := f) (d := d) h2 h1 h ho
  have hk4 := fun (h2 : (tokAt ts i).K ≠ 2) (h1 : (tokAt ts i).K ≠ 1) h (hd : d = 24) => one_deep (ts := ts) (i := i) (f := f) h2 h1 h hd
  have hk5 := fun (h2 : (tokAt ts i).K ≠ 2) (h1 : (tokAt ts i).K ≠ 1) h ho (hd : d ≠ 24) => one_brk (ts := ts) (i := i) (f := f) h2 h1 h ho hd
  have hk6 := fun (h2 : (tokAt ts i).K ≠ 2) (h1 : (tokAt ts i).K ≠ 1) h (hd : d ≠ 24) => one_sign (ts := ts) (i := i) (f := f) h2 h1 h hd
  have hin1 : (tokAt ts i).K ≠ 0 → i < ts.length := in_of
  have hin2 : kd (tokAt ts i) 6 ≠ 0 → i < ts.length := kd_in
  have hin3 : isOn (tokAt ts i) (str [40]) = true → i < ts.length := on_in
  obtain ⟨t, ht⟩ : ∃ t, tokAt ts i = t := ⟨_, rfl⟩
  rw [ht] at HTOK HKIND HON hk1 hk2 hk3 hk4 hk5 hk6 hin1 hin2 hin3
  obtain ⟨op, hop⟩ : ∃ op, kd t 6 = op := ⟨_, rfl⟩
  obtain ⟨on, hon⟩ : ∃ on, isOn t (str [40]) = on := ⟨_, rfl⟩
  rw [hop] at HKIND hk3 hk4 hk5 hk6 hin2
  rw [hon] at HON hk3 hk4 hk5 hin3
  unfold Tok.agg at HTOK
  by_cases h2 : t.K = 2
  · have b2 : (t.K == 2) = true := by simpa using h2
    rw [hk1 h2]
    have hi := hin1 (by omega)
    have HI := keep hi
    clear hk1 hk2 hk3 hk4 hk5 hk6 hin1 hin2 hin3 HKIND HON hop hon ht HR HP h h2 hd hf hi hlen hts
    go_enter Try.func24, Try.ntmps24
    go_wp2_with fail
    refine HTOK.out.mono ?_
    rintro e w1 ⟨rfl, hb1⟩
    have HB1 := keep (Below.alloc hb1 hb1.size (.cells #[.int .i64 t.K, .string t.S, .int .i64 t.V, .int .i64 t.A] 51))
    have HP1 := keep (HPUT.out _ ⟨1, ⟨#[]⟩, t.V, 0, t.A⟩ HI.out (HRD.out.to HB1.out))
    clear hb1 HTOK HPUT
    go_wp2_with fail
    refine HP1.out.mono ?_
    rintro e w2 ⟨rfl, nv', hr2, hk2⟩
    have HR2 := keep hr2
    have HK2 := keep ((RKept.of HB1.out).trans hk2)
    clear hr2 hk2 HP1
    go_wp2_with fail
    go_ret
    exact ⟨rfl, nv', HR2.out.box, HK2.out, fun _ => HR2.out.own⟩
  · have b2 : (t.K == 2) = false := by simpa using h2
    by_cases h1 : t.K = 1
    · have b1 : (t.K == 1) = true := by simpa using h1
      rw [hk2 h1]
      have hi := hin1 (by omega)
      have HI := keep hi
      clear hk1 hk2 hk3 hk4 hk5 hk6 hin1 hin2 hin3 HKIND HON hop hon ht HR HP h h1 h2 hd hf hi hlen hts
      go_enter Try.func24, Try.ntmps24
      go_wp2_with fail
      refine HTOK.out.mono ?_
      rintro e w1 ⟨rfl, hb1⟩
      have HB1 := keep (Below.alloc hb1 hb1.size (.cells #[.int .i64 t.K, .string t.S, .int .i64 t.V, .int .i64 t.A] 51))
      have HP1 := keep (HPUT.out _ ⟨2, t.S, 0, 0, t.A⟩ HI.out (HRD.out.to HB1.out))
      clear hb1 HTOK HPUT
      go_wp2_with fail
      refine HP1.out.mono ?_
      rintro e w2 ⟨rfl, nv', hr2, hk2⟩
      have HR2 := keep hr2
      have HK2 := keep ((RKept.of HB1.out).trans hk2)
      clear hr2 hk2 HP1
      go_wp2_with fail
      go_ret
      exact ⟨rfl, nv', HR2.out.box, HK2.out, fun _ => HR2.out.own⟩
    · have b1 : (t.K == 1) = false := by simpa using h1
      have hdI : (d : Int) ≤ 24 := by omega
      clear hk1 hk2
      by_cases h0 : op = 0
      · subst h0
        cases on with
        | false =>
          rw [hk3 h2 h1 rfl rfl]
          clear hk3 hk4 hk5 hk6 hin1 hin2 hin3 hop hon ht HR HP h h1 h2 hf hlen hts HPUT
          go_enter Try.func24, Try.ntmps24
          go_wp2_with fail
          refine HTOK.out.mono ?_
          rintro e w1 ⟨rfl, hb1⟩
          have HB1 := keep (Below.alloc hb1 hb1.size (.cells #[.int .i64 t.K, .string t.S, .int .i64 t.V, .int .i64 t.A] 51))
          have HKI := keep (HKIND.out _ (HRD.out.to HB1.out))
          clear hb1 HTOK
          go_wp2_with fail
          refine HKI.out.mono ?_
          rintro e w2 ⟨rfl, hb2⟩
          have HB2 := keep (HB1.out.trans (hb2.mono HB1.out.size))
          have HO := keep (HON.out _ (HRD.out.to HB2.out))
          clear hb2 HKI
          go_wp2_with fail
          refine HO.out.mono ?_
          rintro e w3 ⟨rfl, hb3⟩
          have HB3 := keep (HB2.out.trans (hb3.mono HB2.out.size))
          clear hb3 HO
          go_wp2_with fail
          go_ret
          exact ⟨rfl, nv, (HRD.out.to HB3.out).box, RKept.of HB3.out, fun e => by simp at e⟩
        | true =>
          by_cases h24 : d = 24
          · rw [hk4 h2 h1 (by simp) h24]
            subst h24
            clear hk3 hk4 hk5 hk6 hin1 hin2 hin3 hop hon ht HR HP h h1 h2 hf hlen hts HPUT
            go_enter Try.func24, Try.ntmps24
            go_wp2_with fail
            refine HTOK.out.mono ?_
            rintro e w1 ⟨rfl, hb1⟩
            have HB1 := keep (Below.alloc hb1 hb1.size (.cells #[.int .i64 t.K, .string t.S, .int .i64 t.V, .int .i64 t.A] 51))
            have HKI := keep (HKIND.out _ (HRD.out.to HB1.out))
            clear hb1 HTOK
            go_wp2_with fail
            refine HKI.out.mono ?_
            rintro e w2 ⟨rfl, hb2⟩
            have HB2 := keep (HB1.out.trans (hb2.mono HB1.out.size))
            have HO := keep (HON.out _ (HRD.out.to HB2.out))
            clear hb2 HKI
            go_wp2_with fail
            refine HO.out.mono ?_
            rintro e w3 ⟨rfl, hb3⟩
            have HB3 := keep (HB2.out.trans (hb3.mono HB2.out.size))
            clear hb3 HO
            go_wp2_with fail
            go_ret
            exact ⟨rfl, nv, (HRD.out.to HB3.out).box, RKept.of HB3.out, fun e => by simp at e⟩
          · have b24 : ((d : Int) == 24) = false := by rw [beq_eq_false_iff_ne]; omega
            have hi := hin3 rfl
            have HBR := keep (fun W (h : Rd ts tv km b i l nv W) => bracket_any ts tv km b f hlen HR i (d + 1) l nv W (by omega) hi (by omega) h)
            rw [hk5 h2 h1 rfl rfl h24]
            generalize brk ts f i (d + 1) = R at HBR ⊢
            have HBR' : Keep (∀ W, Rd ts tv km b i l nv W → Calls Try.prog 40 #[.pointer (some ⟨b, 0, none⟩), .int .i64 ((d : Int) + 1)] W fun e w' => ReadTo tv km b l nv R W e w') := keep HBR.out
            clear hk3 hk4 hk5 hk6 hin1 hin2 hin3 hop hon ht HR HP h h1 h2 hf hlen hts HPUT h24 hi HBR
            go_enter Try.func24, Try.ntmps24
            go_wp2_with fail
            refine HTOK.out.mono ?_
            rintro e w1 ⟨rfl, hb1⟩
            have HB1 := keep (Below.alloc hb1 hb1.size (.cells #[.int .i64 t.K, .string t.S, .int .i64 t.V, .int .i64 t.A] 51))
            have HKI := keep (HKIND.out _ (HRD.out.to HB1.out))
            clear hb1 HTOK
            go_wp2_with fail
            refine HKI.out.mono ?_
            rintro e w2 ⟨rfl, hb2⟩
            have HB2 := keep (HB1.out.trans (hb2.mono HB1.out.size))
            have HO := keep (HON.out _ (HRD.out.to HB2.out))
            clear hb2 HKI
            go_wp2_with fail
            refine HO.out.mono ?_
            rintro e w3 ⟨rfl, hb3⟩
            have HB3 := keep (HB2.out.trans (hb3.mono HB2.out.size))
            clear hb3 HO
            go_wp2_with fail
            refine (HBR'.out _ (HRD.out.to HB3.out)).mono ?_
            rintro e w4 ⟨rfl, nv', h1, h2, h3⟩
            have H4 := keep (show _ ∧ _ ∧ _ from ⟨h1, (RKept.of HB3.out).trans h2, h3⟩)
            clear h1 h2 h3
            go_wp2_with fail
            go_ret
            exact ⟨rfl, nv', H4.out⟩
      · have b0 : (op == 0) = false := by simpa using h0
        by_cases h24 : d = 24
        · rw [hk4 h2 h1 (fun c => h0 c.1) h24]
          subst h24
          clear hk3 hk4 hk5 hk6 hin1 hin2 hin3 hop hon ht HR HP h h1 h2 hf hlen hts HPUT HON h0
          go_enter Try.func24, Try.ntmps24
          go_wp2_with fail
          refine HTOK.out.mono ?_
          rintro e w1 ⟨rfl, hb1⟩
          have HB1 := keep (Below.alloc hb1 hb1.size (.cells #[.int .i64 t.K, .string t.S, .int .i64 t.V, .int .i64 t.A] 51))
          have HKI := keep (HKIND.out _ (HRD.out.to HB1.out))
          clear hb1 HTOK
          go_wp2_with fail
          refine HKI.out.mono ?_
          rintro e w2 ⟨rfl, hb2⟩
          have HB2 := keep (HB1.out.trans (hb2.mono HB1.out.size))
          clear hb2 HKI
          go_wp2_with fail
          go_ret
          exact ⟨rfl, nv, (HRD.out.to HB2.out).box, RKept.of HB2.out, fun e => by simp at e⟩
        · have b24 : ((d : Int) == 24) = false := by rw [beq_eq_false_iff_ne]; omega
          have hi := hin2 h0
          have HI := keep hi
          have hrr := hk6 h2 h1 h0 h24
          have HPA := keep (fun nv' W (h : Rd ts tv km b (i + 1) (l ++ [⟨op, ⟨#[]⟩, 0, 1, t.A⟩]) nv' W) => HP (i + 1) (d + 1) _ nv' W (by omega) (by omega) h)
          obtain ⟨R, hR⟩ : ∃ R, one ts f (i + 1) (d + 1) = R := ⟨_, rfl⟩
          obtain ⟨m, a, E⟩ := R
          rw [hR] at HPA hrr
          obtain ⟨RR, hRR⟩ : ∃ RR, one ts (f + 1) i d = RR := ⟨_, rfl⟩
          rw [hRR] at hrr ⊢
          have HRR : Keep ((E = 0 → RR = (⟨op, ⟨#[]⟩, 0, 1, t.A⟩ :: m, a, 0)) ∧ (E ≠ 0 → RR = ([], a, E))) := keep ⟨fun e => by rw [hrr]; simp [e], fun e => by rw [hrr]; simp [e]⟩
          have HPA' : Keep (∀ nv' W, Rd ts tv km b (i + 1) (l ++ [⟨op, ⟨#[]⟩, 0, 1, t.A⟩]) nv' W → Calls Try.prog 24 #[.pointer (some ⟨b, 0, none⟩), .int .i64 ((d : Int) + 1)] W fun e w' => ReadTo tv km b (l ++ [⟨op, ⟨#[]⟩, 0, 1, t.A⟩]) nv' (m, a, E) W e w') := keep HPA.out
          clear hk3 hk4 hk5 hk6 hin1 hin2 hin3 hop hon ht HR HP h h1 h2 hf hlen hts h24 hi HPA hR hrr h0 hRR
          go_enter Try.func24, Try.ntmps24
          go_wp2_with fail
          refine HTOK.out.mono ?_
          rintro e w1 ⟨rfl, hb1⟩
          have HX1 := keep (BoxL.new w1 [.int .i64 t.K, .string t.S, .int .i64 t.V, .int .i64 t.A] 51)
          have HB1 := keep (Below.alloc hb1 hb1.size (.cells #[.int .i64 t.K, .string t.S, .int .i64 t.V, .int .i64 t.A] 51))
          have HKI := keep (HKIND.out _ (HRD.out.to HB1.out))
          clear hb1 HTOK
          go_wp2_with fail
          refine HKI.out.mono ?_
          rintro e w2 ⟨rfl, hb2⟩
          have HB2 := keep (HB1.out.trans (hb2.mono HB1.out.size))
          have HX2 := keep (HX1.out.to hb2)
          have HP2 := keep (HPUT.out _ ⟨op, ⟨#[]⟩, 0, 1, t.A⟩ HI.out (HRD.out.to HB2.out))
          have x3 := HX2.out.row 3 _ rfl
          clear hb2 HKI
          go_wp2_with fail
          refine HP2.out.mono ?_
          rintro e w3 ⟨rfl, nv', hr2, hk2⟩
          have HK3 := keep ((RKept.of HB2.out).trans hk2)
          have HP3 := keep (HPA'.out nv' w3 hr2)
          clear hr2 hk2 HP2 HPA' x3
          go_wp2_with fail
          refine HP3.out.mono ?_
          rintro e w4 ⟨rfl, nv2, h1, h2, h3⟩
          have H4 := keep (show _ ∧ _ ∧ _ from ⟨h1, HK3.out.trans h2, h3⟩)
          clear h1 h2 h3
          go_wp2_with fail
          go_ret
          obtain ⟨g1, g2, g3⟩ := H4.out
          by_cases hE : E = 0
          · rw [HRR.out.1 hE]
            subst hE
            exact ⟨rfl, nv2, g1, g2, fun _ => by have := g3 rfl; rwa [List.append_assoc] at this⟩
          · rw [HRR.out.2 hE]
            exact ⟨rfl, nv2, g1, g2, fun e => absurd e hE⟩
end Go.Proofs.Ytglmcjplglgnlaa
