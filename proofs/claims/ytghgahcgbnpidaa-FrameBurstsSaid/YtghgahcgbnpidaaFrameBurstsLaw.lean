/-
  For every list of frames, every int, every int and every uint32, retracelaw04.FrameBursts answers true, and what it is given reads as before. No condition.
-/
import Derived.Test.YtghgahcgbnpidaaRows
import Derived.Test.YtghgahcgbnpidaaFrameQ
import Derived.Test.YtghgahcgbnpidaaFrameN
import Derived.Test.YtghgahcgbnpidaaAny
namespace Go.Proofs.Ytghgahcgbnpidaa.frameBursts
open Go.ChangeShapes Go.WideShapes Go.ChangeAt Go.RowKit Go.Joins
open Go.ChangeMaps (open_string shut_string)

theorem small_ok {fs : List Fr} (h : Small fs) (hk : Kinds fs) : (∀ f ∈ fs, f.ok) ∧ (cat fs).length ≤ 7000 := by
  refine ⟨fun f hf => ⟨(hk f hf).1, (hk f hf).2, by have := h.2 f hf; omega⟩, ?_⟩
  have : ∀ l : List Fr, (∀ f ∈ l, f.S.size ≤ 300) → (cat l).length ≤ 316 * l.length := fun l => by
    induction l with
    | nil => intro _; simp [cat]
    | cons f r ih =>
      intro hl
      have h1 := ih (fun g hg => hl g (by simp [hg]))
      have h2 := hl f (by simp)
      have h3 := ln_bd f
      rw [cat, List.length_append, frB_len, List.length_cons]; omega
  have h1 := this fs h.2
  have h2 := h.1
  omega

set_option maxRecDepth 100000 in
set_option maxHeartbeats 8000000 in
theorem walk_in (b off cap : Nat) (fs : List Fr) (k : Nat) (at_ m : Int) (w : World) (h : FrRow w.heap.size w (.slice (some ⟨b, off, none⟩) fs.length cap) fs) (hb : b < w.heap.size) (hcap : fs.length ≤ cap) (hk : k < fs.length) :
    Calls Try.prog 8 #[.slice (some ⟨b, off, none⟩) fs.length cap, .int .i64 k, .int .i64 at_, .int .u32 m] w fun e w' => e = .returned (.bool true) ∧ Below w.heap.size w w' := by
  have HL := keep (large_any _ _ fs w h)
  have HRG := keep (right_any _ _ fs w h)
  have hm := h.room
  have HROW := keep h
  have HDA : Keep (w.cell? ⟨b, off + k * 2 + 1, none⟩ = some (.string (fa fs k).S)) := ⟨by
    rcases h.out with ⟨rfl, _⟩ | ⟨b', off', cap', e1, _, _, h3⟩
    · simp at hk
    · injection e1 with e1 _ _
      injection e1 with e1
      injection e1 with e1 e2 _
      subst e1 e2
      exact (h3 k hk).2⟩
  obtain ⟨n, hn⟩ : ∃ n, n = fs.length := ⟨_, rfl⟩
  have HN := keep hn
  have HCAP := keep hcap
  have HKN := keep hk
  have HJN := fun h1 h2 => joined_any _ fs w h h1 h2
  rw [← hn] at HL HRG HROW HCAP HJN hm hk ⊢
  have HJ0 := keep HJN
  have hmI : (n : Int) ≤ 9223372036854775807 := by omega
  have hkI : (k : Int) < (n : Int) := by omega
  clear h hn hcap hm HJN hk
  go_enter Try.func8, Try.ntmps8
  go_wp2_with fail
  refine HL.out.mono ?_
  rintro e w' ⟨x, rfl, hx, rfl⟩
  cases x
  · have HSM := keep (hx rfl)
    clear hx
    go_wp2_with fail
    refine HRG.out.mono ?_
    rintro e w' ⟨y, rfl, hy, rfl⟩
    cases y
    · clear hy

      go_wp2_with fail
      refine (live_any _).mono ?_
      rintro e w4 ⟨rfl, hb⟩
      have HB4 := keep (hb)
      clear hb
      go_wp2_with fail
      go_ret
      exact ⟨rfl, HB4.out⟩
    · have HOKZ := small_ok HSM.out (hy rfl)
      have HOK := keep HOKZ.1
      have HZ := keep HOKZ.2
      have HJ := keep (HJ0.out HOK.out (by have := HZ.out; omega))
      clear hy HOKZ
      have hn20 : (n : Int) ≤ 20 := by have := HSM.out.1; have := HN.out; omega
      go_wp2_with fail
      refine HJ.out.mono ?_
      rintro e w1 ⟨pv, rfl, hnum, hb1⟩
      rw [← HN.out] at hnum
      obtain ⟨pb, po, pc, rfl, hpb, hpc⟩ := hnum.out
      have HB1 := keep hb1
      have HPB := keep hpb
      have HPC := keep hpc
      have hpa := parts_at fs k HKN.out
      rw [← fa_get HKN.out] at hpa
      have hfok := HOK.out _ (fa_mem HKN.out)
      have hf300 := HSM.out.2 _ (fa_mem HKN.out)
      have hcell1 := hpc (k + 1) (by have := HKN.out; have := HN.out; omega)
      have hdata := (hb1.cell (p := ⟨b, off + k * 2 + 1, none⟩) hb).trans HDA.out
      obtain ⟨s0, hs0⟩ : ∃ s0, s0 = str (cat fs) := ⟨_, rfl⟩
      have HS0 := keep hs0
      rw [← hs0] at hpa ⊢
      have hszl : s0.size = (cat fs).length := by rw [hs0, str_size]
      have hz7 := HZ.out
      obtain ⟨h1, h2, h3, h4, h5⟩ := hpa
      obtain ⟨fr, hfr⟩ : ∃ fr, fr = pl fs k + (hr (fa fs k)).length := ⟨_, rfl⟩
      rw [← hfr] at h1 h2 h4
      have HFA := keep (fa_get HKN.out)
      generalize hQ : pl fs (k + 1) = q1 at *
      have HQ := keep hQ
      have HFR := keep hfr
      have hTU0 := fun (a : Nat) (ha : a ≤ 10000) W => turned_any (s0.extract fr q1) a m W (by rw [ByteArray.size_extract]; omega) ha
      obtain ⟨x0, hx0⟩ : ∃ x0, x0 = s0.extract 0 fr := ⟨_, rfl⟩
      obtain ⟨x1, hx1⟩ : ∃ x1, x1 = s0.extract fr q1 := ⟨_, rfl⟩
      obtain ⟨x2, hx2⟩ : ∃ x2, x2 = s0.extract q1 s0.size := ⟨_, rfl⟩
      have HX0 : Keep (x0 = str (cat (fs.take k) ++ hr (fa fs k))) := ⟨by rw [hx0]; exact h1⟩
      have HX1 : Keep (x1 = str (sg (fa fs k))) := ⟨by rw [hx1]; exact h2⟩
      have HX2 : Keep (x2 = str (cat (fs.drop (k + 1)))) := ⟨by rw [hx2]; exact h3⟩
      have hz0 : x0.size ≤ 7000 := by rw [hx0, ByteArray.size_extract]; omega
      have hz1 : x1.size = (fa fs k).S.size + 4 := by rw [HX1.out, str_size, sg_len]
      have hz2 : x2.size ≤ 7000 := by rw [hx2, ByteArray.size_extract]; omega
      rw [← hx1] at hTU0
      have HTU := keep hTU0
      have HZ0 := keep hz0
      have HZ1 := keep hz1
      have HZ2 := keep hz2
      generalize hS : (fa fs k).S = S at *
      have HSS := keep hS
      have hSI : (S.size : Int) ≤ 300 := by omega
      have hfr1 : (q1 : Int) - 4 - (S.size : Int) = (fr : Int) := by omega
      have hq0 : (4 : Int) ≤ (q1 : Int) := by omega
      have hq7 : (q1 : Int) ≤ 7000 := by omega
      have hfq : (fr : Int) ≤ (q1 : Int) := by omega
      have hqs : (q1 : Int) ≤ (s0.size : Int) := by omega
      have hfs : (fr : Int) ≤ (s0.size : Int) := by omega
      have hs7 : (s0.size : Int) ≤ 7000 := by omega
      have hfs2 : fr ≤ s0.size := by omega
      have hqs2 : q1 ≤ s0.size := by omega
      have hfq2 : fr ≤ q1 := by omega
      have hy0 := hx0.symm
      have hy1 := hx1.symm
      have hy2 := hx2.symm
      clear hx0 hx1 hx2 hnum hb1 hpb hpc hs0 h1 h2 h3 h4 h5 hfr hQ hTU0 hz0 hz1 hz2 hS hfok hf300 hszl hz7
      go_wp2_with fail
      go_quiet (fail)
      have HBQ := keep (HB1.out.trans ((below_draws w1.heap.size w1 nq).mono HB1.out.size))
      by_cases ha0 : at_ < 0
      · clear hcell1 hdata

        go_wp2_with fail
        refine (live_any _).mono ?_
        rintro e w4 ⟨rfl, hb⟩
        have HB4 := keep (HBQ.out.trans (hb.mono HBQ.out.size))
        clear hb
        go_wp2_with fail
        go_ret
        exact ⟨rfl, HB4.out⟩
      · by_cases ha1 : 8 * ((S.size : Int) + 4) ≤ at_

        · go_wp2_with fail
          refine (live_any _).mono ?_
          rintro e w4 ⟨rfl, hb⟩
          have HB4 := keep (HBQ.out.trans (hb.mono HBQ.out.size))
          clear hb
          go_wp2_with fail
          go_ret
          exact ⟨rfl, HB4.out⟩
        · obtain ⟨a, rfl⟩ := Int.eq_ofNat_of_zero_le (show 0 ≤ at_ by omega)
          have haz : a ≤ 10000 := by omega
          have HAZ := keep haz
          have HC1 := keep hcell1
          clear haz ha0
          go_wp2_with fail
          have hkN : k < n := by omega
          have hk0 : (0 : Int) ≤ (k : Int) + 1 := by omega
          have hwk : IntKind.i64.wrap ((k : Int) + 1) = (k : Int) + 1 := IntWalk.i64_in _ ⟨by omega, by omega⟩
          have hkt : ((k : Int) + 1).toNat = k + 1 := by omega
          refine AnyGo.region (fun w' => w'.cell? ⟨pb, po + (k + 1), none⟩ = some (.int .i64 (q1 : Int))) (by kernel_rfl) (by rfl) ?_ ?_
          · exact hcell1
          intro wd ewd
          subst ewd
          clear hcell1
          (refine AnyGo.take 0 (some 67) ?_ (a' := ?_) rfl (by kernel_rfl) (fun _ _ d _ _ h => by cases d <;> exact h) (by kernel_rfl) (by rfl) (by kernel_rfl) ?_ ?_ ?_; rotate_left 2; (focus (intro W hW; (try dsimp only at hW); go_simp; (try with_reducible rfl))); (focus (simp only [Act.put, List.setIfInBounds_toArray]; rfl)))
          (refine AnyGo.take 1 (some 68) ?_ (a' := ?_) rfl (by kernel_rfl) (fun _ _ d _ _ h => by cases d <;> exact h) (by kernel_rfl) (by rfl) (by kernel_rfl) ?_ ?_ ?_; rotate_left 2; (focus (intro W hW; (try dsimp only at hW); go_simp; (try with_reducible rfl))); (focus (simp only [Act.put, List.setIfInBounds_toArray]; rfl)))
          (refine AnyGo.take 2 (some 69) ?_ (a' := ?_) rfl (by kernel_rfl) (fun _ _ d _ _ h => by cases d <;> exact h) (by kernel_rfl) (by rfl) (by kernel_rfl) ?_ ?_ ?_; rotate_left 2; (focus (intro W hW; (try dsimp only at hW); go_simp; (try with_reducible rfl))); (focus (simp only [Act.put, List.setIfInBounds_toArray]; rfl)))
          (refine AnyGo.take 3 (some 70) ?_ (a' := ?_) rfl (by kernel_rfl) (fun _ _ d _ _ h => by cases d <;> exact h) (by kernel_rfl) (by rfl) (by kernel_rfl) ?_ ?_ ?_; rotate_left 2; (focus (intro W hW; (try dsimp only at hW); go_simp; (try with_reducible rfl))); (focus (simp only [Act.put, List.setIfInBounds_toArray]; rfl)))
          (refine AnyGo.take 4 (some 71) ?_ (a' := ?_) rfl (by kernel_rfl) (fun _ _ d _ _ h => by cases d <;> exact h) (by kernel_rfl) (by rfl) (by kernel_rfl) ?_ ?_ ?_; rotate_left 2; (focus (intro W hW; (try dsimp only at hW); go_simp; (try with_reducible rfl))); (focus (simp only [Act.put, List.setIfInBounds_toArray]; rfl)))
          (refine AnyGo.take 5 (some 72) ?_ (a' := ?_) rfl (by kernel_rfl) (fun _ _ d _ _ h => by cases d <;> exact h) (by kernel_rfl) (by rfl) (by kernel_rfl) ?_ ?_ ?_; rotate_left 2; (focus (intro W hW; (try dsimp only at hW); go_simp; (try with_reducible rfl))); (focus (simp only [Act.put, List.setIfInBounds_toArray]; rfl)))
          (refine AnyGo.take 6 (some 73) ?_ (a' := ?_) rfl (by kernel_rfl) (fun _ _ d _ _ h => by cases d <;> exact h) (by kernel_rfl) (by rfl) (by kernel_rfl) ?_ ?_ ?_; rotate_left 2; (focus (intro W hW; (try dsimp only at hW); go_simp; (try with_reducible rfl))); (focus (simp only [Act.put, List.setIfInBounds_toArray]; rfl)))
          (refine AnyGo.take 7 (some 74) ?_ (a' := ?_) rfl (by kernel_rfl) (fun _ _ d _ _ h => by cases d <;> exact h) (by kernel_rfl) (by rfl) (by kernel_rfl) ?_ ?_ ?_; rotate_left 2; (focus (intro W hW; (try dsimp only at hW); go_simp; (try with_reducible rfl))); (focus (simp only [Act.put, List.setIfInBounds_toArray]; rfl)))
          (refine AnyGo.take 8 (some 75) ?_ (a' := ?_) rfl (by kernel_rfl) (fun _ _ d _ _ h => by cases d <;> exact h) (by kernel_rfl) (by rfl) (by kernel_rfl) ?_ ?_ ?_; rotate_left 2; (focus (intro W hW; (try dsimp only at hW); go_simp; (try with_reducible rfl))); (focus (simp only [Act.put, List.setIfInBounds_toArray]; rfl)))
          (refine AnyGo.take 9 (some 76) ?_ (a' := ?_) rfl (by kernel_rfl) (fun _ _ d _ _ h => by cases d <;> exact h) (by kernel_rfl) (by rfl) (by kernel_rfl) ?_ ?_ ?_; rotate_left 2; (focus (intro W hW; (try dsimp only at hW); go_simp; (try with_reducible rfl))); (focus (simp only [Act.put, List.setIfInBounds_toArray]; rfl)))
          (refine AnyGo.take 10 (some 77) ?_ (a' := ?_) rfl (by kernel_rfl) (fun _ _ d _ _ h => by cases d <;> exact h) (by kernel_rfl) (by rfl) (by kernel_rfl) ?_ ?_ ?_; rotate_left 2; (focus (intro W hW; (try dsimp only at hW); go_simp; (try with_reducible rfl))); (focus (simp only [Act.put, List.setIfInBounds_toArray]; rfl)))
          (refine AnyGo.take 11 (some 78) ?_ (a' := ?_) rfl (by kernel_rfl) (fun _ _ d _ _ h => by cases d <;> exact h) (by kernel_rfl) (by rfl) (by kernel_rfl) ?_ ?_ ?_; rotate_left 2; (focus (intro W hW; (try dsimp only at hW); go_simp; (try with_reducible rfl))); (focus (simp only [Act.put, List.setIfInBounds_toArray]; rfl)))
          (refine AnyGo.take 12 (some 79) ?_ (a' := ?_) rfl (by kernel_rfl) (fun _ _ d _ _ h => by cases d <;> exact h) (by kernel_rfl) (by rfl) (by kernel_rfl) ?_ ?_ ?_; rotate_left 2; (focus (intro W hW; (try dsimp only at hW); go_simp; (try with_reducible rfl))); (focus (simp only [Act.put, List.setIfInBounds_toArray]; rfl)))
          (refine AnyGo.take 15 (some 82) ?_ (a' := ?_) rfl (by kernel_rfl) (fun _ _ d _ _ h => by cases d <;> exact h) (by kernel_rfl) (by rfl) (by kernel_rfl) ?_ ?_ ?_; rotate_left 2; (focus (intro W hW; (try dsimp only at hW); go_simp; (try with_reducible rfl))); (focus (simp only [Act.put, List.setIfInBounds_toArray]; rfl)))
          (refine AnyGo.take 16 (some 83) ?_ (a' := ?_) rfl (by kernel_rfl) (fun _ _ d _ _ h => by cases d <;> exact h) (by kernel_rfl) (by rfl) (by kernel_rfl) ?_ ?_ ?_; rotate_left 2; (focus (intro W hW; (try dsimp only at hW); go_simp; (try with_reducible rfl))); (focus (simp only [Act.put, List.setIfInBounds_toArray]; rfl)))
          (refine AnyGo.take 17 (some 84) ?_ (a' := ?_) rfl (by kernel_rfl) (fun _ _ d _ _ h => by cases d <;> exact h) (by kernel_rfl) (by rfl) (by kernel_rfl) ?_ ?_ ?_; rotate_left 2; (focus (intro W hW; (try dsimp only at hW); go_simp; (try with_reducible rfl))); (focus (simp only [Act.put, List.setIfInBounds_toArray]; rfl)))
          (refine AnyGo.take 18 (some 85) ?_ (a' := ?_) rfl (by kernel_rfl) (fun _ _ d _ _ h => by cases d <;> exact h) (by kernel_rfl) (by rfl) (by kernel_rfl) ?_ ?_ ?_; rotate_left 2; (focus (intro W hW; (try dsimp only at hW); go_simp; (try with_reducible rfl))); (focus (simp only [Act.put, List.setIfInBounds_toArray]; rfl)))
          (refine AnyGo.take 19 (some 86) ?_ (a' := ?_) rfl (by kernel_rfl) (fun _ _ d _ _ h => by cases d <;> exact h) (by kernel_rfl) (by rfl) (by kernel_rfl) ?_ ?_ ?_; rotate_left 2; (focus (intro W hW; (try dsimp only at hW); go_simp; (try with_reducible rfl))); (focus (simp only [Act.put, List.setIfInBounds_toArray]; rfl)))
          (refine AnyGo.take 20 (some 87) ?_ (a' := ?_) rfl (by kernel_rfl) (fun _ _ d _ _ h => by cases d <;> exact h) (by kernel_rfl) (by rfl) (by kernel_rfl) ?_ ?_ ?_; rotate_left 2; (focus (intro W hW; (try dsimp only at hW); go_simp; (try with_reducible rfl))); (focus (simp only [Act.put, List.setIfInBounds_toArray]; rfl)))
          (refine AnyGo.take 21 (some 88) ?_ (a' := ?_) rfl (by kernel_rfl) (fun _ _ d _ _ h => by cases d <;> exact h) (by kernel_rfl) (by rfl) (by kernel_rfl) ?_ ?_ ?_; rotate_left 2; (focus (intro W hW; (try dsimp only at hW); go_simp; (try with_reducible rfl))); (focus (simp only [Act.put, List.setIfInBounds_toArray]; rfl)))
          refine AnyGo.one (i := 13) (by kernel_rfl) rfl (by kernel_rfl) (fun K' hK' => ?_)
          go_simp
          refine (HTU.out a HAZ.out _).mono ?_
          rintro e w2 ⟨t, F, rfl, ht1, ht2, ht3, hb2⟩
          have HBW := keep hb2
          have HB2 := keep (HBQ.out.drew.trans (hb2.mono HBQ.out.drew.size))
          have HC2 : Keep (w2.cell? ⟨pb, po + (k + 1), none⟩ = some (.int .i64 (q1 : Int))) := ⟨(hb2.cell (p := ⟨pb, po + (k + 1), none⟩) HPB.out).trans HC1.out⟩
          have HPK2 : Keep (w2.cell? ⟨pb, po + k, none⟩ = some (.int .i64 (pl fs k))) := ⟨(hb2.cell (p := ⟨pb, po + k, none⟩) HPB.out).trans (HPC.out k (by omega))⟩
          have HPB2 : Keep (pb < w2.heap.size) := ⟨Nat.lt_of_lt_of_le HPB.out hb2.size⟩
          refine hK'.out _ _ HC2.out ?_
          clear hK' K' hb2
          (try simp only [Act.put, List.setIfInBounds_toArray])
          have htz : t.size = x1.size := by rw [size_list, size_list]; exact ht1
          have hcs1 : (9223372036854775807 < x0.size + t.size) = False := by have := HZ0.out; have := HZ1.out; simp; omega
          have hcs2 : (9223372036854775807 < x0.size + t.size + x2.size) = False := by have := HZ0.out; have := HZ1.out; have := HZ2.out; simp; omega
          have HT1 := keep ht1
          have HT2 := keep ht2
          have HT3 := keep ht3
          have HTZ := keep htz
          clear htz ht1 ht2 ht3
          (refine AnyGo.take 14 (some 81) ?_ (a' := ?_) rfl (by kernel_rfl) (fun _ _ d _ _ h => by cases d <;> exact h) (by kernel_rfl) (by rfl) (by kernel_rfl) ?_ ?_ ?_; rotate_left 2; (focus (intro W hW; (try dsimp only at hW); go_simp; (try with_reducible rfl))); (focus (simp only [Act.put, List.setIfInBounds_toArray]; rfl)))
          (refine AnyGo.take 22 (some 89) ?_ (a' := ?_) rfl (by kernel_rfl) (fun _ _ d _ _ h => by cases d <;> exact h) (by kernel_rfl) (by rfl) (by kernel_rfl) ?_ ?_ ?_; rotate_left 2; (focus (intro W hW; (try dsimp only at hW); go_simp; (try with_reducible rfl))); (focus (simp only [Act.put, List.setIfInBounds_toArray]; rfl)))
          (refine AnyGo.take 23 (some 12) ?_ (a' := ?_) rfl (by kernel_rfl) (fun _ _ d _ _ h => by cases d <;> exact h) (by kernel_rfl) (by rfl) (by kernel_rfl) ?_ ?_ ?_; rotate_left 2; (focus (intro W hW; (try dsimp only at hW); go_simp; (try with_reducible rfl))); (focus (simp only [Act.put, List.setIfInBounds_toArray]; rfl)))
          refine AnyGo.fin (by kernel_rfl) ?_
          clear hcs1 hcs2 hwk hkt hy0 hy1 hy2 hfr1
          (try simp only [List.set_cons_succ, List.set_cons_zero])
          have HTL : Keep ((x0 ++ t ++ x2).data.toList = cat (fs.take k) ++ (hr (fa fs k) ++ t.data.toList ++ cat (fs.drop (k + 1)))) := ⟨by
            rw [cat_str, cat_str, str_data, str_data, HX0.out, HX2.out, str_data, str_data]; simp⟩
          have HTZ2 : Keep ((x0 ++ t ++ x2).size ≤ 100000) := ⟨by
            have h1 : (x0 ++ t ++ x2).size = x0.size + t.size + x2.size := by rw [ByteArray.size_append, ByteArray.size_append]
            have := HTZ.out; have := HZ0.out; have := HZ1.out; have := HZ2.out; omega⟩
          by_cases htx : t = x1
          · have hT : x0 ++ t ++ x2 = s0 := by
              rw [HS0.out]
              apply str_ext
              rw [HTL.out, str_data, htx, HX1.out, str_data, cat_split fs HKN.out, frB_hr, ← HFA.out]
            have hbe := beq_yes hT
            have HW := all_whole fs HOK.out
            rw [← HS0.out, ← hT] at HW
            have HA0 := fun W => all_any (x0 ++ t ++ x2) _ _ W HTZ2.out HW.1
            rw [HW.2] at HA0
            have HA := keep HA0
            clear HA0 HW hT htx HTL HTZ2
            generalize x0 ++ t ++ x2 = T at *
            go_wp2_with fail
            refine (HA.out _).mono ?_
            rintro e w3 ⟨v2, rfl, hfr, hb⟩
            rw [zp_snd] at hfr
            have HB3 := keep (HB2.out.trans (hb.mono HB2.out.size))
            have HF3 := keep hfr
            have HV3 := keep ((HROW.out.below HB3.out).mono HB3.out.size)
            clear hfr hb
            go_wp2_with fail
            refine (fsame_any _ _ _ w3 HF3.out HV3.out).mono ?_
            rintro e w4 ⟨rfl, hb⟩
            have HB4 := keep (HB3.out.trans (hb.mono HB3.out.size))
            clear hb
            go_wp2_with fail
            refine (live_any _).mono ?_
            rintro e w5 ⟨rfl, hb⟩
            have HB5 := keep (HB4.out.trans (hb.mono HB4.out.size))
            clear hb
            go_wp2_with fail
            go_ret
            exact ⟨rfl, HB5.out⟩
          · have hts : t.data.toList ≠ sg (fs[k]'HKN.out) := fun c => htx (str_ext (by rw [c, HX1.out, str_data, HFA.out]))
            have hT : ¬ x0 ++ t ++ x2 = s0 := fun c => hts (by
              have h1 := congrArg (fun x : ByteArray => x.data.toList) c
              rw [HTL.out, HS0.out, str_data, cat_split fs HKN.out, frB_hr, ← HFA.out] at h1
              have h2 := List.append_cancel_left h1
              rw [List.append_assoc, List.append_assoc] at h2
              have h3 := List.append_cancel_left h2
              rw [← HFA.out]
              exact List.append_cancel_right h3)
            have hbe := beq_no hT
            have HW := burst_whole fs HOK.out k HKN.out t.data.toList (a := a) (F := F) (by rw [HT1.out, HX1.out, str_data, HFA.out]) (by rw [HT2.out, HX1.out, str_data, HFA.out]) HT3.out hts (x0 ++ t ++ x2) (by rw [HTL.out, HFA.out])
            have HA0 := fun W => all_any (x0 ++ t ++ x2) _ _ W HTZ2.out HW.1
            rw [HW.2] at HA0
            have HTK : Keep (FrRow w.heap.size w (.slice (some ⟨b, off, none⟩) k cap) (fs.take k)) := ⟨HROW.out.take (by have := HKN.out; omega) hb⟩
            have hnc : (n : Int) ≤ (cap : Int) := by have := HCAP.out; omega
            have hp2 := HPK2.out
            have HPKN := keep hp2
            generalize pl fs k = Q at *
            have HA := keep HA0
            clear HA0 HW hT htx hts HTL HTZ2 hp2
            generalize x0 ++ t ++ x2 = T at *
            go_wp2_with fail
            refine (HA.out _).mono ?_
            rintro e w3 ⟨v2, rfl, hfr, hb⟩
            rw [zp_take] at hfr
            have HB3 := keep (HB2.out.trans (hb.mono HB2.out.size))
            have HF3 := keep hfr
            have HV3 := keep ((HTK.out.below HB3.out).mono HB3.out.size)
            have HP3 := keep ((hb.cell (p := ⟨pb, po + k, none⟩) HPB2.out).trans HPKN.out)
            have HLT3 : Keep (pb < w3.heap.size) := ⟨Nat.lt_of_lt_of_le HPB2.out hb.size⟩
            clear hfr hb
            go_wp2_with fail
            refine (fsame_any _ _ _ w3 HF3.out HV3.out).mono ?_
            rintro e w4 ⟨rfl, hb⟩
            have HB4 := keep (HB3.out.trans (hb.mono HB3.out.size))
            have hp4 := (hb.cell (p := ⟨pb, po + k, none⟩) HLT3.out).trans HP3.out
            clear hb
            go_wp2_with fail
            refine (live_any _).mono ?_
            rintro e w5 ⟨rfl, hb⟩
            have HB5 := keep (HB4.out.trans (hb.mono HB4.out.size))
            clear hb
            go_wp2_with fail
            go_ret
            exact ⟨rfl, HB5.out⟩
  · clear hx

    go_wp2_with fail
    refine (live_any _).mono ?_
    rintro e w4 ⟨rfl, hb⟩
    have HB4 := keep (hb)
    clear hb
    go_wp2_with fail
    go_ret
    exact ⟨rfl, HB4.out⟩

set_option maxHeartbeats 2000000 in
theorem walk_out (o : Option Addr) (cap : Nat) (fs : List Fr) (k at_ m : Int) (w : World) (h : FrRow w.heap.size w (.slice o fs.length cap) fs) (hk : k < 0 ∨ (fs.length : Int) ≤ k) :
    Calls Try.prog 8 #[.slice o fs.length cap, .int .i64 k, .int .i64 at_, .int .u32 m] w fun e w' => e = .returned (.bool true) ∧ Below w.heap.size w w' := by
  have HL := keep (large_any _ _ fs w h)
  have HRG := keep (right_any _ _ fs w h)
  have hm := h.room
  generalize fs.length = n at *
  have hmI : (n : Int) ≤ 9223372036854775807 := by omega
  clear h hm
  rcases hk with hk | hk
  all_goals
    go_enter Try.func8, Try.ntmps8
    go_wp2_with fail
    refine HL.out.mono ?_
    rintro e w' ⟨x, rfl, hx, rfl⟩
    cases x
    · clear hx
      go_wp2_with fail
      refine HRG.out.mono ?_
      rintro e w' ⟨y, rfl, hy, rfl⟩
      cases y
      · clear hy

        go_wp2_with fail
        refine (live_any _).mono ?_
        rintro e w4 ⟨rfl, hb⟩
        have HB4 := keep (hb)
        clear hb
        go_wp2_with fail
        go_ret
        exact ⟨rfl, HB4.out⟩
      · clear hy

        go_wp2_with fail
        refine (live_any _).mono ?_
        rintro e w4 ⟨rfl, hb⟩
        have HB4 := keep (hb)
        clear hb
        go_wp2_with fail
        go_ret
        exact ⟨rfl, HB4.out⟩
    · clear hx

      go_wp2_with fail
      refine (live_any _).mono ?_
      rintro e w4 ⟨rfl, hb⟩
      have HB4 := keep (hb)
      clear hb
      go_wp2_with fail
      go_ret
      exact ⟨rfl, HB4.out⟩

theorem walk (v : Value) (fs : List Fr) (k at_ m : Int) (w : World) (h : FrRow w.heap.size w v fs) (_ : (Lit.int .i64 k).wf = true) (_ : (Lit.int .i64 at_).wf = true) (_ : (Lit.int .u32 m).wf = true) :
    Calls Try.prog 8 #[v, .int .i64 k, .int .i64 at_, .int .u32 m] w fun e w' => e = .returned (.bool true) ∧ Below w.heap.size w w' := by
  obtain ⟨o, cap, rfl⟩ := h.form
  by_cases h0 : k < 0
  · exact walk_out o cap fs k at_ m w h (.inl h0)
  · by_cases h1 : (fs.length : Int) ≤ k
    · exact walk_out o cap fs k at_ m w h (.inr h1)
    · obtain ⟨k, rfl⟩ := Int.eq_ofNat_of_zero_le (show 0 ≤ k by omega)
      rcases h.out with ⟨rfl, _⟩ | ⟨b, off, cap', e, hb, hc, _⟩
      · simp at h1
      · injection e with e1 e2 e3
        subst e1 e3
        exact walk_in b off cap fs k at_ m w h hb hc (by omega)
theorem own : ownKnob Try.prog.godebug = none := by kernel_rfl
theorem laid : laidOutB Try.prog = true := by kernel_rfl

set_option maxRecDepth 100000 in
theorem lifted (os : Os) (started : os.Started) (H : Type) (enc : TypeId × Value → H) :
    ReturnsInHanded {} Try.checked os 8 .any (Rows.frameBurstsSpec.pre6 enc Try.prog Try.f8 Rows.frameBurstsRow.domain false) (Rows.frameBurstsSpec.post enc Try.prog Try.f8 false true false false) := by
  refine returnsInHanded_of_change (C := Try.checked) own started (by kernel_rfl) Try.func8
    (ChangeSpec.witness6 (enc := enc) (C := Try.checked) false ⟨#[], #[.slice none 0 0, .int .i64 0, .int .i64 0, .int .u32 0], []⟩ 8 (by kernel_rfl) (by kernel_rfl) (by kernel_rfl) (by kernel_rfl)) ?_
  intro W base args ds gs before hval0 hW hcnd _
  have hval : ∀ (j : Nat) t v, Try.f8.params[j]? = some t → args[j]? = some v → Value.okWide Try.prog W .any base t v := hval0
  have hW' := hW
  obtain ⟨p, q, hA0, hV, rfl, hfz, hnd⟩ := hW
  have hA : DataW.TrodAll enc Try.prog W 0 (fun _ => true) true Try.f8.params.toList args.toList ds p := hA0
  rw [Try.params8] at hA hval
  obtain ⟨v0, vs0, d0, ds0, p0, q0, hargs, rfl, rfl, h0, r0⟩ := trodAll_cons hA
  obtain ⟨v1, vs1, d1, ds1, p1, q1, rfl, rfl, rfl, h1, r1⟩ := trodAll_cons r0
  obtain ⟨v2, vs2, d2, ds2, p2, q2, rfl, rfl, rfl, h2, r2⟩ := trodAll_cons r1
  obtain ⟨v3, vs3, d3, ds3, p3, q3, rfl, rfl, rfl, h3, r3⟩ := trodAll_cons r2
  obtain ⟨rfl, rfl, rfl⟩ := trodAll_nil r3
  obtain rfl : args = #[v0, v1, v2, v3] := by cases args; simp_all
  obtain ⟨rfl, rfl⟩ := trodVars_none hV
  obtain ⟨a0, w0⟩ := frs_of (enc := enc) h0 (hval 0 38 v0 rfl rfl)
  obtain ⟨a1, rfl, rfl, rfl, w1⟩ := open_int Try.underlying3 (hval 1 3 v1 rfl rfl) h1
  obtain ⟨a2, rfl, rfl, rfl, w2⟩ := open_int Try.underlying3 (hval 2 3 v2 rfl rfl) h2
  obtain ⟨a3, rfl, rfl, rfl, w3⟩ := open_int Try.underlying54 (hval 3 54 v3 rfl rfl) h3
  clear hA0 hval0
  simp only [List.append_nil] at hW'
  have hlt0 : ∀ x ∈ p0, x.block < W.heap.size := fun x hx => by
    have := hW'.lt x (by simp [hx])
    simpa using this
  refine (walk v0 a0 a1 a2 a3 W w0 w1 w2 w3).mono fun e W' ⟨he, hg⟩ => ?_
  subst he
  exact ⟨_, rfl, _, _, _, [], _, [], hW', (trodAll_cons_mk (shut_bool Try.underlying4 _) trodAll_mk0), (trodAll_cons_mk (Below.trod laid (by kernel_rfl) (of_decide_eq_true (by kernel_rfl)) h0 hg hlt0) (trodAll_cons_mk (shut_int Try.underlying3 w1) (trodAll_cons_mk (shut_int Try.underlying3 w2) (trodAll_cons_mk (shut_int Try.underlying54 w3) trodAll_mk0)))), rfl, hg.frame _, fun h => by cases h⟩

theorem over : Rows.frameBurstsRow.holds Try.pinned (OpenSpec.ofChange Rows.frameBurstsSpec) :=
  OpenClaim.holds_of_wide 8 Try.f8 rfl rfl rfl rfl rfl rfl rfl ⟨rfl, rfl, rfl, rfl, rfl⟩ rfl rfl rfl rfl rfl (by kernel_rfl) Try.func8 (by kernel_rfl)
    (of_decide_eq_true (by kernel_rfl)) (by unfold Func.isWrapper; first | (rw [if_pos (by decide +kernel)]; kernel_rfl) | (rw [if_neg (by decide +kernel)]; exact ⟨rfl, rfl⟩))
    (fun os started H enc _ => lifted os started H enc)

/-- The statement. -/
theorem proved : Rows.FrameBurstsSaid :=
  over
#print axioms proved
end Go.Proofs.Ytghgahcgbnpidaa.frameBursts
