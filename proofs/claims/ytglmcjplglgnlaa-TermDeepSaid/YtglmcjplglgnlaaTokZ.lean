/-
  The document's All.
-/
import Derived.Test.YtglmcjplglgnlaaTokX
namespace Go.Proofs.Ytglmcjplglgnlaa
open Go.RowKit Go.Joins

/-- What a store of three cells leaves. -/
structure Put3 (W : World) (B : Nat) : Prop where
  s0 : ∀ x, (W.setCell ⟨B, 0, none⟩ x).cell? ⟨B, 0, none⟩ = some x
  s1 : ∀ x y, ((W.setCell ⟨B, 0, none⟩ x).setCell ⟨B, 1, none⟩ y).cell? ⟨B, 1, none⟩ = some y
  s2 : ∀ x y z, (((W.setCell ⟨B, 0, none⟩ x).setCell ⟨B, 1, none⟩ y).setCell ⟨B, 2, none⟩ z).cell? ⟨B, 2, none⟩ = some z
theorem BoxL.put3 {W : World} {B : Nat} {v0 v1 v2 : Value} (h : BoxL W B [v0, v1, v2]) : Put3 W B :=
  ⟨fun x => (h.set 0 x (by simp)).row 0 _ rfl, fun x y => ((h.set 0 x (by simp)).set 1 y (by simp)).row 1 _ rfl,
   fun x y z => (((h.set 0 x (by simp)).set 1 y (by simp)).set 2 z (by simp)).row 2 _ rfl⟩
theorem below_put3 {n : Nat} {w W : World} {B : Nat} (h : Below n w W) (hB : n ≤ B) (x y z : Value) : Below n w (((W.setCell ⟨B, 0, none⟩ x).setCell ⟨B, 1, none⟩ y).setCell ⟨B, 2, none⟩ z) :=
  ((h.setCell hB _).setCell hB _).setCell hB _
theorem size_put3 (W : World) (B : Nat) : ∀ x y z : Value, (((W.setCell ⟨B, 0, none⟩ x).setCell ⟨B, 1, none⟩ y).setCell ⟨B, 2, none⟩ z).heap.size = W.heap.size := fun x y z => by simp only [World.size_setCell]
theorem own_slice' {W : World} {B : Nat} {e : TypeId} {n len : Nat} {v : Value} {cs : List Value} (h : W.ownsRow B e n v len cs) : ∃ o m c, v = .slice o m c := by
  rcases h.2 with ⟨rfl, _⟩ | ⟨g, cap, cur, rfl, _⟩
  · exact ⟨_, _, _, rfl⟩
  · exact ⟨_, _, _, rfl⟩
theorem grown_at (W : World) (d i : Nat) (v : Value) : W.grownBy (W.setCell ⟨d, i, none⟩ v) (some d) := ⟨rfl, rfl, rfl, by simp, fun k _ hne => heap_setCell_other _ _ _ _ (fun e => hne (by rw [e]))⟩
theorem own_set {W : World} {B : Nat} {e : TypeId} {n len : Nat} {v : Value} {cs : List Value} (h : W.ownsRow B e n v len cs) {d : Nat} (hd : d < B) (i : Nat) (x : Value) : (W.setCell ⟨d, i, none⟩ x).ownsRow B e n v len cs :=
  h.kept (grown_at W d i x) (.inr (fun c => by have := (h.lt d c).1; omega))

def RAllIs (ts : List Tok) (r : Int × Int) (w : World) (e : Ending) (w' : World) : Prop := ∃ v, e = .returned (.agg #[v, .int .i64 r.1, .int .i64 r.2]) ∧ TkRow w'.heap.size w' v (told ts r) ∧ Below w.heap.size w w'

/-- Between two rounds of the document's All. -/
structure RAllAt (l : List UInt8) (ts : List Tok) (r : Int × Int) (w : World) (k : Nat) (wr : World) : Prop where
  out : ∃ pre rest v A, ts = pre ++ rest ∧ Toks l k rest r ∧ k ≤ l.length ∧ pre.length ≤ k ∧ wr.ownsRow (w.heap.size + 2) 51 4 v pre.length (tcs pre) ∧ BoxL wr w.heap.size [.slice none 0 0, .int .i64 0, .int .i64 0] ∧ BoxL wr (w.heap.size + 1) [v, .int .i64 A, .int .i64 0] ∧ Below w.heap.size w wr

set_option maxRecDepth 100000 in
set_option maxHeartbeats 8000000 in
theorem rall_any (l : List UInt8) (ts : List Tok) (r : Int × Int) (hs : l.length ≤ 65536) (h : Toks l 0 ts r) (w : World) :
    Calls Try.prog 11 #[.string (str l)] w fun e w' => RAllIs ts r w e w' := by
  obtain ⟨R1, R2⟩ := r
  have hz : (str l).size = l.length := str_size l
  have HNX := keep (fun (k : Nat) (hk : k ≤ l.length) w => show Calls Try.prog 20 #[.string (str l), .int .i64 (k : Int)] w fun e w' => GotIs (nxt l k) e ∧ Below w.heap.size w w' by
    have := rnext_any l (k : Int) (by omega) w
    rw [nxtI_in hk] at this
    exact this)
  generalize str l = s at *
  have hsI : (s.size : Int) ≤ 65536 := by omega
  have hb1 := BoxL.new w [.slice none 0 0, .int .i64 0, .int .i64 0] 34
  have hb2 := BoxL.new (w.alloc (.cells #[.slice none 0 0, .int .i64 0, .int .i64 0] 34)) [.slice none 0 0, .int .i64 0, .int .i64 0] 34
  rw [World.size_alloc] at hb2
  have H0 : Keep (RAllAt l ts (R1, R2) w 0 ((w.alloc (.cells #[.slice none 0 0, .int .i64 0, .int .i64 0] 34)).alloc (.cells #[.slice none 0 0, .int .i64 0, .int .i64 0] 34))) :=
    ⟨⟨[], ts, .slice none 0 0, 0, rfl, h, Nat.zero_le _, Nat.zero_le _, World.ownsRow_nil _ _ _ _, hb1.alloc _, hb2, ((Below.refl _ w).alloc (Nat.le_refl _) _).alloc (by simp) _⟩⟩
  have HS := keep hs
  clear hz hs h hb1 hb2
  go_enter Try.func11, Try.ntmps11
  go_wp2_with fail
  go_loopw [4] (fun iv wr => ∃ (k : Nat), iv = .int .i64 (k : Int) ∧ Keep (RAllAt l ts (R1, R2) w k wr)) (fun iv _ => 65537 - (intOf iv).toNat)
  case atStart => exact ⟨0, rfl, H0⟩
  case round =>
    obtain ⟨k, rfl, ⟨⟨pre, rest, v, A, hsp, htk, hkl, hpl, hown, hR, hX', hB⟩⟩⟩ := hrel
    clear H0
    have hNX := HNX.out k hkl
    have HB := keep hB
    have HOWN := keep hown
    have HPL := keep hpl
    have HKL := keep hkl
    have HSP := keep hsp
    have HR := keep hR
    have HX := keep hX'
    clear hR hX'
    rcases toks_inv htk with ⟨hr, hne, t, hX⟩ | ⟨t, P, hr, hr2, hX, hK⟩ | ⟨t, b, ts', hr, hX, hK, hab, hbl, htk'⟩
    · have hEb : (R2 == 0) = false := by simpa using hne
      have HT : Keep (told ts (R1, R2) = []) := ⟨by unfold told; rw [if_neg hne]⟩
      unfold GotIs at hNX
      rw [hX] at hNX
      simp only at hNX
      clear hX hne hsp hown hB htk hpl hkl
      go_wp2_with fail
      refine (hNX _).mono ?_
      rintro e w1 ⟨rfl, hb⟩
      have HW1 := keep hb
      have HB1 := keep (HB.out.trans (hb.mono HB.out.size))
      have HR1 := keep (HR.out.to hb)
      have HX1 := keep (HX.out.to hb)
      clear hb
      have HGB := keep (BoxL.new w1 [.int .i64 t.K, .string t.S, .int .i64 t.V, .int .i64 t.A, .int .i64 R1, .int .i64 R2] 53)
      have HR2 := keep (HR1.out.alloc (.cells #[.int .i64 t.K, .string t.S, .int .i64 t.V, .int .i64 t.A, .int .i64 R1, .int .i64 R2] 53))
      have HB2 := keep (HB1.out.alloc HB1.out.size (.cells #[.int .i64 t.K, .string t.S, .int .i64 t.V, .int .i64 t.A, .int .i64 R1, .int .i64 R2] 53))
      have hx0 := HR1.out.row 0 _ rfl
      have hx1 := HR1.out.row 1 _ rfl
      have hx2 := HR1.out.row 2 _ rfl
      have hxl := HR1.out.lt
      have hxf := HR1.out.free
      obtain ⟨hs0, hs1, hs2⟩ := HR1.out.put3
      have hsz := size_put3 w1 w.heap.size
      go_wp2_with fail
      refine bodyPost_ret (v := .agg #[.slice none 0 0, .int .i64 R1, .int .i64 R2]) ?_ rfl ⟨_, rfl, by rw [HT.out]; exact TkRow.nil _ _, (below_put3 HB1.out (Nat.le_refl _) _ _ _).alloc (by rw [hsz]; exact HB1.out.size) _⟩
      simp [results, Try.results11, go_sem, hs0, hs1, hs2, hsz, hxl]
    · have HT : Keep (told ts (R1, R2) = pre ++ [t]) := ⟨by unfold told; rw [if_pos (by rw [hr2]), hsp, hr]⟩
      obtain ⟨rfl, rfl⟩ := Prod.mk.inj hr2
      have hKb : (t.K == 0) = true := by simp [hK]
      unfold GotIs at hNX
      rw [hX] at hNX
      simp only at hNX
      clear hX hsp hown hB htk hpl hkl hr hr2 hK
      go_wp2_with fail
      refine (hNX _).mono ?_
      rintro e w1 ⟨rfl, hb⟩
      have HW1 := keep hb
      have HB1 := keep (HB.out.trans (hb.mono HB.out.size))
      have HR1 := keep (HR.out.to hb)
      have HX1 := keep (HX.out.to hb)
      clear hb
      have HGB := keep ((BoxL.new w1 [.int .i64 t.K, .string t.S, .int .i64 t.V, .int .i64 t.A, .int .i64 P, .int .i64 0] 53).alloc (.cells #[.int .i64 t.K, .string t.S, .int .i64 t.V, .int .i64 t.A] 51))
      have HCP := keep (BoxL.new (w1.alloc (.cells #[.int .i64 t.K, .string t.S, .int .i64 t.V, .int .i64 t.A, .int .i64 P, .int .i64 0] 53)) [.int .i64 t.K, .string t.S, .int .i64 t.V, .int .i64 t.A] 51)
      rw [World.size_alloc] at HCP
      have hd1 : ¬ w1.heap.size = w.heap.size + 1 := by have := HX1.out.lt; omega
      have hd2 : ¬ w.heap.size + 1 = w1.heap.size := by omega
      have hd3 : ¬ w.heap.size = w1.heap.size := by have := HX1.out.lt; omega
      have hd4 : ¬ w1.heap.size = w.heap.size := by omega
      have hx0 := HX1.out.row 0 _ rfl
      have hx1 := HX1.out.row 1 _ rfl
      have hx2 := HX1.out.row 2 _ rfl
      have hxl := HX1.out.lt
      have hxf := HX1.out.free
      go_wp2_with (at_builtin; refine wpList_append_k rfl _ _ rfl (w.heap.size + 2) v pre rfl ((own_to HOWN.out HW1.out).alloc _ |>.alloc _) (by have := HX1.out.lt; simp; omega) (by have := HPL.out; have := HKL.out; have := HS.out; omega) (w1.heap.size + 1) 1 t rfl (tk4 HCP.out) ?_)
      intro v' w3 hown' hgrow
      obtain ⟨o', n', c', rfl⟩ := own_slice' hown'
      have hrow := fun m hm => (HOWN.out.lt m hm)
      have HX3 := keep (((HX1.out.alloc (.cells #[.int .i64 t.K, .string t.S, .int .i64 t.V, .int .i64 t.A, .int .i64 P, .int .i64 0] 53)).alloc (.cells #[.int .i64 t.K, .string t.S, .int .i64 t.V, .int .i64 t.A] 51)).grown hgrow (fun e => by have := (hrow _ e.symm).1; omega))
      have HR3 := keep (((HR1.out.alloc (.cells #[.int .i64 t.K, .string t.S, .int .i64 t.V, .int .i64 t.A, .int .i64 P, .int .i64 0] 53)).alloc (.cells #[.int .i64 t.K, .string t.S, .int .i64 t.V, .int .i64 t.A] 51)).grown hgrow (fun e => by have := (hrow _ e.symm).1; omega))
      have HG3 := keep (HGB.out.grown hgrow (fun e => by have := (hrow _ e.symm).2; have := HW1.out.size; omega))
      have HB3 := keep ((HB1.out.alloc HB1.out.size _ |>.alloc (by have := HB1.out.size; simp; omega) _).grown hgrow (by have := HB1.out.size; simp; omega) (fun m hm => by have := (hrow m hm).1; omega))
      have HO4 := keep (own_set (own_set hown' (d := w.heap.size + 1) (by omega) 0 (.slice o' n' c')) (d := w.heap.size + 1) (by omega) 1 (.int .i64 t.A))
      have HX4 := keep ((HX3.out.set 0 (.slice o' n' c') (by simp)).set 1 (.int .i64 t.A) (by simp))
      have HR4 := keep ((HR3.out.other (p := ⟨w.heap.size + 1, 0, none⟩) (.slice o' n' c') (by simp)).other (p := ⟨w.heap.size + 1, 1, none⟩) (.int .i64 t.A) (by simp))
      have HG4 := keep ((HG3.out.other (p := ⟨w.heap.size + 1, 0, none⟩) (.slice o' n' c') hd2).other (p := ⟨w.heap.size + 1, 1, none⟩) (.int .i64 t.A) hd2)
      have HB4 := keep ((HB3.out.setCell (p := ⟨w.heap.size + 1, 0, none⟩) (by simp) (.slice o' n' c')).setCell (p := ⟨w.heap.size + 1, 1, none⟩) (by simp) (.int .i64 t.A))
      have hg0 := HG3.out.row 0 _ rfl
      have hg3 := HG3.out.row 3 _ rfl
      have hg4 := HG3.out.row 4 _ rfl
      have hx0' := HX3.out.row 0 _ rfl
      have hx1' := HX3.out.row 1 _ rfl
      have hx2' := HX3.out.row 2 _ rfl
      have hxl' := HX3.out.lt
      have hxf' := HX3.out.free
      clear hown' hgrow hrow hx0 hx1 hx2 hxl hxf
      have hr0 := HR4.out.row 0 _ rfl
      have hr1 := HR4.out.row 1 _ rfl
      have hr2 := HR4.out.row 2 _ rfl
      have hrl := HR4.out.lt
      have hrf := HR3.out.free
      have hy0 := HX4.out.row 0 _ rfl
      have hy1 := HX4.out.row 1 _ rfl
      have hy2 := HX4.out.row 2 _ rfl
      have hg4' := HG4.out.row 0 _ rfl
      obtain ⟨hs0, hs1, hs2⟩ := HR4.out.put3
      go_wp2_with fail
      refine bodyPost_ret (v := .agg #[.slice o' n' c', .int .i64 t.A, .int .i64 0]) ?_ rfl ⟨_, rfl, by rw [HT.out]; exact TkRow.of_own (ts := pre ++ [t]) (B := w.heap.size + 2) (by rw [List.length_append]; exact own_set (own_set (own_set HO4.out (d := w.heap.size) (by omega) 0 _) (d := w.heap.size) (by omega) 1 _) (d := w.heap.size) (by omega) 2 _) (by have := HPL.out; have := HKL.out; have := HS.out; simp; omega), below_put3 HB4.out (Nat.le_refl _) _ _ _⟩
      simp [results, Try.results11, go_sem, hs0, hs1, hs2]
    · have hKb : (t.K == 0) = false := by simpa using hK
      have HNEXT := keep (show ts = (pre ++ [t]) ++ ts' by rw [hsp, hr]; simp)
      have HTK := keep htk'
      have HAB := keep (show k < b ∧ b ≤ l.length from ⟨hab, hbl⟩)
      obtain ⟨P, hP⟩ : ∃ P : Int, P = (b : Int) := ⟨_, rfl⟩
      rw [← hP] at hX
      have HP := keep hP
      unfold GotIs at hNX
      rw [hX] at hNX
      simp only at hNX
      clear hX hsp hown hB htk hpl hkl hr hK htk' hab hbl hP
      go_wp2_with fail
      refine (hNX _).mono ?_
      rintro e w1 ⟨rfl, hb⟩
      have HW1 := keep hb
      have HB1 := keep (HB.out.trans (hb.mono HB.out.size))
      have HR1 := keep (HR.out.to hb)
      have HX1 := keep (HX.out.to hb)
      clear hb
      have HGB := keep ((BoxL.new w1 [.int .i64 t.K, .string t.S, .int .i64 t.V, .int .i64 t.A, .int .i64 P, .int .i64 0] 53).alloc (.cells #[.int .i64 t.K, .string t.S, .int .i64 t.V, .int .i64 t.A] 51))
      have HCP := keep (BoxL.new (w1.alloc (.cells #[.int .i64 t.K, .string t.S, .int .i64 t.V, .int .i64 t.A, .int .i64 P, .int .i64 0] 53)) [.int .i64 t.K, .string t.S, .int .i64 t.V, .int .i64 t.A] 51)
      rw [World.size_alloc] at HCP
      have hd1 : ¬ w1.heap.size = w.heap.size + 1 := by have := HX1.out.lt; omega
      have hd2 : ¬ w.heap.size + 1 = w1.heap.size := by omega
      have hd3 : ¬ w.heap.size = w1.heap.size := by have := HX1.out.lt; omega
      have hd4 : ¬ w1.heap.size = w.heap.size := by omega
      have hx0 := HX1.out.row 0 _ rfl
      have hx1 := HX1.out.row 1 _ rfl
      have hx2 := HX1.out.row 2 _ rfl
      have hxl := HX1.out.lt
      have hxf := HX1.out.free
      go_wp2_with (at_builtin; refine wpList_append_k rfl _ _ rfl (w.heap.size + 2) v pre rfl ((own_to HOWN.out HW1.out).alloc _ |>.alloc _) (by have := HX1.out.lt; simp; omega) (by have := HPL.out; have := HKL.out; have := HS.out; omega) (w1.heap.size + 1) 1 t rfl (tk4 HCP.out) ?_)
      intro v' w3 hown' hgrow
      obtain ⟨o', n', c', rfl⟩ := own_slice' hown'
      have hrow := fun m hm => (HOWN.out.lt m hm)
      have HX3 := keep (((HX1.out.alloc (.cells #[.int .i64 t.K, .string t.S, .int .i64 t.V, .int .i64 t.A, .int .i64 P, .int .i64 0] 53)).alloc (.cells #[.int .i64 t.K, .string t.S, .int .i64 t.V, .int .i64 t.A] 51)).grown hgrow (fun e => by have := (hrow _ e.symm).1; omega))
      have HR3 := keep (((HR1.out.alloc (.cells #[.int .i64 t.K, .string t.S, .int .i64 t.V, .int .i64 t.A, .int .i64 P, .int .i64 0] 53)).alloc (.cells #[.int .i64 t.K, .string t.S, .int .i64 t.V, .int .i64 t.A] 51)).grown hgrow (fun e => by have := (hrow _ e.symm).1; omega))
      have HG3 := keep (HGB.out.grown hgrow (fun e => by have := (hrow _ e.symm).2; have := HW1.out.size; omega))
      have HB3 := keep ((HB1.out.alloc HB1.out.size _ |>.alloc (by have := HB1.out.size; simp; omega) _).grown hgrow (by have := HB1.out.size; simp; omega) (fun m hm => by have := (hrow m hm).1; omega))
      have HO4 := keep (own_set (own_set hown' (d := w.heap.size + 1) (by omega) 0 (.slice o' n' c')) (d := w.heap.size + 1) (by omega) 1 (.int .i64 t.A))
      have HX4 := keep ((HX3.out.set 0 (.slice o' n' c') (by simp)).set 1 (.int .i64 t.A) (by simp))
      have HR4 := keep ((HR3.out.other (p := ⟨w.heap.size + 1, 0, none⟩) (.slice o' n' c') (by simp)).other (p := ⟨w.heap.size + 1, 1, none⟩) (.int .i64 t.A) (by simp))
      have HG4 := keep ((HG3.out.other (p := ⟨w.heap.size + 1, 0, none⟩) (.slice o' n' c') hd2).other (p := ⟨w.heap.size + 1, 1, none⟩) (.int .i64 t.A) hd2)
      have HB4 := keep ((HB3.out.setCell (p := ⟨w.heap.size + 1, 0, none⟩) (by simp) (.slice o' n' c')).setCell (p := ⟨w.heap.size + 1, 1, none⟩) (by simp) (.int .i64 t.A))
      have hg0 := HG3.out.row 0 _ rfl
      have hg3 := HG3.out.row 3 _ rfl
      have hg4 := HG3.out.row 4 _ rfl
      have hx0' := HX3.out.row 0 _ rfl
      have hx1' := HX3.out.row 1 _ rfl
      have hx2' := HX3.out.row 2 _ rfl
      have hxl' := HX3.out.lt
      have hxf' := HX3.out.free
      clear hown' hgrow hrow hx0 hx1 hx2 hxl hxf
      go_wp2_with fail
      go_roundw
      case rel => exact ⟨b, by rw [HP.out], ⟨⟨pre ++ [t], ts', .slice o' n' c', t.A, HNEXT.out, HTK.out, HAB.out.2, by have := HPL.out; have := HAB.out.1; simp; omega, by rw [List.length_append]; exact HO4.out, HR4.out, HX4.out, HB4.out⟩⟩⟩
      case measure => have h1 := HAB.out; have h2 := HS.out; have h3 := HP.out; simp [intOf]; omega
end Go.Proofs.Ytglmcjplglgnlaa
