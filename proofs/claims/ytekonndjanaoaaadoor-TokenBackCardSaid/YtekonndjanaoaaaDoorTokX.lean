/-
  The program's All.
-/
import Derived.Test.YtekonndjanaoaaaDoorTokW
namespace Go.Proofs.YtekonndjanaoaaaDoor
open Go.RowKit Go.Joins

theorem toks_inv {s : List UInt8} {a : Nat} {ts : List Tok} {r : Int × Int} (h : Toks s a ts r) :
    (ts = [] ∧ r.2 ≠ 0 ∧ ∃ t, nxt s a = (t, r.1, r.2)) ∨ (∃ t p, ts = [t] ∧ r = (t.A, 0) ∧ nxt s a = (t, p, 0) ∧ t.K = 0) ∨ (∃ t b ts', ts = t :: ts' ∧ nxt s a = (t, ((b : Nat) : Int), 0) ∧ t.K ≠ 0 ∧ a < b ∧ b ≤ s.length ∧ Toks s b ts' r) := by
  cases h with
  | bad _ t p e h1 h2 => exact .inl ⟨rfl, h2, t, h1⟩
  | fin _ t p h1 h2 => exact .inr (.inl ⟨t, p, rfl, rfl, h1, h2⟩)
  | step _ b t ts _ h1 h2 h3 h4 h5 => exact .inr (.inr ⟨t, b, _, rfl, h1, h2, h3, h4, h5⟩)
theorem own_to {W W' : World} {B : Nat} {e : TypeId} {n len : Nat} {v : Value} {cs : List Value} (h : W.ownsRow B e n v len cs) (hb : Below W.heap.size W W') : W'.ownsRow B e n v len cs :=
  h.kept (row := none) ⟨hb.os, hb.tape, hb.output, hb.size, fun j hj _ => hb.block j hj⟩ (by cases v.ownBlock <;> simp)
theorem grown_cell {X Y : World} {row : Option Nat} (h : X.grownBy Y row) {p : Addr} (hp : p.block < X.heap.size) (hne : some p.block ≠ row) : Y.cell? p = X.cell? p := by
  simp only [World.cell?, h.block p.block hp hne]
theorem tk4 {W : World} {b : Nat} {t : Tok} (h : BoxL W b [.int .i64 t.K, .string t.S, .int .i64 t.V, .int .i64 t.A]) : ∀ j u, ([.int .i64 t.K, .string t.S, .int .i64 t.V, .int .i64 t.A] : List Value)[j]? = some u → W.cell? ⟨b, j, none⟩ = some u := h.row
theorem BoxL.grown {X Y : World} {row : Option Nat} {b : Nat} {vs : List Value} (h : BoxL X b vs) (hg : X.grownBy Y row) (hne : some b ≠ row) : BoxL Y b vs :=
  ⟨fun i v hi => (grown_cell hg (p := ⟨b, i, none⟩) h.lt hne).trans (h.row i v hi), fun i => by
    have := h.free i
    simp only [World.frozen?, hg.block b h.lt hne] at this ⊢
    exact this, Nat.lt_of_lt_of_le h.lt hg.size⟩

def AllIs (ts : List Tok) (r : Int × Int) (w : World) (e : Ending) (w' : World) : Prop := ∃ v, e = .returned (.tuple #[v, .int .i64 r.1, .int .i64 r.2]) ∧ TkRow w'.heap.size w' v (told ts r) ∧ Below w.heap.size w w'

set_option maxHeartbeats 1000000 in
theorem all_long (s : ByteArray) (hs : 65536 < s.size) (w : World) : Calls Tryd.prog 10 #[.string s] w fun e w' => e = .returned (.tuple #[.slice none 0 0, .int .i64 0, .int .i64 5]) ∧ w = w' := by
  have hsI : (65536 : Int) < (s.size : Int) := by omega
  clear hs
  go_enter Tryd.func10, Tryd.ntmps10
  go_wp2
  go_ret3
  exact ⟨rfl, rfl⟩

/-- Between two rounds of All. -/
structure AllAt (l : List UInt8) (ts : List Tok) (r : Int × Int) (w : World) (k : Nat) (v : Value) (wr : World) : Prop where
  out : ∃ pre rest, ts = pre ++ rest ∧ Toks l k rest r ∧ k ≤ l.length ∧ pre.length ≤ k ∧ wr.ownsRow w.heap.size 24 4 v pre.length (tcs pre) ∧ Below w.heap.size w wr

set_option maxRecDepth 100000 in
set_option maxHeartbeats 8000000 in
theorem all_any (l : List UInt8) (ts : List Tok) (r : Int × Int) (hs : l.length ≤ 65536) (h : Toks l 0 ts r) (w : World) :
    Calls Tryd.prog 10 #[.string (str l)] w fun e w' => AllIs ts r w e w' := by
  obtain ⟨R1, R2⟩ := r
  have hz : (str l).size = l.length := str_size l
  have HNX := keep (fun (k : Nat) (hk : k ≤ l.length) w => show Calls Tryd.prog 8 #[.string (str l), .int .i64 (k : Int)] w fun e w' => NxIs (nxt l k) e ∧ Below w.heap.size w w' by
    have := next_any l (k : Int) (by omega) w
    rw [nxtI_in hk] at this
    exact this)
  generalize str l = s at *
  have hsI : (s.size : Int) ≤ 65536 := by omega
  have H0 : Keep (AllAt l ts (R1, R2) w 0 (.slice none 0 0) w) := ⟨⟨[], ts, rfl, h, Nat.zero_le _, Nat.zero_le _, World.ownsRow_nil _ _ _ _, Below.refl _ _⟩⟩
  have HS := keep hs
  clear hz hs h
  go_enter Tryd.func10, Tryd.ntmps10
  go_wp2_with fail
  go_loopw [5, 6] (fun vv iv wr => ∃ (k : Nat) (v : Value), vv = v ∧ iv = .int .i64 (k : Int) ∧ Keep (AllAt l ts (R1, R2) w k v wr)) (fun _ iv _ => 65537 - (intOf iv).toNat)
  case atStart => exact ⟨0, _, rfl, rfl, H0⟩
  case round =>
    obtain ⟨k, v, ev, rfl, ⟨⟨pre, rest, hsp, htk, hkl, hpl, hown, hB⟩⟩⟩ := hrel
    obtain rfl := ev.symm
    clear H0
    have hNX := HNX.out k hkl
    have HB := keep hB
    have HOWN := keep hown
    have HPL := keep hpl
    have HKL := keep hkl
    have HSP := keep hsp
    have hnb : ∀ m, v.ownBlock = some m → m < wr.heap.size := fun m hm => (hown.lt m hm).2
    rcases toks_inv htk with ⟨hr, hne, t, hX⟩ | ⟨t, p, hr, hr2, hX, hK⟩ | ⟨t, b, ts', hr, hX, hK, hab, hbl, htk'⟩
    · have hEb : (R2 == 0) = false := by simpa using hne
      have HT : Keep (told ts (R1, R2) = []) := ⟨by unfold told; rw [if_neg hne]⟩
      unfold NxIs at hNX
      rw [hX] at hNX
      unfold Tok.agg at hNX
      simp only at hNX
      clear hX hne hsp hown hB htk hpl hkl
      go_wp2_with fail
      refine (hNX _).mono ?_
      rintro e w1 ⟨rfl, hb⟩
      have HW1 := keep hb
      have HB1 := keep (HB.out.trans (hb.mono HB.out.size))
      clear hb
      go_wp2_with fail
      go_ret3
      exact ⟨_, rfl, by rw [HT.out]; exact TkRow.nil _ _, HB1.out.alloc HB1.out.size _⟩
    · have HT : Keep (told ts (R1, R2) = pre ++ [t]) := ⟨by unfold told; rw [if_pos (by rw [hr2]), hsp, hr]⟩
      obtain ⟨rfl, rfl⟩ := Prod.mk.inj hr2
      have hKb : (t.K == 0) = true := by simp [hK]
      unfold NxIs at hNX
      rw [hX] at hNX
      unfold Tok.agg at hNX
      simp only at hNX
      clear hX hsp hown hB htk hpl hkl hr hr2 hK
      go_wp2_with fail
      refine (hNX _).mono ?_
      rintro e w1 ⟨rfl, hb⟩
      have HW1 := keep hb
      have HB1 := keep (HB.out.trans (hb.mono HB.out.size))
      clear hb
      have HBX := keep ((BoxL.new w1 [.int .i64 t.K, .string t.S, .int .i64 t.V, .int .i64 t.A] 24).alloc (.cells #[.int .i64 t.K, .string t.S, .int .i64 t.V, .int .i64 t.A] 24))
      have HCP := keep (BoxL.new (w1.alloc (.cells #[.int .i64 t.K, .string t.S, .int .i64 t.V, .int .i64 t.A] 24)) [.int .i64 t.K, .string t.S, .int .i64 t.V, .int .i64 t.A] 24)
      rw [World.size_alloc] at HCP
      go_wp2_with (at_builtin; refine wpList_append_k rfl _ _ rfl w.heap.size v pre rfl ((own_to HOWN.out HW1.out).alloc _ |>.alloc _) (by have := HB1.out.size; simp; omega) (by have := HPL.out; have := HKL.out; have := HS.out; omega) (w1.heap.size + 1) 1 t rfl (tk4 HCP.out) ?_)
      intro v' w3 hown' hgrow
      have HO3 := keep hown'
      have HB3 := keep ((HB1.out.alloc HB1.out.size _ |>.alloc (by have := HB1.out.size; simp; omega) _).grown hgrow (by have := HB1.out.size; simp; omega) (fun m hm => (HOWN.out.lt m hm).1))
      have HX3 := keep (HBX.out.grown hgrow (fun e => by have := hnb _ e.symm; have := HW1.out.size; omega))
      have hx0 := HX3.out.row 0 _ rfl
      have hx1 := HX3.out.row 1 _ rfl
      have hx2 := HX3.out.row 2 _ rfl
      have hx3 := HX3.out.row 3 _ rfl
      clear hown' hgrow
      go_wp2_with fail
      go_quiet (fail)
      have HBD := keep (below_draws w3.heap.size w3 nq)
      generalize w3.drewN nq = W4 at *
      go_wp2_with fail
      go_ret3
      exact ⟨_, rfl, by rw [HT.out]; exact (TkRow.of_own (ts := pre ++ [t]) (B := w.heap.size) (by rw [List.length_append]; exact HO3.out) (by have := HPL.out; have := HKL.out; have := HS.out; simp; omega)).to HBD.out, HB3.out.trans (HBD.out.mono HB3.out.size)⟩
    · have hKb : (t.K == 0) = false := by simpa using hK
      have HNEXT := keep (show ts = (pre ++ [t]) ++ ts' by rw [hsp, hr]; simp)
      have HTK := keep htk'
      have HAB := keep (show k < b ∧ b ≤ l.length from ⟨hab, hbl⟩)
      unfold NxIs at hNX
      rw [hX] at hNX
      unfold Tok.agg at hNX
      simp only at hNX
      clear hX hsp hown hB htk hpl hkl hr hK htk' hab hbl
      go_wp2_with fail
      refine (hNX _).mono ?_
      rintro e w1 ⟨rfl, hb⟩
      have HW1 := keep hb
      have HB1 := keep (HB.out.trans (hb.mono HB.out.size))
      clear hb
      have HBX := keep ((BoxL.new w1 [.int .i64 t.K, .string t.S, .int .i64 t.V, .int .i64 t.A] 24).alloc (.cells #[.int .i64 t.K, .string t.S, .int .i64 t.V, .int .i64 t.A] 24))
      have HCP := keep (BoxL.new (w1.alloc (.cells #[.int .i64 t.K, .string t.S, .int .i64 t.V, .int .i64 t.A] 24)) [.int .i64 t.K, .string t.S, .int .i64 t.V, .int .i64 t.A] 24)
      rw [World.size_alloc] at HCP
      go_wp2_with (at_builtin; refine wpList_append_k rfl _ _ rfl w.heap.size v pre rfl ((own_to HOWN.out HW1.out).alloc _ |>.alloc _) (by have := HB1.out.size; simp; omega) (by have := HPL.out; have := HKL.out; have := HS.out; omega) (w1.heap.size + 1) 1 t rfl (tk4 HCP.out) ?_)
      intro v' w3 hown' hgrow
      have HO3 := keep hown'
      have HB3 := keep ((HB1.out.alloc HB1.out.size _ |>.alloc (by have := HB1.out.size; simp; omega) _).grown hgrow (by have := HB1.out.size; simp; omega) (fun m hm => (HOWN.out.lt m hm).1))
      have HX3 := keep (HBX.out.grown hgrow (fun e => by have := hnb _ e.symm; have := HW1.out.size; omega))
      have hx0 := HX3.out.row 0 _ rfl
      have hx1 := HX3.out.row 1 _ rfl
      have hx2 := HX3.out.row 2 _ rfl
      have hx3 := HX3.out.row 3 _ rfl
      clear hown' hgrow
      go_wp2_with fail
      go_roundw
      case rel => exact ⟨b, v', rfl, rfl, ⟨⟨_, ts', HNEXT.out, HTK.out, HAB.out.2, by have := HPL.out; have := HAB.out.1; simp; omega, by rw [List.length_append]; exact HO3.out, HB3.out⟩⟩⟩
      case measure => have h1 := HAB.out; have h2 := HS.out; simp [intOf]; omega
end Go.Proofs.YtekonndjanaoaaaDoor
