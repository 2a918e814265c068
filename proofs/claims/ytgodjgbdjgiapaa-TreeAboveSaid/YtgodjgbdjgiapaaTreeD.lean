/-
  The program's Kids: collected (a range over kids' function that appends), and the function that goes over what was collected.
-/
import Derived.Test.YtgodjgbdjgiapaaTreeC
namespace Go.Proofs.Ytgodjgbdjgiapaa
open Go.RowKit Go.Shelf
attribute [local go_sem] Oper.semAt_some

theorem kids_stops (n Bl Bi N : Nat) (v : Value) (l : List Nd) (i : Int) (hn : l.length ≤ 1000) (w : World) (hrow : NdRow N w v l) (hN : N ≤ w.heap.size)
    (hBl : w.heap[Bl]? = some (.cells #[v] 22 (0, 0))) (hBi : w.heap[Bi]? = some (.cells #[.int .i64 i] 3 (0, 0))) :
    SeqStopsK Fence.wide n Try.prog 33 #[.pointer (some ⟨Bl, 0, none⟩), .pointer (some ⟨Bi, 0, none⟩)] encN (KpN N Bl Bi) (fun zs => zs = kidsI l i) (fun pre => pre <+: kidsI l i) (kidsI l i).length w := fun L J Jx W hW' hJ _ hY h0 =>
  kids1_in n L Bl Bi N v l i hn J Jx W hJ hY (hrow.blocks (fun k hk => hW'.block k (by omega))) (Nat.le_trans hN hW'.size) ((hW'.block Bl (Array.getElem?_eq_some_iff.1 hBl).1).trans hBl) ((hW'.block Bi (Array.getElem?_eq_some_iff.1 hBi).1).trans hBi) h0

theorem infoP : (Try.prog.info? 3).map (fun i => (i.zero, i.size, i.bytes)) = some (some (.int .i64 0), 1, 8) := by kernel_rfl

/-- Between two rounds of AppendSeq. -/
def SeqI (w : World) (pre : List Nat) (W : World) : Prop :=
  (∃ v, Boxed W w.heap.size 24 v ∧ W.ownsRow w.heap.size 3 1 v pre.length (pre.map PV) ∧ True) ∧ Below w.heap.size w W
theorem SeqI.own (w w3 : World) (hw : w.heap.size ≤ w3.heap.size) : OwnFrom w3.heap.size (SeqI w) :=
  OwnFrom.and (Own.from (holdsRow_own w.heap.size w.heap.size 24 3 1 (fun pre : List Nat => pre.length) (fun pre => pre.map PV) (fun _ _ => True)) _) (ownFrom_below (Nat.le_refl _) hw)
/-- The activation of a round. -/
def actS (Bl Bi B : Nat) (x : Nat) : Act := { tmps := #[.slice none 0 0, .func (.func 33) #[] #[.pointer (some ⟨Bl, 0, none⟩), .pointer (some ⟨Bi, 0, none⟩)], .pointer (some ⟨B, 0, none⟩), undef, .slice none 0 0, .int .i64 (x : Int), .func (.func 33) #[] #[.pointer (some ⟨Bl, 0, none⟩), .pointer (some ⟨Bi, 0, none⟩)], .int .i64 (x : Int), undef, undef, undef, undef, undef], defers := [] }

set_option maxRecDepth 100000 in
set_option maxHeartbeats 4000000 in
theorem appendSeq_any (Bl Bi N : Nat) (v : Value) (l : List Nd) (i : Int) (hn : l.length ≤ 1000) (w : World) (hrow : NdRow N w v l) (hN : N ≤ w.heap.size)
    (hBl : w.heap[Bl]? = some (.cells #[v] 22 (0, 0))) (hBi : w.heap[Bi]? = some (.cells #[.int .i64 i] 3 (0, 0))) :
    Calls Try.prog 32 #[.slice none 0 0, .func (.func 33) #[] #[.pointer (some ⟨Bl, 0, none⟩), .pointer (some ⟨Bi, 0, none⟩)]] w fun e w' => ∃ u, e = .returned u ∧ OwnP w u (kidsI l i) w' := by
  obtain ⟨i0, hi, hz0, hz1, hz2⟩ := info_parts infoP
  have HI := keep hi
  have HZ0 := keep hz0
  have HZ1 := keep hz1
  have HZ2 := keep hz2
  have HLEN := keep (kidsI_len l i)
  have HLN := keep hn
  have hbl := (Array.getElem?_eq_some_iff.1 hBl).1
  have hbi := (Array.getElem?_eq_some_iff.1 hBi).1
  have HLT : Keep (Bl < w.heap.size ∧ Bi < w.heap.size ∧ N ≤ w.heap.size) := ⟨hbl, hbi, hN⟩
  have b0 := Boxed.new w 24 (.slice none 0 0)
  have hB0 : Below w.heap.size w (w.alloc (.cells #[.slice none 0 0] 24)) := (Below.refl _ w).alloc (Nat.le_refl _) _
  have HI0 : Keep (SeqI w [] (w.alloc (.cells #[.slice none 0 0] 24))) := ⟨⟨⟨_, b0, World.ownsRow_nil _ _ _ _, trivial⟩, hB0⟩⟩
  have HSZ : Keep ((w.alloc (.cells #[.slice none 0 0] 24)).heap.size = w.heap.size + 1) := ⟨by simp⟩
  have HST := keep (kids_stops 3 Bl Bi N v l i hn (w.alloc (.cells #[.slice none 0 0] 24)) (hrow.blocks (fun k hk => hB0.block k (by omega))) (by simp; omega) ((hB0.block Bl hbl).trans hBl) ((hB0.block Bi hbi).trans hBi))
  clear hn hrow hN hBl hBi hbl hbi b0 hB0 hi hz0 hz1 hz2
  generalize kidsI l i = M at *
  refine (callsIn_wide (n := 4)).1 ?_
  refine callsIn_of_wp_marks Try.func32 rfl trivial ?_ rfl
  simp only [Try.ntmps32, List.size_toArray, List.length_cons, List.length_nil, Nat.reduceAdd, Nat.reduceSub, Array.replicate_succ, Array.replicate_zero, List.push_toArray, List.append_toArray, List.nil_append, List.cons_append]
  gi_wp2
  generalize (w.alloc (.cells #[.slice none 0 0] 24)) = w3 at *
  refine wpIn_rangeFunc_ownH (n := 4) rfl (by omega) (gf := 33) (lb := #[.pointer (some ⟨Bl, 0, none⟩), .pointer (some ⟨Bi, 0, none⟩)]) rfl trivial (enters_of Try.func33 (by kernel_rfl) rfl)
    HST.out (fun h1 h2 => KpN.trans h1 h2) (fun W l o o' h1 _ _ _ => ?kp) (Below.refl _ _) (fun _ => rfl)
    (SeqI w) (fun _ _ _ => False) (SeqI.own w w3 (by rw [HSZ.out]; omega)) (fun _ _ _ _ _ hs _ _ => hs) HI0.out (fun x a' _ => a' = actS Bl Bi w.heap.size x) (fun _ _ _ _ _ _ hs _ _ => hs) ?assign ?body ?done ?stop
  case kp =>
    have hsz := HSZ.out
    have hlt := HLT.out
    exact ⟨fun k hk => World.putObj_heap_other (by omega), World.putObj_heap_other (by omega), World.putObj_heap_other (by omega), by simp⟩
  case assign =>
    rintro l pre x W K hi hK
    dsimp only [encN]
    gi_wp2
    exact hK _ W (KeepsFrom.refl _ _) ⟨fun _ _ => rfl, rfl, rfl, Nat.le_refl _⟩ hi rfl
  case body =>
    rintro L pre x a' W hl _ ⟨⟨u, hv, hrow, _⟩, hB⟩ rfl hlt
    unfold actS
    have hc := hv.cell
    have HV := keep hv
    have HROW := keep hrow
    have HB := keep hB
    have HPL : Keep (pre.length ≤ 1000) := ⟨by have := HLEN.out; have := HLN.out; omega⟩
    have HC1 : Keep (∀ j u, ([.int .i64 (x : Int)] : List Value)[j]? = some u → (W.alloc (.cells #[.int .i64 (x : Int)] 3)).cell? ((⟨W.heap.size, 0, none⟩ : Addr).add j) = some u) := ⟨fun j u hj => by
      match j, hj with
      | 0, hj =>
        obtain rfl : Value.int .i64 (x : Int) = u := by simpa using hj
        rw [show (⟨W.heap.size, 0, none⟩ : Addr).add 0 = ⟨W.heap.size, 0, none⟩ by rw [Addr.add_mid]]
        exact cell_new1 W _ _⟩
    have HBS : Keep (w.heap.size ≤ (W.alloc (.cells #[.int .i64 (x : Int)] 3)).heap.size) := ⟨by have := hB.size; simp; omega⟩
    clear hv hrow hB hl hlt
    gi_wp2_with (gi_at_builtin; refine wpListIn_append_own _ rfl _ _ 24 rfl w.heap.size 3 i0 (.int .i64 0) 1 8 Try.underlying24 HI.out HZ0.out HZ1.out HZ2.out rfl (by decide) _ _ _ rfl (HROW.out.alloc _) ⟨W.heap.size, 0, none⟩ 1 1 [.int .i64 (x : Int)] rfl rfl HC1.out (by intro u hu; simp at hu; rcases hu with rfl; rfl) (by have := HPL.out; unfold maxLen; omega) (by have := HPL.out; omega) HBS.out ?_; intro v' w1 hown' hgrow _; obtain ⟨g', cap', rfl⟩ := ownsRow_succ hown'; have HGROW := keep hgrow; have HAPP := keep (HV.out.appended (by decide) HROW.out HB.out.size (Nat.le_refl _) hown' hgrow); have hc1 := HAPP.out.1.cell; have hf1 := HAPP.out.1.frozen; clear hown' hgrow)
    have hlt := HLT.out
    have hb2 := HAPP.out.2.2.2.2
    refine ⟨HAPP.out.2.2.2.1.from _, ⟨fun k hk => hb2.block k (by omega), hb2.block _ hlt.1, hb2.block _ hlt.2.1, hb2.size⟩, ⟨⟨_, HAPP.out.2.1, ?_, trivial⟩, HB.out.trans hb2⟩⟩
    rw [List.length_append, List.map_append]
    exact HAPP.out.2.2.1
  case done =>
    rintro D zs W hD rfl ⟨⟨u, hv, hrow, _⟩, hB⟩ hK
    have hc0 := hv.cell
    have HROW := keep hrow
    have HK := keep hK
    have HB := keep hB
    have HD : Keep (w.heap.size + 1 ≤ D) := ⟨by have := HSZ.out; omega⟩
    clear hv hrow hB hK hD
    gi_wp2
    refine ⟨by simp, .inl ⟨_, _, rfl, run_takeDeferred HK.out, ?_⟩⟩
    refine ⟨u, ?_, u, rfl, ⟨ownsRow_putObj HROW.out _ HK.out rfl, HB.out.trans (belowK_b (w := w) (Nat.le_refl _) W D _ _ (by have := HD.out; omega) HK.out rfl rfl)⟩⟩
    simp [results, Try.f32, go_sem]
  case stop =>
    rintro D c pre W _ _ h _
    exact h.elim

theorem collect_any (Bl Bi N : Nat) (v : Value) (l : List Nd) (i : Int) (hn : l.length ≤ 1000) (w : World) (hrow : NdRow N w v l) (hN : N ≤ w.heap.size)
    (hBl : w.heap[Bl]? = some (.cells #[v] 22 (0, 0))) (hBi : w.heap[Bi]? = some (.cells #[.int .i64 i] 3 (0, 0))) :
    Calls Try.prog 22 #[.func (.func 33) #[] #[.pointer (some ⟨Bl, 0, none⟩), .pointer (some ⟨Bi, 0, none⟩)]] w fun e w' => ∃ u, e = .returned u ∧ OwnP w u (kidsI l i) w' := by
  have H := keep (appendSeq_any Bl Bi N v l i hn w hrow hN hBl hBi)
  generalize kidsI l i = M at *
  clear hn hrow hN hBl hBi
  go_enter Try.func22, Try.ntmps22
  go_wp2_with fail
  refine H.out.mono ?_
  rintro e w1 ⟨u, rfl, ho⟩
  have HO := keep ho
  clear ho H
  go_wp2_with fail
  go_ret
  exact ⟨u, rfl, HO.out⟩

theorem values_any (o : Option Addr) (n c : Nat) (w : World) : Calls Try.prog 21 #[.slice o n c] w fun e w' => e = .returned (.func (.func 31) #[] #[.pointer (some ⟨w.heap.size, 0, none⟩)]) ∧ w' = w.alloc (.cells #[.slice o n c] 24) := by
  go_enter Try.func21, Try.ntmps21
  go_wp2_with fail
  go_ret
  exact ⟨rfl, rfl⟩

/-- A function is answered that goes over l: it lies in a new box. -/
def GoesIs (l : List Nat) (w : World) (e : Ending) (w' : World) : Prop := ∃ B u, e = .returned (.func (.func 31) #[] #[.pointer (some ⟨B, 0, none⟩)]) ∧ w.heap.size ≤ B ∧ w'.heap[B]? = some (.cells #[u] 24 (0, 0)) ∧ RowAt PV w'.heap.size w' u l ∧ Below w.heap.size w w'

set_option maxHeartbeats 2000000 in
theorem kidsf_any (v : Value) (l : List Nd) (i : Int) (hn : l.length ≤ 1000) (w : World) (h : NdRow w.heap.size w v l) :
    Calls Try.prog 9 #[v, .int .i64 i] w fun e w' => GoesIs (kidsI l i) w e w' := by
  obtain ⟨o, cap, hv, -⟩ := h.form
  have HKS := keep (kids_any v i w ⟨o, _, cap, hv⟩)
  obtain ⟨w1, hw1⟩ : ∃ w1, w1 = (w.alloc (.cells #[v] 22)).alloc (.cells #[.int .i64 i] 3) := ⟨_, rfl⟩
  rw [← hw1] at HKS
  have hb1 : Below w.heap.size w w1 := by rw [hw1]; exact ((Below.refl _ w).alloc (Nat.le_refl _) _).alloc (by simp) _
  have HC := keep (collect_any w.heap.size (w.heap.size + 1) w.heap.size v l i hn w1 (h.below hb1) hb1.size
    (by rw [hw1]; exact (Below.heap_alloc _ _ _ (by simp)).trans (World.alloc_heap_new w _))
    (by rw [hw1]; have := World.alloc_heap_new (w.alloc (.cells #[v] 22)) (.cells #[.int .i64 i] 3); rwa [World.size_alloc] at this))
  have HB1 := keep hb1
  generalize kidsI l i = M at *
  subst hv
  clear h hn hw1 hb1
  go_enter Try.func9, Try.ntmps9
  go_wp2_with fail
  refine HKS.out.mono ?_
  rintro e w' ⟨rfl, rfl⟩
  clear HKS
  go_wp2_with fail
  refine HC.out.mono ?_
  rintro e w2 ⟨u, rfl, ho⟩
  have HO := keep ho
  clear HC ho
  obtain ⟨o', cap', rfl, -⟩ := HO.out.row.form
  go_wp2_with fail
  refine (values_any _ _ _ _).mono ?_
  rintro e w' ⟨rfl, rfl⟩
  go_wp2_with fail
  go_ret
  have hb2 := HB1.out.trans (HO.out.below.mono HB1.out.size)
  exact ⟨_, _, rfl, hb2.size, World.alloc_heap_new _ _, (HO.out.row.below ((Below.refl _ _).alloc (Nat.le_refl _) _)).mono (by simp), hb2.alloc hb2.size _⟩

theorem func_nil (B : Nat) (W : World) : (binOp .eql 27 (.func (.func 31) #[] #[.pointer (some ⟨B, 0, none⟩)]) .nilFunc).run Try.prog W = .ok (.bool false) W := by kernel_rfl

/-- What a round must keep: all blocks below N. -/
def KpV (N : Nat) (W W' : World) : Prop := (∀ k, k < N → W'.heap[k]? = W.heap[k]?) ∧ W.heap.size ≤ W'.heap.size
theorem KpV.trans {N : Nat} {A B C : World} (h : KpV N A B) (k : KpV N B C) : KpV N A C := ⟨fun i hi => (k.1 i hi).trans (h.1 i hi), Nat.le_trans h.2 k.2⟩
theorem rowAt_blocks {N : Nat} {W W' : World} {v : Value} {l : List Nat} (h : RowAt PV N W v l) (hb : ∀ k, k < N → W'.heap[k]? = W.heap[k]?) : RowAt PV N W' v l := by
  refine ⟨h.room, ?_⟩
  rcases h.out with h | ⟨b, off, cap, h1, h2, h3⟩
  · exact .inl h
  · exact .inr ⟨b, off, cap, h1, h2, fun i x hi => (World.cell?_of_block (hb b h2)).trans (h3 i x hi)⟩

set_option maxRecDepth 100000 in
set_option maxHeartbeats 4000000 in
theorem vals1_in (n L B N : Nat) (u : Value) (M : List Nat) (hM : M.length ≤ 1000) (J Jx : List Nat → World → Prop) (W0 : World) (hJ : AbidesFrom W0.heap.size J)
    (hY : ∀ pre x W, J pre W → pre.length < M.length → YieldAt Fence.wide (n - 1) Try.prog L (encN x) W fun e W' =>
      (e = .returned (.bool true) ∧ J (pre ++ [x]) W' ∧ KpV N W W') ∨ (e = .returned (.bool false) ∧ Jx (pre ++ [x]) W'))
    (hrow : RowAt PV N W0 u M) (hN : N ≤ W0.heap.size) (hB : W0.heap[B]? = some (.cells #[u] 24 (0, 0))) (h0 : J [] W0) :
    CallsIn Fence.wide n Try.prog 31 #[.func (.yield L) #[] #[], .pointer (some ⟨B, 0, none⟩)] W0 fun e W' => (∃ v, e = .returned v) ∧
      ((∃ zs, zs = M ∧ J zs W') ∨ (∃ pre, pre <+: M ∧ Jx pre W')) := by
  have hcl : W0.cell? ⟨B, 0, none⟩ = some u := by rw [cell_of_row W0 B 0 _ _ _ hB]; rfl
  have hdd : ∀ k : Nat, (Fence.wide.depth.isSome = true → 1 ≤ k) := fun k h => by cases h
  have HJ := keep hJ
  have HY := keep hY
  obtain ⟨o, cap, hu, -⟩ := hrow.form
  have hHR : Keep (RowAt PV N W0 (.slice o M.length cap) M ∧ J [] W0 ∧ N ≤ W0.heap.size) := ⟨by rw [← hu]; exact hrow, h0, hN⟩
  subst hu
  have HMN : Keep (M.length ≤ 1000) := ⟨hM⟩
  obtain ⟨m, hm⟩ : ∃ m, m = M.length := ⟨_, rfl⟩
  have HM := keep hm
  rw [← hm] at hcl hHR HMN
  have hmI : (m : Int) ≤ 1000 := by omega
  have HS : Keep (∃ pre : List Nat, pre.length = 0 ∧ pre = M.take 0 ∧ J pre W0 ∧ RowAt PV N W0 (.slice o m cap) M ∧ N ≤ W0.heap.size) := ⟨[], rfl, rfl, hHR.out.2.1, hHR.out.1, hHR.out.2.2⟩
  clear hM hJ hY h0 hB hrow hN hm hHR
  refine callsIn_of_wp Try.func31 rfl trivial ?_ rfl
  simp only [Try.ntmps31, List.size_toArray, List.length_cons, List.length_nil, Nat.reduceAdd, Nat.reduceSub, Array.replicate_succ, Array.replicate_zero, List.push_toArray, List.append_toArray, List.nil_append, List.cons_append]
  gi_wp2
  clear hcl
  gi_loopw [7] (fun kv wr => ∃ k : Nat, kv = .int .i64 (k : Int) ∧ k ≤ m ∧ Keep (∃ pre : List Nat, pre.length = k ∧ pre = M.take k ∧ J pre wr ∧ RowAt PV N wr (.slice o m cap) M ∧ N ≤ wr.heap.size)) (fun kv _ => m - (intOf kv).toNat)
  case atStart => exact ⟨0, rfl, Nat.zero_le _, HS⟩
  case round =>
    obtain ⟨k, rfl, hk, HR⟩ := hrel
    clear HS
    by_cases hlt : k < m
    · obtain ⟨pre, hp1, hp2, hp3, hp4, hp5⟩ := HR.out
      obtain ⟨x, hx⟩ := get_of_lt (l := M) (i := k) (by rw [← HM.out]; exact hlt)
      have hfm := hp4.form
      rw [← HM.out] at hfm
      obtain ⟨o', cap', hsl, hcs⟩ := hfm
      injection hsl with e1 e2 e3
      subst e1 e3
      obtain ⟨b, off, rfl, hb, hc⟩ := hcs k x hx
      have hcell := hc wr (Below.refl _ _)
      have hltI : (k : Int) < (m : Int) := by omega
      obtain ⟨fn, tmps, assign, body, hy, hR⟩ := HY.out pre x wr hp3 (by have := HM.out; omega)
      have HRR := keep hR
      have HN1 : Keep (∀ W1, J (pre ++ [x]) W1 → KpV N wr W1 → ∃ pre : List Nat, pre.length = k + 1 ∧ pre = M.take (k + 1) ∧ J pre W1 ∧ RowAt PV N W1 (.slice (some ⟨b, off, none⟩) m cap) M ∧ N ≤ W1.heap.size) := ⟨fun W1 hj hk =>
        ⟨pre ++ [x], by simp [hp1], by rw [take_snoc hx, hp2], hj, rowAt_blocks hp4 hk.1, Nat.le_trans hp5 hk.2⟩⟩
      have HPX : Keep (pre ++ [x] <+: M) := ⟨by rw [hp2, ← take_snoc hx]; exact List.take_prefix _ _⟩
      dsimp only [encN] at hy
      clear hR hp1 hp2 hp3 hp4 hp5 hx hb hc hcs e2 HR
      gi_wp2
      (try refine ⟨hdd _, ?_⟩)
      refine HRR.out.mono ?_
      rintro e W2 (⟨rfl, hj2, hk2⟩ | ⟨rfl, hx2⟩)
      · have HA2 := keep (HN1.out W2 hj2 hk2)
        clear hj2 hk2
        gi_wp2
        go_roundw
        case rel => exact ⟨k + 1, by go_num, by omega, HA2⟩
        case measure => simp [intOf]; omega
      · have HX2 := keep hx2
        clear hx2
        gi_wp2
        refine bodyPost_ret (results_none rfl _ _ _) rfl ?_
        exact ⟨⟨_, rfl⟩, .inr ⟨_, HPX.out, HX2.out⟩⟩
    · have hkm : m = k := by omega
      subst hkm
      have hdn : decide (m < m) = false := by simp
      have HE : Keep (J M wr) := ⟨by
        obtain ⟨pre, hp1, hp2, hp3, _⟩ := HR.out
        rw [hp2, List.take_of_length_le (by rw [← HM.out]; exact Nat.le_refl _)] at hp3
        exact hp3⟩
      clear hlt
      gi_wp2
      refine bodyPost_end (results_none rfl _ _ _) rfl ?_
      exact ⟨⟨_, rfl⟩, .inl (by first | exact HE.out | exact ⟨_, rfl, HE.out⟩)⟩
theorem vals_stops (n B N : Nat) (u : Value) (M : List Nat) (hM : M.length ≤ 1000) (w : World) (hrow : RowAt PV N w u M) (hN : N ≤ w.heap.size) (hB : w.heap[B]? = some (.cells #[u] 24 (0, 0))) :
    SeqStopsK Fence.wide n Try.prog 31 #[.pointer (some ⟨B, 0, none⟩)] encN (KpV N) (fun zs => zs = M) (fun pre => pre <+: M) M.length w := fun L J Jx W hW' hJ _ hY h0 =>
  vals1_in n L B N u M hM J Jx W hJ hY (rowAt_blocks hrow (fun k hk => hW'.block k (by omega))) (Nat.le_trans hN hW'.size) ((hW'.block B (Array.getElem?_eq_some_iff.1 hB).1).trans hB) h0
end Go.Proofs.Ytgodjgbdjgiapaa
