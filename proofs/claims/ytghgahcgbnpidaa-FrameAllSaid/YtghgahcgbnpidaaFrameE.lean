/-
  large, Right; the document's bytes of frames one behind the other, and where each begins.
-/
import Derived.Test.YtghgahcgbnpidaaFrameD
import Derived.Test.YtghgahcgbnpidaaFrameA
namespace Go.Proofs.Ytghgahcgbnpidaa
open Go.RowKit Go.Joins

def Small (l : List Fr) : Prop := l.length ≤ 20 ∧ ∀ f ∈ l, f.S.size ≤ 300
def LargeIs (l : List Fr) (w : World) (e : Ending) (w' : World) : Prop := ∃ x : Bool, e = .returned (.bool x) ∧ (x = false → Small l) ∧ w = w'

set_option maxHeartbeats 800000 in
theorem large_any (B : Nat) (v : Value) (l : List Fr) (w : World) (h : FrRow B w v l) : Calls Try.prog 19 #[v] w (LargeIs l w) := by
  have hm := h.room
  have HBIG := keep (fun i (hi : i < l.length) => h.big (fa l i) (fa_mem hi))
  rcases h.out with ⟨rfl, o, cap, rfl⟩ | ⟨b, off, cap, rfl, hb, hc4, hc⟩
  · clear h hm HBIG
    go_enter Try.func19, Try.ntmps19
    go_wp2
    refine wp_loop_rounds 1 ?_
    rw [rounds_succ]
    go_wp2
    go_ret
    exact ⟨false, rfl, fun _ => ⟨by simp, by simp⟩, rfl⟩
  · have HC := keep hc
    obtain ⟨n, hn⟩ : ∃ n, n = l.length := ⟨_, rfl⟩
    have HN := keep hn
    rw [← hn] at HC hm HBIG ⊢
    have hmI : (n : Int) ≤ 9223372036854775807 := by omega
    clear h hc hm hb hc4 hn
    go_enter Try.func19, Try.ntmps19
    go_wp2
    go_loop [3] (fun i => ∃ k : Nat, i = .int .i64 k ∧ k ≤ n ∧ (k : Int) ≤ 20 ∧ Keep (∀ i, i < k → (fa l i).S.size ≤ 300)) (fun i => n - (intOf i).toNat)
    case atStart => exact ⟨0, rfl, by omega, by omega, ⟨fun i hi => by omega⟩⟩
    case round =>
      obtain ⟨k, rfl, hk, hk20, HS⟩ := hrel
      by_cases hlt : k < n
      · by_cases h20 : (k : Int) < 20
        · obtain ⟨_, c1⟩ := HC.out k hlt
          have hs := HBIG.out k hlt
          have HNEXT : Keep ((fa l k).S.size ≤ 300 → ∀ i, i < k + 1 → (fa l i).S.size ≤ 300) := ⟨fun h1 i hi => by
            by_cases e : i = k
            · subst e; exact h1
            · exact HS.out i (by omega)⟩
          have hltI : (k : Int) < n := by omega
          clear HS
          generalize (fa l k).S = S at *
          by_cases h1 : S.size ≤ 300
          · have HN1 := keep (HNEXT.out h1)
            clear HNEXT
            go_wp2
            go_round
            case rel => exact ⟨k + 1, by go_num, by omega, by omega, HN1⟩
            case measure => simp [intOf]; omega
          · go_wp2
            go_ret
            exact ⟨true, rfl, (fun h => by cases h), rfl⟩
        · have h21 : 20 < (n : Int) := by omega
          have hltI : (k : Int) < n := by omega
          go_wp2
          go_ret
          exact ⟨true, rfl, (fun h => by cases h), rfl⟩
      · obtain rfl : k = n := by omega
        go_wp2
        go_ret
        exact ⟨false, ret_bool (by simp; omega), fun _ => ⟨by rw [← HN.out]; omega, fa_all (by rw [← HN.out]; exact HS.out)⟩, rfl⟩

def Kinds (l : List Fr) : Prop := ∀ f ∈ l, 0 ≤ f.K ∧ f.K ≤ 255
def RightIs (l : List Fr) (w : World) (e : Ending) (w' : World) : Prop := ∃ x : Bool, e = .returned (.bool x) ∧ (x = true → Kinds l) ∧ w = w'

set_option maxHeartbeats 800000 in
theorem right_any (B : Nat) (v : Value) (l : List Fr) (w : World) (h : FrRow B w v l) : Calls Try.prog 20 #[v] w (RightIs l w) := by
  have hm := h.room
  rcases h.out with ⟨rfl, o, cap, rfl⟩ | ⟨b, off, cap, rfl, hb, hc4, hc⟩
  · clear h hm
    go_enter Try.func20, Try.ntmps20
    go_wp2
    refine wp_loop_rounds 1 ?_
    rw [rounds_succ]
    go_wp2
    go_ret
    exact ⟨true, rfl, fun _ => (by unfold Kinds; simp), rfl⟩
  · have HC := keep hc
    obtain ⟨n, hn⟩ : ∃ n, n = l.length := ⟨_, rfl⟩
    have HN := keep hn
    rw [← hn] at HC hm ⊢
    have hmI : (n : Int) ≤ 9223372036854775807 := by omega
    clear h hc hm hb hc4 hn
    go_enter Try.func20, Try.ntmps20
    go_wp2
    go_loop [3] (fun i => ∃ k : Nat, i = .int .i64 k ∧ k ≤ n ∧ Keep (∀ i, i < k → 0 ≤ (fa l i).K ∧ (fa l i).K ≤ 255)) (fun i => n - (intOf i).toNat)
    case atStart => exact ⟨0, rfl, by omega, ⟨fun i hi => by omega⟩⟩
    case round =>
      obtain ⟨k, rfl, hk, HS⟩ := hrel
      by_cases hlt : k < n
      · obtain ⟨c0, _⟩ := HC.out k hlt
        have HNEXT : Keep (0 ≤ (fa l k).K ∧ (fa l k).K ≤ 255 → ∀ i, i < k + 1 → 0 ≤ (fa l i).K ∧ (fa l i).K ≤ 255) := ⟨fun h1 i hi => by
          by_cases e : i = k
          · subst e; exact h1
          · exact HS.out i (by omega)⟩
        have hltI : (k : Int) < n := by omega
        clear HS
        generalize (fa l k).K = K at *
        by_cases h1 : 0 ≤ K
        · by_cases h2 : K ≤ 255
          · have HN1 := keep (HNEXT.out ⟨h1, h2⟩)
            clear HNEXT
            go_wp2
            go_round
            case rel => exact ⟨k + 1, by go_num, by omega, HN1⟩
            case measure => simp [intOf]; omega
          · go_wp2
            go_ret
            exact ⟨false, rfl, (fun h => by cases h), rfl⟩
        · go_wp2
          go_ret
          exact ⟨false, rfl, (fun h => by cases h), rfl⟩
      · obtain rfl : k = n := by omega
        go_wp2
        go_ret
        exact ⟨true, rfl, fun _ => fa_all (by rw [← HN.out]; exact HS.out), rfl⟩

/-! ### Joined -/
/-- The slice v reads as n numbers. -/
structure NumRow (B : Nat) (w : World) (v : Value) (n : Nat) (f : Nat → Nat) : Prop where
  out : ∃ b off cap, v = .slice (some ⟨b, off, none⟩) n cap ∧ b < B ∧ ∀ i, i < n → w.cell? ⟨b, off + i, none⟩ = some (.int .i64 (f i))
theorem NumRow.below {B : Nat} {w w' : World} {v : Value} {n : Nat} {f : Nat → Nat} (h : NumRow B w v n f) (hb : Below B w w') : NumRow B w' v n f := by
  obtain ⟨b, off, cap, h1, h2, h3⟩ := h.out
  exact ⟨b, off, cap, h1, h2, fun i hi => (hb.cell (p := ⟨b, off + i, none⟩) h2).trans (h3 i hi)⟩
theorem NumRow.mono {B B' : Nat} {w : World} {v : Value} {n : Nat} {f : Nat → Nat} (h : NumRow B w v n f) (hb : B ≤ B') : NumRow B' w v n f := by
  obtain ⟨b, off, cap, h1, h2, h3⟩ := h.out
  exact ⟨b, off, cap, h1, by omega, h3⟩
/-- The cells of the first k. -/
def ncs (f : Nat → Nat) : Nat → List Value
  | 0 => []
  | k + 1 => ncs f k ++ [.int .i64 (f k)]
theorem ncs_len (f : Nat → Nat) : ∀ k, (ncs f k).length = k
  | 0 => rfl
  | k + 1 => by rw [ncs, List.length_append, ncs_len f k]; rfl
theorem ncs_at (f : Nat → Nat) : ∀ (k i : Nat), i < k → (ncs f k)[i]? = some (.int .i64 (f i))
  | 0, i, h => by omega
  | k + 1, i, h => by
    rw [ncs]
    by_cases e : i = k
    · subst e
      rw [List.getElem?_append_right (by rw [ncs_len]; exact Nat.le_refl _), ncs_len]; simp
    · rw [List.getElem?_append_left (by rw [ncs_len]; omega)]
      exact ncs_at f k i (by omega)
theorem NumRow.of_own {B : Nat} {w : World} {v : Value} {n : Nat} {f : Nat → Nat} (h : w.ownsRow B 3 1 v (n + 1) (ncs f (n + 1))) : NumRow w.heap.size w v (n + 1) f := by
  rcases h.2 with ⟨_, h0⟩ | ⟨g, cap, cur, rfl, hb, hg, hcap, _⟩
  · omega
  · refine ⟨g, 0, cap, rfl, (Array.getElem?_eq_some_iff.1 hg).1, fun i hi => ?_⟩
    have := h.cells (g := g) rfl i _ (ncs_at f (n + 1) i hi)
    rwa [show (⟨g, 0, none⟩ : Addr).add i = ⟨g, 0 + i, none⟩ by unfold Addr.add; split <;> simp_all] at this

theorem infoIntF : (Try.prog.info? 3).map (fun i => (i.zero, i.size, i.bytes)) = some (some (.int .i64 0), 1, 8) := by kernel_rfl

theorem cat_take {l : List Fr} {k : Nat} (h : k < l.length) : cat (l.take (k + 1)) = cat (l.take k) ++ frB (fa l k) := by
  rw [List.take_succ_eq_append_getElem h, cat_append, fa_get h]; simp [cat]
theorem pl_le {l : List Fr} {k : Nat} : pl l k ≤ (cat l).length := by
  unfold pl
  have := congrArg (fun x => (cat x).length) (List.take_append_drop k l)
  simp only [cat_append, List.length_append] at this
  omega

/-- The bytes of frames and their places are answered. -/
def JoinedTo (l : List Fr) (w : World) (e : Ending) (w' : World) : Prop := ∃ v, e = .returned (.tuple #[.string (str (cat l)), v]) ∧ NumRow w'.heap.size w' v (l.length + 1) (pl l) ∧ Below w.heap.size w w'

/-- A round of Joined. -/
structure JoinAt (l : List Fr) (B k : Nat) (v : Value) (w wr : World) : Prop where
  own : wr.ownsRow B 3 1 v k (ncs (pl l) k)
  below : Below w.heap.size w wr


set_option maxHeartbeats 1600000 in
theorem joined_any (v : Value) (l : List Fr) (w : World) (h : FrRow w.heap.size w v l) (hok : ∀ f ∈ l, f.ok) (hz : (cat l).length ≤ 100000) : Calls Try.prog 17 #[v] w (JoinedTo l w) := by
  have hm := h.room
  obtain ⟨i0, hi, hz0, hz1, hz2⟩ := info_parts infoIntF
  have HI := keep hi
  have HZ0 := keep hz0
  have HZ1 := keep hz1
  have HZ2 := keep hz2
  clear hi hz0 hz1 hz2
  rcases h.out with ⟨rfl, o, cap, rfl⟩ | ⟨b, off, cap, rfl, hb, hc4, hc⟩
  · have HO := keep (World.ownsRow_nil (w.alloc (.cells #[.int .i64 0] 3)) w.heap.size 3 1)
    clear h hm
    go_enter Try.func17, Try.ntmps17
    go_wp2
    refine wp_loop_rounds 1 ?_
    rw [rounds_succ]
    go_wp2_with (at_builtin; refine wpList_append_own _ rfl _ _ 45 rfl w.heap.size 3 i0 (.int .i64 0) 1 8 Try.underlying45 HI.out HZ0.out HZ1.out HZ2.out rfl (by decide) _ 0 _ rfl HO.out ⟨w.heap.size, 0, none⟩ 1 1 [.int .i64 0] rfl rfl ?c1 ?c2 ?c3 ?c4 ?c5 ?_)
    case c1 =>
      intro j u hj
      match j, hj with
      | 0, hj => simp at hj; subst hj; simp [Addr.add]
    case c2 => intro u hu; simp at hu; subst hu; rfl
    case c3 => unfold maxLen; omega
    case c4 => omega
    case c5 => simp
    intro v' w3 hown' hgrow _
    have HD := keep (show JoinedTo [] w (.returned (.tuple #[.string (str (cat [])), v'])) w3 from ⟨v', rfl, NumRow.of_own (n := 0) (f := pl []) hown', ((Below.refl _ w).alloc (Nat.le_refl _) _).grown hgrow (by simp) (fun k e => by simp [Value.ownBlock] at e)⟩)
    clear hown' hgrow
    go_wp2_with fail
    go_ret2
    exact HD.out
  · have HC := keep hc
    have hbig := keep (fun i (hi : i < l.length) => hok (fa l i) (fa_mem hi))
    obtain ⟨n, hn⟩ : ∃ n, n = l.length := ⟨_, rfl⟩
    have HN := keep hn
    have HZ := keep hz
    rw [← hn] at HC hm hbig ⊢
    have hmI : (n : Int) ≤ 9223372036854775807 := by omega
    have HCT : Keep (∀ k, k ≤ n → (cat (l.take k)).length ≤ 100000 ∧ k ≤ 100000) := ⟨fun k hk => by
      have h1 : (cat (l.take k)).length ≤ (cat l).length := pl_le
      have h2 : ∀ m : List Fr, m.length ≤ (cat m).length := fun m => by
        induction m with
        | nil => simp
        | cons f r ih => rw [cat, List.length_append, frB_len, List.length_cons]; have := ln_bd f; omega
      have h3 := h2 l
      omega⟩
    clear h hc hm hc4 hn hok hz
    go_enter Try.func17, Try.ntmps17
    go_wp2
    go_loopw [4, 5, 6] (fun s v i wr => ∃ k : Nat, i = .int .i64 k ∧ s = .string (str (cat (l.take k))) ∧ k ≤ n ∧ Keep (JoinAt l w.heap.size k v w wr)) (fun _ _ i _ => n - (intOf i).toNat)
    case atStart => exact ⟨0, rfl, rfl, Nat.zero_le _, ⟨⟨World.ownsRow_nil _ _ _ _, Below.refl _ _⟩⟩⟩
    case round =>
      obtain ⟨k, rfl, rfl, hk, HJ⟩ := hrel
      have hsz : (str (cat (l.take k))).size = pl l k := by rw [str_size]; rfl
      have hct := HCT.out k hk
      have hpz : pl l k ≤ 100000 := hct.1
      have hkz := hct.2
      have hown0 := HJ.out.own
      generalize hq : pl l k = q at *
      have HQ := keep hq
      have HO := keep (hown0.alloc (.cells #[.int .i64 (q : Int)] 3))
      have HWS : Keep (w.heap.size ≤ (wr.alloc (.cells #[.int .i64 (q : Int)] 3)).heap.size) := ⟨by have := HJ.out.below.size; simp; omega⟩
      have HBA := keep (HJ.out.below.alloc HJ.out.below.size (.cells #[.int .i64 (q : Int)] 3))
      have HRW := keep (fun k' (e : Value.ownBlock _ = some k') => (hown0.lt k' e).1)
      clear hct hown0 hq
      by_cases hlt : k < n
      · have HCK := keep (HC.out k hlt)
        have hokk := hbig.out k hlt
        have HNEXT : Keep (str (cat (l.take k)) ++ str (frB (fa l k)) = str (cat (l.take (k + 1)))) := ⟨by rw [cat_take (by rw [← HN.out]; exact hlt), str_cat]; rfl⟩
        have hsz2 : (str (frB (fa l k))).size ≤ 100000 := by
          have := (HCT.out (k + 1) hlt).1
          rw [cat_take (by rw [← HN.out]; exact hlt), List.length_append] at this
          rw [str_size]; omega
        have hsz3 : (fa l k).S.size ≤ 100000 := by
          rw [str_size, frB_len] at hsz2; have := ln_bd (fa l k); omega
        have HFR0 := fun W => refFr_any (fa l k) W hsz3
        rw [putT_ok hokk] at HFR0
        generalize str (cat (l.take k)) = s0 at *
        generalize hs1 : str (cat (l.take (k + 1))) = s1 at *
        have HS1 := keep hs1
        generalize str (frB (fa l k)) = fb at *
        generalize fa l k = z at *
        obtain ⟨zk, zs⟩ := z
        unfold Fr.agg at HFR0
        simp only at HFR0 hsz3
        have HFR := keep HFR0
        have hltI : (k : Int) < n := by omega
        have hs0z : (s0.size : Int) ≤ 100000 := by omega
        have hs1z : (fb.size : Int) ≤ 100000 := by omega
        clear HFR0 hokk hs1 hsz2 hsz3
        go_wp2_with (at_builtin; refine wpList_append_own _ rfl _ _ 45 rfl w.heap.size 3 i0 (.int .i64 0) 1 8 Try.underlying45 HI.out HZ0.out HZ1.out HZ2.out rfl (by decide) _ k _ rfl HO.out ⟨wr.heap.size, 0, none⟩ 1 1 [.int .i64 (q : Int)] rfl rfl ?d1 ?d2 ?d3 ?d4 ?d5 ?_)
        case d2 => rfl
        case d3 => unfold maxLen; omega
        case d4 => omega
        case d5 => have := HWS.out; simpa using this
        intro v' w3 hown' hgrow _
        have HB3 := keep (HBA.out.grown hgrow HWS.out HRW.out)
        have HO3 := keep hown'
        obtain ⟨hd0, hd1⟩ := HCK.out
        have hc0 := (HB3.out.cell (p := ⟨b, off + k * 2, none⟩) hb).trans hd0
        have hc1 := (HB3.out.cell (p := ⟨b, off + k * 2 + 1, none⟩) hb).trans hd1
        clear hown' hgrow hd0 hd1
        go_wp2_with fail
        refine (HFR.out _).mono ?_
        rintro e w4 ⟨rfl, hb4⟩
        have HJ4 : Keep (JoinAt l w.heap.size (k + 1) v' w w4) := ⟨⟨by
          have := HO3.out.kept (row := none) ⟨hb4.os, hb4.tape, hb4.output, hb4.size, fun j hj _ => hb4.block j hj⟩ (by cases v'.ownBlock <;> simp)
          rw [ncs, HQ.out]; exact this, HB3.out.trans (hb4.mono HB3.out.size)⟩⟩
        clear hb4 hc0 hc1
        go_wp2_with fail
        go_roundw
        case rel => exact ⟨k + 1, by go_num, by rw [HNEXT.out, HS1.out], by omega, HJ4⟩
        case measure => simp [intOf]; omega
      · obtain rfl : k = n := by omega
        have HALL : Keep (str (cat (l.take k)) = str (cat l)) := ⟨by rw [List.take_of_length_le (by rw [← HN.out]; exact Nat.le_refl _)]⟩
        generalize str (cat (l.take k)) = s0 at *
        go_wp2_with (at_builtin; refine wpList_append_own _ rfl _ _ 45 rfl w.heap.size 3 i0 (.int .i64 0) 1 8 Try.underlying45 HI.out HZ0.out HZ1.out HZ2.out rfl (by decide) _ k _ rfl HO.out ⟨wr.heap.size, 0, none⟩ 1 1 [.int .i64 (q : Int)] rfl rfl ?e1 ?e2 ?e3 ?e4 ?e5 ?_)
        case e1 =>
          intro j u hj
          match j, hj with
          | 0, hj => simp at hj; subst hj; simp [Addr.add]
        case e2 => intro u hu; simp at hu; subst hu; rfl
        case e3 => unfold maxLen; omega
        case e4 => omega
        case e5 => exact HWS.out
        intro v' w3 hown' hgrow _
        have HB3 := keep (HBA.out.grown hgrow HWS.out HRW.out)
        have HO3 : Keep (NumRow w3.heap.size w3 v' (k + 1) (pl l)) := ⟨NumRow.of_own (by rw [ncs, HQ.out]; exact hown')⟩
        clear hown' hgrow
        go_wp2_with fail
        go_ret2
        exact ⟨v', by rw [HALL.out]; rfl, by rw [← HN.out]; exact HO3.out, HB3.out⟩
end Go.Proofs.Ytghgahcgbnpidaa
