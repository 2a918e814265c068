/-
  The program's functions on nodes: the row of a node's kids, whether a node fits. (Laid by tools/gen/treeR.py.)
-/
import Derived.Test.YtgodjgbdjgiapaaTreeP
namespace Go.Proofs.Ytgodjgbdjgiapaa
open Go.RowKit Go.Joins

/-- A row as a value. -/
def Shp.agg (r : Shp) : Value := .agg #[.string (str r.first), .int .u8 (ob r.more), .string (str r.last)]
def RowIs (r : Shp) (w : World) (e : Ending) (w' : World) : Prop := e = .returned r.agg ∧ Below w.heap.size w w'

set_option maxRecDepth 100000 in
set_option maxHeartbeats 8000000 in
theorem rowOf_any (x : Nd) (w : World) : Calls Try.prog 36 #[x.agg] w fun e w' => RowIs (shpP x) w e w' := by
  obtain ⟨op, s, n, k, a⟩ := x
  have HPL := keep (fun w => plain_any op w)
  unfold Nd.agg RowIs Shp.agg
  simp only
  by_cases h0 : op = 42
  · subst h0
    rw [show shpP ⟨42, s, n, k, a⟩ = ⟨[], 68, []⟩ from rfl]
    clear HPL
    go_enter Try.func36, Try.ntmps36
    go_wp2_with fail
    go_returns
    exact ⟨rfl, (Below.refl _ _).alloc (Nat.le_refl _) _ |>.alloc (by simp) _⟩
  have n0 : (op == 42) = false := by simpa using h0
  by_cases h1 : op = 40
  · subst h1
    rw [show shpP ⟨40, s, n, k, a⟩ = ⟨[], 80, [66]⟩ from rfl]
    clear HPL
    go_enter Try.func36, Try.ntmps36
    go_wp2_with fail
    go_returns
    exact ⟨rfl, (Below.refl _ _).alloc (Nat.le_refl _) _ |>.alloc (by simp) _⟩
  have n1 : (op == 40) = false := by simpa using h1
  by_cases h2 : op = 32
  · subst h2
    rw [show shpP ⟨32, s, n, k, a⟩ = ⟨[], 83, []⟩ from rfl]
    clear HPL
    go_enter Try.func36, Try.ntmps36
    go_wp2_with fail
    go_returns
    exact ⟨rfl, (Below.refl _ _).alloc (Nat.le_refl _) _ |>.alloc (by simp) _⟩
  have n2 : (op == 32) = false := by simpa using h2
  by_cases h3 : op = 25
  · subst h3
    rw [show shpP ⟨25, s, n, k, a⟩ = ⟨[67], 67, []⟩ from rfl]
    clear HPL
    go_enter Try.func36, Try.ntmps36
    go_wp2_with fail
    go_returns
    exact ⟨rfl, (Below.refl _ _).alloc (Nat.le_refl _) _ |>.alloc (by simp) _⟩
  have n3 : (op == 25) = false := by simpa using h3
  by_cases h4 : op = 26
  · subst h4
    rw [show shpP ⟨26, s, n, k, a⟩ = ⟨[], 69, []⟩ from rfl]
    clear HPL
    go_enter Try.func36, Try.ntmps36
    go_wp2_with fail
    go_returns
    exact ⟨rfl, (Below.refl _ _).alloc (Nat.le_refl _) _ |>.alloc (by simp) _⟩
  have n4 : (op == 26) = false := by simpa using h4
  by_cases h5 : op = 23
  · subst h5
    clear HPL
    by_cases hk : k = 3
    · rw [show shpP ⟨23, s, n, k, a⟩ = ⟨[69, 66, 66], 0, []⟩ by unfold shpP; simp [hk]]
      have hb : (k == 3) = true := by simp [hk]
      clear hk
      go_enter Try.func36, Try.ntmps36
      go_wp2_with fail
      refine (either_any _ _ _ _).mono ?_
      rintro e w' ⟨rfl, rfl⟩
      go_wp2_with fail
      go_returns
      exact ⟨rfl, (Below.refl _ _).alloc (Nat.le_refl _) _ |>.alloc (by simp) _⟩
    · rw [show shpP ⟨23, s, n, k, a⟩ = ⟨[69, 66], 0, []⟩ by unfold shpP; simp [hk]]
      have hb : (k == 3) = false := by simpa using hk
      clear hk
      go_enter Try.func36, Try.ntmps36
      go_wp2_with fail
      refine (either_any _ _ _ _).mono ?_
      rintro e w' ⟨rfl, rfl⟩
      go_wp2_with fail
      go_returns
      exact ⟨rfl, (Below.refl _ _).alloc (Nat.le_refl _) _ |>.alloc (by simp) _⟩
  have n5 : (op == 23) = false := by simpa using h5
  by_cases h6 : op = 33
  · subst h6
    clear HPL
    by_cases hk : k = 1
    · rw [show shpP ⟨33, s, n, k, a⟩ = ⟨[69], 0, []⟩ by unfold shpP; simp [hk]]
      have hb : (k == 1) = true := by simp [hk]
      clear hk
      go_enter Try.func36, Try.ntmps36
      go_wp2_with fail
      refine (either_any _ _ _ _).mono ?_
      rintro e w' ⟨rfl, rfl⟩
      go_wp2_with fail
      go_returns
      exact ⟨rfl, (Below.refl _ _).alloc (Nat.le_refl _) _ |>.alloc (by simp) _⟩
    · rw [show shpP ⟨33, s, n, k, a⟩ = ⟨[], 0, []⟩ by unfold shpP; simp [hk]]
      have hb : (k == 1) = false := by simpa using hk
      clear hk
      go_enter Try.func36, Try.ntmps36
      go_wp2_with fail
      refine (either_any _ _ _ _).mono ?_
      rintro e w' ⟨rfl, rfl⟩
      go_wp2_with fail
      go_returns
      exact ⟨rfl, (Below.refl _ _).alloc (Nat.le_refl _) _ |>.alloc (by simp) _⟩
  have n6 : (op == 33) = false := by simpa using h6
  by_cases h7 : op = 34
  · subst h7
    rw [show plainP 34 = [82, 66] from rfl] at HPL
    by_cases hn : n = 1
    · rw [show shpP ⟨34, s, n, k, a⟩ = ⟨[69] ++ [82, 66], 0, []⟩ by unfold shpP; simp [hn, plainP]]
      have hb : (n == 1) = true := by simp [hn]
      obtain ⟨E0, hE0⟩ : ∃ E0, E0 = (⟨#[69]⟩ : ByteArray) := ⟨_, rfl⟩
      have HEI : Keep (∀ w, Calls Try.prog 48 #[.bool true, .string ⟨#[69]⟩, .string ⟨#[]⟩] w fun e w' => e = .returned (.string E0) ∧ w = w') := ⟨fun w => by rw [hE0]; exact either_any _ _ _ w⟩
      have hcat : E0 ++ str [82, 66] = str ([69] ++ [82, 66]) := by rw [hE0]; rfl
      have hsz : (9223372036854775807 < E0.size + (str [82, 66]).size) = False := by rw [str_size, hE0]; simp [ByteArray.size]
      clear hE0
      generalize str ([69] ++ [82, 66]) = T at *
      generalize str [82, 66] = U at *
      clear hn
      have hx := (BoxL.new w [.int .i64 34, .string s, .int .i64 n, .int .i64 k, .int .i64 a] 39).alloc (.cells #[.string ⟨#[]⟩, .int .u8 0, .string ⟨#[]⟩] 61)
      have HX0 := keep (hx.row 0 _ rfl)
      have HX2 := keep (hx.row 2 _ rfl)
      clear hx
      go_enter Try.func36, Try.ntmps36
      go_wp2_with fail
      refine AnyGo.region (fun W' => W'.cell? ⟨w.heap.size, 0, none⟩ = some (.int .i64 34) ∧ W'.cell? ⟨w.heap.size, 2, none⟩ = some (.int .i64 n)) (by kernel_rfl) (by rfl) ⟨HX0.out, HX2.out⟩ ?_
      intro wd ewd
      subst ewd
      (refine AnyGo.take 0 (some 38) ?_ (a' := ?_) rfl (by kernel_rfl) (fun _ _ d _ _ h => by cases d <;> exact h) (by kernel_rfl) (by rfl) (by kernel_rfl) ?_ ?_ ?_; rotate_left 2; (focus (intro W hW; (try dsimp only at hW); go_simp; (try with_reducible rfl))); (focus (simp only [Act.put, List.setIfInBounds_toArray]; rfl)))
      (refine AnyGo.take 1 (some 39) ?_ (a' := ?_) rfl (by kernel_rfl) (fun _ _ d _ _ h => by cases d <;> exact h) (by kernel_rfl) (by rfl) (by kernel_rfl) ?_ ?_ ?_; rotate_left 2; (focus (intro W hW; (try dsimp only at hW); go_simp; (try with_reducible rfl))); (focus (simp only [Act.put, List.setIfInBounds_toArray]; rfl)))
      (refine AnyGo.take 2 (some 40) ?_ (a' := ?_) rfl (by kernel_rfl) (fun _ _ d _ _ h => by cases d <;> exact h) (by kernel_rfl) (by rfl) (by kernel_rfl) ?_ ?_ ?_; rotate_left 2; (focus (intro W hW; (try dsimp only at hW); go_simp; (try with_reducible rfl))); (focus (simp only [Act.put, List.setIfInBounds_toArray]; rfl)))
      (refine AnyGo.take 4 (some 42) ?_ (a' := ?_) rfl (by kernel_rfl) (fun _ _ d _ _ h => by cases d <;> exact h) (by kernel_rfl) (by rfl) (by kernel_rfl) ?_ ?_ ?_; rotate_left 2; (focus (intro W hW; (try dsimp only at hW); go_simp; (try with_reducible rfl))); (focus (simp only [Act.put, List.setIfInBounds_toArray]; rfl)))
      (refine AnyGo.take 5 (some 43) ?_ (a' := ?_) rfl (by kernel_rfl) (fun _ _ d _ _ h => by cases d <;> exact h) (by kernel_rfl) (by rfl) (by kernel_rfl) ?_ ?_ ?_; rotate_left 2; (focus (intro W hW; (try dsimp only at hW); go_simp; (try with_reducible rfl))); (focus (simp only [Act.put, List.setIfInBounds_toArray]; rfl)))
      refine AnyGo.one (i := 3) (by kernel_rfl) rfl (by kernel_rfl) (fun K' hK' => ?_)
      go_simp
      refine (HEI.out _).mono ?_
      rintro e w' ⟨rfl, rfl⟩
      refine hK'.out _ _ ⟨HX0.out, HX2.out⟩ ?_
      clear hK' K'
      (try simp only [Act.put, List.setIfInBounds_toArray])
      refine AnyGo.one (i := 6) (by kernel_rfl) rfl (by kernel_rfl) (fun K' hK' => ?_)
      go_simp
      refine (HPL.out _).mono ?_
      rintro e w' ⟨rfl, rfl⟩
      refine hK'.out _ _ ⟨HX0.out, HX2.out⟩ ?_
      clear hK' K'
      (try simp only [Act.put, List.setIfInBounds_toArray])
      (refine AnyGo.take 7 (some 45) ?_ (a' := ?_) rfl (by kernel_rfl) (fun _ _ d _ _ h => by cases d <;> exact h) (by kernel_rfl) (by rfl) (by kernel_rfl) ?_ ?_ ?_; rotate_left 2; (focus (intro W hW; (try dsimp only at hW); go_simp; (try with_reducible rfl))); (focus (simp only [Act.put, List.setIfInBounds_toArray]; rfl)))
      (refine AnyGo.take 8 (some 46) ?_ (a' := ?_) rfl (by kernel_rfl) (fun _ _ d _ _ h => by cases d <;> exact h) (by kernel_rfl) (by rfl) (by kernel_rfl) ?_ ?_ ?_; rotate_left 2; (focus (intro W hW; (try dsimp only at hW); go_simp; (try with_reducible rfl))); (focus (simp only [Act.put, List.setIfInBounds_toArray]; rfl)))
      refine AnyGo.one (i := 9) (by kernel_rfl) rfl (by kernel_rfl) (fun K' hK' => ?_)
      go_simp
      have hy := (BoxL.new w [.int .i64 34, .string s, .int .i64 n, .int .i64 k, .int .i64 a] 39).alloc (.cells #[.string T, .int .u8 0, .string ⟨#[]⟩] 61)
      refine hK'.out _ _ ⟨hy.row 0 _ rfl, hy.row 2 _ rfl⟩ ?_
      clear hK' K' hy
      (try simp only [Act.put, List.setIfInBounds_toArray])
      refine AnyGo.fin (by kernel_rfl) ?_
      go_wp2_with fail
      go_returns
      exact ⟨rfl, ((Below.refl _ _).alloc (Nat.le_refl _) _ |>.alloc (by simp) _).drew⟩
    · rw [show shpP ⟨34, s, n, k, a⟩ = ⟨[] ++ [82, 66], 0, []⟩ by unfold shpP; simp [hn, plainP]]
      have hb : (n == 1) = false := by simpa using hn
      obtain ⟨E0, hE0⟩ : ∃ E0, E0 = (⟨#[]⟩ : ByteArray) := ⟨_, rfl⟩
      have HEI : Keep (∀ w, Calls Try.prog 48 #[.bool false, .string ⟨#[69]⟩, .string ⟨#[]⟩] w fun e w' => e = .returned (.string E0) ∧ w = w') := ⟨fun w => by rw [hE0]; exact either_any _ _ _ w⟩
      have hcat : E0 ++ str [82, 66] = str ([] ++ [82, 66]) := by rw [hE0]; rfl
      have hsz : (9223372036854775807 < E0.size + (str [82, 66]).size) = False := by rw [str_size, hE0]; simp [ByteArray.size]
      clear hE0
      generalize str ([] ++ [82, 66]) = T at *
      generalize str [82, 66] = U at *
      clear hn
      have hx := (BoxL.new w [.int .i64 34, .string s, .int .i64 n, .int .i64 k, .int .i64 a] 39).alloc (.cells #[.string ⟨#[]⟩, .int .u8 0, .string ⟨#[]⟩] 61)
      have HX0 := keep (hx.row 0 _ rfl)
      have HX2 := keep (hx.row 2 _ rfl)
      clear hx
      go_enter Try.func36, Try.ntmps36
      go_wp2_with fail
      refine AnyGo.region (fun W' => W'.cell? ⟨w.heap.size, 0, none⟩ = some (.int .i64 34) ∧ W'.cell? ⟨w.heap.size, 2, none⟩ = some (.int .i64 n)) (by kernel_rfl) (by rfl) ⟨HX0.out, HX2.out⟩ ?_
      intro wd ewd
      subst ewd
      (refine AnyGo.take 0 (some 38) ?_ (a' := ?_) rfl (by kernel_rfl) (fun _ _ d _ _ h => by cases d <;> exact h) (by kernel_rfl) (by rfl) (by kernel_rfl) ?_ ?_ ?_; rotate_left 2; (focus (intro W hW; (try dsimp only at hW); go_simp; (try with_reducible rfl))); (focus (simp only [Act.put, List.setIfInBounds_toArray]; rfl)))
      (refine AnyGo.take 1 (some 39) ?_ (a' := ?_) rfl (by kernel_rfl) (fun _ _ d _ _ h => by cases d <;> exact h) (by kernel_rfl) (by rfl) (by kernel_rfl) ?_ ?_ ?_; rotate_left 2; (focus (intro W hW; (try dsimp only at hW); go_simp; (try with_reducible rfl))); (focus (simp only [Act.put, List.setIfInBounds_toArray]; rfl)))
      (refine AnyGo.take 2 (some 40) ?_ (a' := ?_) rfl (by kernel_rfl) (fun _ _ d _ _ h => by cases d <;> exact h) (by kernel_rfl) (by rfl) (by kernel_rfl) ?_ ?_ ?_; rotate_left 2; (focus (intro W hW; (try dsimp only at hW); go_simp; (try with_reducible rfl))); (focus (simp only [Act.put, List.setIfInBounds_toArray]; rfl)))
      (refine AnyGo.take 4 (some 42) ?_ (a' := ?_) rfl (by kernel_rfl) (fun _ _ d _ _ h => by cases d <;> exact h) (by kernel_rfl) (by rfl) (by kernel_rfl) ?_ ?_ ?_; rotate_left 2; (focus (intro W hW; (try dsimp only at hW); go_simp; (try with_reducible rfl))); (focus (simp only [Act.put, List.setIfInBounds_toArray]; rfl)))
      (refine AnyGo.take 5 (some 43) ?_ (a' := ?_) rfl (by kernel_rfl) (fun _ _ d _ _ h => by cases d <;> exact h) (by kernel_rfl) (by rfl) (by kernel_rfl) ?_ ?_ ?_; rotate_left 2; (focus (intro W hW; (try dsimp only at hW); go_simp; (try with_reducible rfl))); (focus (simp only [Act.put, List.setIfInBounds_toArray]; rfl)))
      refine AnyGo.one (i := 3) (by kernel_rfl) rfl (by kernel_rfl) (fun K' hK' => ?_)
      go_simp
      refine (HEI.out _).mono ?_
      rintro e w' ⟨rfl, rfl⟩
      refine hK'.out _ _ ⟨HX0.out, HX2.out⟩ ?_
      clear hK' K'
      (try simp only [Act.put, List.setIfInBounds_toArray])
      refine AnyGo.one (i := 6) (by kernel_rfl) rfl (by kernel_rfl) (fun K' hK' => ?_)
      go_simp
      refine (HPL.out _).mono ?_
      rintro e w' ⟨rfl, rfl⟩
      refine hK'.out _ _ ⟨HX0.out, HX2.out⟩ ?_
      clear hK' K'
      (try simp only [Act.put, List.setIfInBounds_toArray])
      (refine AnyGo.take 7 (some 45) ?_ (a' := ?_) rfl (by kernel_rfl) (fun _ _ d _ _ h => by cases d <;> exact h) (by kernel_rfl) (by rfl) (by kernel_rfl) ?_ ?_ ?_; rotate_left 2; (focus (intro W hW; (try dsimp only at hW); go_simp; (try with_reducible rfl))); (focus (simp only [Act.put, List.setIfInBounds_toArray]; rfl)))
      (refine AnyGo.take 8 (some 46) ?_ (a' := ?_) rfl (by kernel_rfl) (fun _ _ d _ _ h => by cases d <;> exact h) (by kernel_rfl) (by rfl) (by kernel_rfl) ?_ ?_ ?_; rotate_left 2; (focus (intro W hW; (try dsimp only at hW); go_simp; (try with_reducible rfl))); (focus (simp only [Act.put, List.setIfInBounds_toArray]; rfl)))
      refine AnyGo.one (i := 9) (by kernel_rfl) rfl (by kernel_rfl) (fun K' hK' => ?_)
      go_simp
      have hy := (BoxL.new w [.int .i64 34, .string s, .int .i64 n, .int .i64 k, .int .i64 a] 39).alloc (.cells #[.string T, .int .u8 0, .string ⟨#[]⟩] 61)
      refine hK'.out _ _ ⟨hy.row 0 _ rfl, hy.row 2 _ rfl⟩ ?_
      clear hK' K' hy
      (try simp only [Act.put, List.setIfInBounds_toArray])
      refine AnyGo.fin (by kernel_rfl) ?_
      go_wp2_with fail
      go_returns
      exact ⟨rfl, ((Below.refl _ _).alloc (Nat.le_refl _) _ |>.alloc (by simp) _).drew⟩
  have n7 : (op == 34) = false := by simpa using h7
  by_cases h8 : op = 35
  · subst h8
    rw [show plainP 35 = [82, 69, 66] from rfl] at HPL
    by_cases hn : n = 1
    · rw [show shpP ⟨35, s, n, k, a⟩ = ⟨[69] ++ [82, 69, 66], 0, []⟩ by unfold shpP; simp [hn, plainP]]
      have hb : (n == 1) = true := by simp [hn]
      obtain ⟨E0, hE0⟩ : ∃ E0, E0 = (⟨#[69]⟩ : ByteArray) := ⟨_, rfl⟩
      have HEI : Keep (∀ w, Calls Try.prog 48 #[.bool true, .string ⟨#[69]⟩, .string ⟨#[]⟩] w fun e w' => e = .returned (.string E0) ∧ w = w') := ⟨fun w => by rw [hE0]; exact either_any _ _ _ w⟩
      have hcat : E0 ++ str [82, 69, 66] = str ([69] ++ [82, 69, 66]) := by rw [hE0]; rfl
      have hsz : (9223372036854775807 < E0.size + (str [82, 69, 66]).size) = False := by rw [str_size, hE0]; simp [ByteArray.size]
      clear hE0
      generalize str ([69] ++ [82, 69, 66]) = T at *
      generalize str [82, 69, 66] = U at *
      clear hn
      have hx := (BoxL.new w [.int .i64 35, .string s, .int .i64 n, .int .i64 k, .int .i64 a] 39).alloc (.cells #[.string ⟨#[]⟩, .int .u8 0, .string ⟨#[]⟩] 61)
      have HX0 := keep (hx.row 0 _ rfl)
      have HX2 := keep (hx.row 2 _ rfl)
      clear hx
      go_enter Try.func36, Try.ntmps36
      go_wp2_with fail
      refine AnyGo.region (fun W' => W'.cell? ⟨w.heap.size, 0, none⟩ = some (.int .i64 35) ∧ W'.cell? ⟨w.heap.size, 2, none⟩ = some (.int .i64 n)) (by kernel_rfl) (by rfl) ⟨HX0.out, HX2.out⟩ ?_
      intro wd ewd
      subst ewd
      (refine AnyGo.take 0 (some 38) ?_ (a' := ?_) rfl (by kernel_rfl) (fun _ _ d _ _ h => by cases d <;> exact h) (by kernel_rfl) (by rfl) (by kernel_rfl) ?_ ?_ ?_; rotate_left 2; (focus (intro W hW; (try dsimp only at hW); go_simp; (try with_reducible rfl))); (focus (simp only [Act.put, List.setIfInBounds_toArray]; rfl)))
      (refine AnyGo.take 1 (some 39) ?_ (a' := ?_) rfl (by kernel_rfl) (fun _ _ d _ _ h => by cases d <;> exact h) (by kernel_rfl) (by rfl) (by kernel_rfl) ?_ ?_ ?_; rotate_left 2; (focus (intro W hW; (try dsimp only at hW); go_simp; (try with_reducible rfl))); (focus (simp only [Act.put, List.setIfInBounds_toArray]; rfl)))
      (refine AnyGo.take 2 (some 40) ?_ (a' := ?_) rfl (by kernel_rfl) (fun _ _ d _ _ h => by cases d <;> exact h) (by kernel_rfl) (by rfl) (by kernel_rfl) ?_ ?_ ?_; rotate_left 2; (focus (intro W hW; (try dsimp only at hW); go_simp; (try with_reducible rfl))); (focus (simp only [Act.put, List.setIfInBounds_toArray]; rfl)))
      (refine AnyGo.take 4 (some 42) ?_ (a' := ?_) rfl (by kernel_rfl) (fun _ _ d _ _ h => by cases d <;> exact h) (by kernel_rfl) (by rfl) (by kernel_rfl) ?_ ?_ ?_; rotate_left 2; (focus (intro W hW; (try dsimp only at hW); go_simp; (try with_reducible rfl))); (focus (simp only [Act.put, List.setIfInBounds_toArray]; rfl)))
      (refine AnyGo.take 5 (some 43) ?_ (a' := ?_) rfl (by kernel_rfl) (fun _ _ d _ _ h => by cases d <;> exact h) (by kernel_rfl) (by rfl) (by kernel_rfl) ?_ ?_ ?_; rotate_left 2; (focus (intro W hW; (try dsimp only at hW); go_simp; (try with_reducible rfl))); (focus (simp only [Act.put, List.setIfInBounds_toArray]; rfl)))
      refine AnyGo.one (i := 3) (by kernel_rfl) rfl (by kernel_rfl) (fun K' hK' => ?_)
      go_simp
      refine (HEI.out _).mono ?_
      rintro e w' ⟨rfl, rfl⟩
      refine hK'.out _ _ ⟨HX0.out, HX2.out⟩ ?_
      clear hK' K'
      (try simp only [Act.put, List.setIfInBounds_toArray])
      refine AnyGo.one (i := 6) (by kernel_rfl) rfl (by kernel_rfl) (fun K' hK' => ?_)
      go_simp
      refine (HPL.out _).mono ?_
      rintro e w' ⟨rfl, rfl⟩
      refine hK'.out _ _ ⟨HX0.out, HX2.out⟩ ?_
      clear hK' K'
      (try simp only [Act.put, List.setIfInBounds_toArray])
      (refine AnyGo.take 7 (some 45) ?_ (a' := ?_) rfl (by kernel_rfl) (fun _ _ d _ _ h => by cases d <;> exact h) (by kernel_rfl) (by rfl) (by kernel_rfl) ?_ ?_ ?_; rotate_left 2; (focus (intro W hW; (try dsimp only at hW); go_simp; (try with_reducible rfl))); (focus (simp only [Act.put, List.setIfInBounds_toArray]; rfl)))
      (refine AnyGo.take 8 (some 46) ?_ (a' := ?_) rfl (by kernel_rfl) (fun _ _ d _ _ h => by cases d <;> exact h) (by kernel_rfl) (by rfl) (by kernel_rfl) ?_ ?_ ?_; rotate_left 2; (focus (intro W hW; (try dsimp only at hW); go_simp; (try with_reducible rfl))); (focus (simp only [Act.put, List.setIfInBounds_toArray]; rfl)))
      refine AnyGo.one (i := 9) (by kernel_rfl) rfl (by kernel_rfl) (fun K' hK' => ?_)
      go_simp
      have hy := (BoxL.new w [.int .i64 35, .string s, .int .i64 n, .int .i64 k, .int .i64 a] 39).alloc (.cells #[.string T, .int .u8 0, .string ⟨#[]⟩] 61)
      refine hK'.out _ _ ⟨hy.row 0 _ rfl, hy.row 2 _ rfl⟩ ?_
      clear hK' K' hy
      (try simp only [Act.put, List.setIfInBounds_toArray])
      refine AnyGo.fin (by kernel_rfl) ?_
      go_wp2_with fail
      go_returns
      exact ⟨rfl, ((Below.refl _ _).alloc (Nat.le_refl _) _ |>.alloc (by simp) _).drew⟩
    · rw [show shpP ⟨35, s, n, k, a⟩ = ⟨[] ++ [82, 69, 66], 0, []⟩ by unfold shpP; simp [hn, plainP]]
      have hb : (n == 1) = false := by simpa using hn
      obtain ⟨E0, hE0⟩ : ∃ E0, E0 = (⟨#[]⟩ : ByteArray) := ⟨_, rfl⟩
      have HEI : Keep (∀ w, Calls Try.prog 48 #[.bool false, .string ⟨#[69]⟩, .string ⟨#[]⟩] w fun e w' => e = .returned (.string E0) ∧ w = w') := ⟨fun w => by rw [hE0]; exact either_any _ _ _ w⟩
      have hcat : E0 ++ str [82, 69, 66] = str ([] ++ [82, 69, 66]) := by rw [hE0]; rfl
      have hsz : (9223372036854775807 < E0.size + (str [82, 69, 66]).size) = False := by rw [str_size, hE0]; simp [ByteArray.size]
      clear hE0
      generalize str ([] ++ [82, 69, 66]) = T at *
      generalize str [82, 69, 66] = U at *
      clear hn
      have hx := (BoxL.new w [.int .i64 35, .string s, .int .i64 n, .int .i64 k, .int .i64 a] 39).alloc (.cells #[.string ⟨#[]⟩, .int .u8 0, .string ⟨#[]⟩] 61)
      have HX0 := keep (hx.row 0 _ rfl)
      have HX2 := keep (hx.row 2 _ rfl)
      clear hx
      go_enter Try.func36, Try.ntmps36
      go_wp2_with fail
      refine AnyGo.region (fun W' => W'.cell? ⟨w.heap.size, 0, none⟩ = some (.int .i64 35) ∧ W'.cell? ⟨w.heap.size, 2, none⟩ = some (.int .i64 n)) (by kernel_rfl) (by rfl) ⟨HX0.out, HX2.out⟩ ?_
      intro wd ewd
      subst ewd
      (refine AnyGo.take 0 (some 38) ?_ (a' := ?_) rfl (by kernel_rfl) (fun _ _ d _ _ h => by cases d <;> exact h) (by kernel_rfl) (by rfl) (by kernel_rfl) ?_ ?_ ?_; rotate_left 2; (focus (intro W hW; (try dsimp only at hW); go_simp; (try with_reducible rfl))); (focus (simp only [Act.put, List.setIfInBounds_toArray]; rfl)))
      (refine AnyGo.take 1 (some 39) ?_ (a' := ?_) rfl (by kernel_rfl) (fun _ _ d _ _ h => by cases d <;> exact h) (by kernel_rfl) (by rfl) (by kernel_rfl) ?_ ?_ ?_; rotate_left 2; (focus (intro W hW; (try dsimp only at hW); go_simp; (try with_reducible rfl))); (focus (simp only [Act.put, List.setIfInBounds_toArray]; rfl)))
      (refine AnyGo.take 2 (some 40) ?_ (a' := ?_) rfl (by kernel_rfl) (fun _ _ d _ _ h => by cases d <;> exact h) (by kernel_rfl) (by rfl) (by kernel_rfl) ?_ ?_ ?_; rotate_left 2; (focus (intro W hW; (try dsimp only at hW); go_simp; (try with_reducible rfl))); (focus (simp only [Act.put, List.setIfInBounds_toArray]; rfl)))
      (refine AnyGo.take 4 (some 42) ?_ (a' := ?_) rfl (by kernel_rfl) (fun _ _ d _ _ h => by cases d <;> exact h) (by kernel_rfl) (by rfl) (by kernel_rfl) ?_ ?_ ?_; rotate_left 2; (focus (intro W hW; (try dsimp only at hW); go_simp; (try with_reducible rfl))); (focus (simp only [Act.put, List.setIfInBounds_toArray]; rfl)))
      (refine AnyGo.take 5 (some 43) ?_ (a' := ?_) rfl (by kernel_rfl) (fun _ _ d _ _ h => by cases d <;> exact h) (by kernel_rfl) (by rfl) (by kernel_rfl) ?_ ?_ ?_; rotate_left 2; (focus (intro W hW; (try dsimp only at hW); go_simp; (try with_reducible rfl))); (focus (simp only [Act.put, List.setIfInBounds_toArray]; rfl)))
      refine AnyGo.one (i := 3) (by kernel_rfl) rfl (by kernel_rfl) (fun K' hK' => ?_)
      go_simp
      refine (HEI.out _).mono ?_
      rintro e w' ⟨rfl, rfl⟩
      refine hK'.out _ _ ⟨HX0.out, HX2.out⟩ ?_
      clear hK' K'
      (try simp only [Act.put, List.setIfInBounds_toArray])
      refine AnyGo.one (i := 6) (by kernel_rfl) rfl (by kernel_rfl) (fun K' hK' => ?_)
      go_simp
      refine (HPL.out _).mono ?_
      rintro e w' ⟨rfl, rfl⟩
      refine hK'.out _ _ ⟨HX0.out, HX2.out⟩ ?_
      clear hK' K'
      (try simp only [Act.put, List.setIfInBounds_toArray])
      (refine AnyGo.take 7 (some 45) ?_ (a' := ?_) rfl (by kernel_rfl) (fun _ _ d _ _ h => by cases d <;> exact h) (by kernel_rfl) (by rfl) (by kernel_rfl) ?_ ?_ ?_; rotate_left 2; (focus (intro W hW; (try dsimp only at hW); go_simp; (try with_reducible rfl))); (focus (simp only [Act.put, List.setIfInBounds_toArray]; rfl)))
      (refine AnyGo.take 8 (some 46) ?_ (a' := ?_) rfl (by kernel_rfl) (fun _ _ d _ _ h => by cases d <;> exact h) (by kernel_rfl) (by rfl) (by kernel_rfl) ?_ ?_ ?_; rotate_left 2; (focus (intro W hW; (try dsimp only at hW); go_simp; (try with_reducible rfl))); (focus (simp only [Act.put, List.setIfInBounds_toArray]; rfl)))
      refine AnyGo.one (i := 9) (by kernel_rfl) rfl (by kernel_rfl) (fun K' hK' => ?_)
      go_simp
      have hy := (BoxL.new w [.int .i64 35, .string s, .int .i64 n, .int .i64 k, .int .i64 a] 39).alloc (.cells #[.string T, .int .u8 0, .string ⟨#[]⟩] 61)
      refine hK'.out _ _ ⟨hy.row 0 _ rfl, hy.row 2 _ rfl⟩ ?_
      clear hK' K' hy
      (try simp only [Act.put, List.setIfInBounds_toArray])
      refine AnyGo.fin (by kernel_rfl) ?_
      go_wp2_with fail
      go_returns
      exact ⟨rfl, ((Below.refl _ _).alloc (Nat.le_refl _) _ |>.alloc (by simp) _).drew⟩
  have n8 : (op == 35) = false := by simpa using h8
  by_cases h9 : op = 36
  · subst h9
    rw [show plainP 36 = [69, 66] from rfl] at HPL
    by_cases hn : n = 1
    · rw [show shpP ⟨36, s, n, k, a⟩ = ⟨[69] ++ [69, 66], 0, []⟩ by unfold shpP; simp [hn, plainP]]
      have hb : (n == 1) = true := by simp [hn]
      obtain ⟨E0, hE0⟩ : ∃ E0, E0 = (⟨#[69]⟩ : ByteArray) := ⟨_, rfl⟩
      have HEI : Keep (∀ w, Calls Try.prog 48 #[.bool true, .string ⟨#[69]⟩, .string ⟨#[]⟩] w fun e w' => e = .returned (.string E0) ∧ w = w') := ⟨fun w => by rw [hE0]; exact either_any _ _ _ w⟩
      have hcat : E0 ++ str [69, 66] = str ([69] ++ [69, 66]) := by rw [hE0]; rfl
      have hsz : (9223372036854775807 < E0.size + (str [69, 66]).size) = False := by rw [str_size, hE0]; simp [ByteArray.size]
      clear hE0
      generalize str ([69] ++ [69, 66]) = T at *
      generalize str [69, 66] = U at *
      clear hn
      have hx := (BoxL.new w [.int .i64 36, .string s, .int .i64 n, .int .i64 k, .int .i64 a] 39).alloc (.cells #[.string ⟨#[]⟩, .int .u8 0, .string ⟨#[]⟩] 61)
      have HX0 := keep (hx.row 0 _ rfl)
      have HX2 := keep (hx.row 2 _ rfl)
      clear hx
      go_enter Try.func36, Try.ntmps36
      go_wp2_with fail
      refine AnyGo.region (fun W' => W'.cell? ⟨w.heap.size, 0, none⟩ = some (.int .i64 36) ∧ W'.cell? ⟨w.heap.size, 2, none⟩ = some (.int .i64 n)) (by kernel_rfl) (by rfl) ⟨HX0.out, HX2.out⟩ ?_
      intro wd ewd
      subst ewd
      (refine AnyGo.take 0 (some 38) ?_ (a' := ?_) rfl (by kernel_rfl) (fun _ _ d _ _ h => by cases d <;> exact h) (by kernel_rfl) (by rfl) (by kernel_rfl) ?_ ?_ ?_; rotate_left 2; (focus (intro W hW; (try dsimp only at hW); go_simp; (try with_reducible rfl))); (focus (simp only [Act.put, List.setIfInBounds_toArray]; rfl)))
      (refine AnyGo.take 1 (some 39) ?_ (a' := ?_) rfl (by kernel_rfl) (fun _ _ d _ _ h => by cases d <;> exact h) (by kernel_rfl) (by rfl) (by kernel_rfl) ?_ ?_ ?_; rotate_left 2; (focus (intro W hW; (try dsimp only at hW); go_simp; (try with_reducible rfl))); (focus (simp only [Act.put, List.setIfInBounds_toArray]; rfl)))
      (refine AnyGo.take 2 (some 40) ?_ (a' := ?_) rfl (by kernel_rfl) (fun _ _ d _ _ h => by cases d <;> exact h) (by kernel_rfl) (by rfl) (by kernel_rfl) ?_ ?_ ?_; rotate_left 2; (focus (intro W hW; (try dsimp only at hW); go_simp; (try with_reducible rfl))); (focus (simp only [Act.put, List.setIfInBounds_toArray]; rfl)))
      (refine AnyGo.take 4 (some 42) ?_ (a' := ?_) rfl (by kernel_rfl) (fun _ _ d _ _ h => by cases d <;> exact h) (by kernel_rfl) (by rfl) (by kernel_rfl) ?_ ?_ ?_; rotate_left 2; (focus (intro W hW; (try dsimp only at hW); go_simp; (try with_reducible rfl))); (focus (simp only [Act.put, List.setIfInBounds_toArray]; rfl)))
      (refine AnyGo.take 5 (some 43) ?_ (a' := ?_) rfl (by kernel_rfl) (fun _ _ d _ _ h => by cases d <;> exact h) (by kernel_rfl) (by rfl) (by kernel_rfl) ?_ ?_ ?_; rotate_left 2; (focus (intro W hW; (try dsimp only at hW); go_simp; (try with_reducible rfl))); (focus (simp only [Act.put, List.setIfInBounds_toArray]; rfl)))
      refine AnyGo.one (i := 3) (by kernel_rfl) rfl (by kernel_rfl) (fun K' hK' => ?_)
      go_simp
      refine (HEI.out _).mono ?_
      rintro e w' ⟨rfl, rfl⟩
      refine hK'.out _ _ ⟨HX0.out, HX2.out⟩ ?_
      clear hK' K'
      (try simp only [Act.put, List.setIfInBounds_toArray])
      refine AnyGo.one (i := 6) (by kernel_rfl) rfl (by kernel_rfl) (fun K' hK' => ?_)
      go_simp
      refine (HPL.out _).mono ?_
      rintro e w' ⟨rfl, rfl⟩
      refine hK'.out _ _ ⟨HX0.out, HX2.out⟩ ?_
      clear hK' K'
      (try simp only [Act.put, List.setIfInBounds_toArray])
      (refine AnyGo.take 7 (some 45) ?_ (a' := ?_) rfl (by kernel_rfl) (fun _ _ d _ _ h => by cases d <;> exact h) (by kernel_rfl) (by rfl) (by kernel_rfl) ?_ ?_ ?_; rotate_left 2; (focus (intro W hW; (try dsimp only at hW); go_simp; (try with_reducible rfl))); (focus (simp only [Act.put, List.setIfInBounds_toArray]; rfl)))
      (refine AnyGo.take 8 (some 46) ?_ (a' := ?_) rfl (by kernel_rfl) (fun _ _ d _ _ h => by cases d <;> exact h) (by kernel_rfl) (by rfl) (by kernel_rfl) ?_ ?_ ?_; rotate_left 2; (focus (intro W hW; (try dsimp only at hW); go_simp; (try with_reducible rfl))); (focus (simp only [Act.put, List.setIfInBounds_toArray]; rfl)))
      refine AnyGo.one (i := 9) (by kernel_rfl) rfl (by kernel_rfl) (fun K' hK' => ?_)
      go_simp
      have hy := (BoxL.new w [.int .i64 36, .string s, .int .i64 n, .int .i64 k, .int .i64 a] 39).alloc (.cells #[.string T, .int .u8 0, .string ⟨#[]⟩] 61)
      refine hK'.out _ _ ⟨hy.row 0 _ rfl, hy.row 2 _ rfl⟩ ?_
      clear hK' K' hy
      (try simp only [Act.put, List.setIfInBounds_toArray])
      refine AnyGo.fin (by kernel_rfl) ?_
      go_wp2_with fail
      go_returns
      exact ⟨rfl, ((Below.refl _ _).alloc (Nat.le_refl _) _ |>.alloc (by simp) _).drew⟩
    · rw [show shpP ⟨36, s, n, k, a⟩ = ⟨[] ++ [69, 66], 0, []⟩ by unfold shpP; simp [hn, plainP]]
      have hb : (n == 1) = false := by simpa using hn
      obtain ⟨E0, hE0⟩ : ∃ E0, E0 = (⟨#[]⟩ : ByteArray) := ⟨_, rfl⟩
      have HEI : Keep (∀ w, Calls Try.prog 48 #[.bool false, .string ⟨#[69]⟩, .string ⟨#[]⟩] w fun e w' => e = .returned (.string E0) ∧ w = w') := ⟨fun w => by rw [hE0]; exact either_any _ _ _ w⟩
      have hcat : E0 ++ str [69, 66] = str ([] ++ [69, 66]) := by rw [hE0]; rfl
      have hsz : (9223372036854775807 < E0.size + (str [69, 66]).size) = False := by rw [str_size, hE0]; simp [ByteArray.size]
      clear hE0
      generalize str ([] ++ [69, 66]) = T at *
      generalize str [69, 66] = U at *
      clear hn
      have hx := (BoxL.new w [.int .i64 36, .string s, .int .i64 n, .int .i64 k, .int .i64 a] 39).alloc (.cells #[.string ⟨#[]⟩, .int .u8 0, .string ⟨#[]⟩] 61)
      have HX0 := keep (hx.row 0 _ rfl)
      have HX2 := keep (hx.row 2 _ rfl)
      clear hx
      go_enter Try.func36, Try.ntmps36
      go_wp2_with fail
      refine AnyGo.region (fun W' => W'.cell? ⟨w.heap.size, 0, none⟩ = some (.int .i64 36) ∧ W'.cell? ⟨w.heap.size, 2, none⟩ = some (.int .i64 n)) (by kernel_rfl) (by rfl) ⟨HX0.out, HX2.out⟩ ?_
      intro wd ewd
      subst ewd
      (refine AnyGo.take 0 (some 38) ?_ (a' := ?_) rfl (by kernel_rfl) (fun _ _ d _ _ h => by cases d <;> exact h) (by kernel_rfl) (by rfl) (by kernel_rfl) ?_ ?_ ?_; rotate_left 2; (focus (intro W hW; (try dsimp only at hW); go_simp; (try with_reducible rfl))); (focus (simp only [Act.put, List.setIfInBounds_toArray]; rfl)))
      (refine AnyGo.take 1 (some 39) ?_ (a' := ?_) rfl (by kernel_rfl) (fun _ _ d _ _ h => by cases d <;> exact h) (by kernel_rfl) (by rfl) (by kernel_rfl) ?_ ?_ ?_; rotate_left 2; (focus (intro W hW; (try dsimp only at hW); go_simp; (try with_reducible rfl))); (focus (simp only [Act.put, List.setIfInBounds_toArray]; rfl)))
      (refine AnyGo.take 2 (some 40) ?_ (a' := ?_) rfl (by kernel_rfl) (fun _ _ d _ _ h => by cases d <;> exact h) (by kernel_rfl) (by rfl) (by kernel_rfl) ?_ ?_ ?_; rotate_left 2; (focus (intro W hW; (try dsimp only at hW); go_simp; (try with_reducible rfl))); (focus (simp only [Act.put, List.setIfInBounds_toArray]; rfl)))
      (refine AnyGo.take 4 (some 42) ?_ (a' := ?_) rfl (by kernel_rfl) (fun _ _ d _ _ h => by cases d <;> exact h) (by kernel_rfl) (by rfl) (by kernel_rfl) ?_ ?_ ?_; rotate_left 2; (focus (intro W hW; (try dsimp only at hW); go_simp; (try with_reducible rfl))); (focus (simp only [Act.put, List.setIfInBounds_toArray]; rfl)))
      (refine AnyGo.take 5 (some 43) ?_ (a' := ?_) rfl (by kernel_rfl) (fun _ _ d _ _ h => by cases d <;> exact h) (by kernel_rfl) (by rfl) (by kernel_rfl) ?_ ?_ ?_; rotate_left 2; (focus (intro W hW; (try dsimp only at hW); go_simp; (try with_reducible rfl))); (focus (simp only [Act.put, List.setIfInBounds_toArray]; rfl)))
      refine AnyGo.one (i := 3) (by kernel_rfl) rfl (by kernel_rfl) (fun K' hK' => ?_)
      go_simp
      refine (HEI.out _).mono ?_
      rintro e w' ⟨rfl, rfl⟩
      refine hK'.out _ _ ⟨HX0.out, HX2.out⟩ ?_
      clear hK' K'
      (try simp only [Act.put, List.setIfInBounds_toArray])
      refine AnyGo.one (i := 6) (by kernel_rfl) rfl (by kernel_rfl) (fun K' hK' => ?_)
      go_simp
      refine (HPL.out _).mono ?_
      rintro e w' ⟨rfl, rfl⟩
      refine hK'.out _ _ ⟨HX0.out, HX2.out⟩ ?_
      clear hK' K'
      (try simp only [Act.put, List.setIfInBounds_toArray])
      (refine AnyGo.take 7 (some 45) ?_ (a' := ?_) rfl (by kernel_rfl) (fun _ _ d _ _ h => by cases d <;> exact h) (by kernel_rfl) (by rfl) (by kernel_rfl) ?_ ?_ ?_; rotate_left 2; (focus (intro W hW; (try dsimp only at hW); go_simp; (try with_reducible rfl))); (focus (simp only [Act.put, List.setIfInBounds_toArray]; rfl)))
      (refine AnyGo.take 8 (some 46) ?_ (a' := ?_) rfl (by kernel_rfl) (fun _ _ d _ _ h => by cases d <;> exact h) (by kernel_rfl) (by rfl) (by kernel_rfl) ?_ ?_ ?_; rotate_left 2; (focus (intro W hW; (try dsimp only at hW); go_simp; (try with_reducible rfl))); (focus (simp only [Act.put, List.setIfInBounds_toArray]; rfl)))
      refine AnyGo.one (i := 9) (by kernel_rfl) rfl (by kernel_rfl) (fun K' hK' => ?_)
      go_simp
      have hy := (BoxL.new w [.int .i64 36, .string s, .int .i64 n, .int .i64 k, .int .i64 a] 39).alloc (.cells #[.string T, .int .u8 0, .string ⟨#[]⟩] 61)
      refine hK'.out _ _ ⟨hy.row 0 _ rfl, hy.row 2 _ rfl⟩ ?_
      clear hK' K' hy
      (try simp only [Act.put, List.setIfInBounds_toArray])
      refine AnyGo.fin (by kernel_rfl) ?_
      go_wp2_with fail
      go_returns
      exact ⟨rfl, ((Below.refl _ _).alloc (Nat.le_refl _) _ |>.alloc (by simp) _).drew⟩
  have n9 : (op == 36) = false := by simpa using h9
  rw [show shpP ⟨op, s, n, k, a⟩ = ⟨plainP op, 0, []⟩ by unfold shpP; simp only; rw [if_neg h0, if_neg h1, if_neg h2, if_neg h3, if_neg h4, if_neg h5, if_neg h6, if_neg (by omega)]]
  simp only
  generalize str (plainP op) = T at *
  clear h0 h1 h2 h3 h4 h5 h6 h7 h8 h9
  go_enter Try.func36, Try.ntmps36
  go_wp2_with fail
  refine (HPL.out _).mono ?_
  rintro e w' ⟨rfl, rfl⟩
  go_wp2_with fail
  go_returns
  exact ⟨rfl, (Below.refl _ _).alloc (Nat.le_refl _) _ |>.alloc (by simp) _⟩
end Go.Proofs.Ytgodjgbdjgiapaa
