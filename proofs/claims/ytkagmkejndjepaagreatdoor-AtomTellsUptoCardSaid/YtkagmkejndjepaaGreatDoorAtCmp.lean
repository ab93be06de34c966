/-
  Norm's second closure: which of two pairs stands first. No condition.
-/
import Derived.Test.YtkagmkejndjepaaGreatDoorAtLib
import Derived.Test.YtkagmkejndjepaaGreatDoorAtDel
namespace Go.At
/-- which of two numbers is the greater one -/
def cmpI (x y : Int) : Int := if x < y then -1 else if y < x then 1 else 0
/-- which of two pairs stands first -/
def cmpP (x y : Pr) : Int := if cmpI x.1 y.1 = 0 then cmpI x.2 y.2 else cmpI x.1 y.1
theorem cmpP_lt (x y : Pr) : decide (cmpP x y < 0) = ltP x y := by
  unfold cmpP cmpI ltP
  by_cases h1 : x.1 < y.1
  · simp [h1]
  · by_cases h2 : y.1 < x.1
    · have h3 : ¬ x.1 = y.1 := by omega
      simp [h1, h2, h3]
    · have h3 : x.1 = y.1 := by omega
      by_cases h4 : x.2 < y.2
      · simp [h3, h4]
      · by_cases h5 : y.2 < x.2 <;> simp [h3, h4, h5]
end Go.At
namespace Go.Proofs.YtkagmkejndjepaaGreatDoor
open Go.RowKit Go.Shelf Go.At Go.Sort
attribute [local go_sem] Oper.semAt_some

theorem isNaN_any (x : Int) (w : World) : Calls Tryz.prog 62 #[.int .i64 x] w fun e w' => e = .returned (.bool false) ∧ w = w' := by
  have h : (x != x) = false := by simp
  go_enter Tryz.func62, Tryz.ntmps62
  go_wp2
  go_ret
  exact ⟨by simp, rfl⟩
set_option maxRecDepth 100000 in
theorem compare_any (x y : Int) (w : World) : Calls Tryz.prog 44 #[.int .i64 x, .int .i64 y] w fun e w' => e = .returned (.int .i64 (cmpI x y)) ∧ w = w' := by
  have k := isNaN_any
  unfold cmpI
  by_cases h1 : x < y
  · have hd : decide (x < y) = true := decide_eq_true h1
    rw [if_pos h1]
    go_enter Tryz.func44, Tryz.ntmps44
    go_wp2_with (go_at_call 62; refine (k _ _).mono ?_; rintro e w' ⟨rfl, rfl⟩)
    go_ret
    exact ⟨rfl, rfl⟩
  · have hd : decide (x < y) = false := decide_eq_false h1
    rw [if_neg h1]
    by_cases h2 : y < x
    · have hd2 : decide (y < x) = true := decide_eq_true h2
      rw [if_pos h2]
      go_enter Tryz.func44, Tryz.ntmps44
      go_wp2_with (go_at_call 62; refine (k _ _).mono ?_; rintro e w' ⟨rfl, rfl⟩)
      go_ret
      exact ⟨rfl, rfl⟩
    · have hd2 : decide (y < x) = false := decide_eq_false h2
      rw [if_neg h2]
      go_enter Tryz.func44, Tryz.ntmps44
      go_wp2_with (go_at_call 62; refine (k _ _).mono ?_; rintro e w' ⟨rfl, rfl⟩)
      go_ret
      exact ⟨rfl, rfl⟩
/-- the first that is not 0 -/
def orI (a b : Int) : Int := if a = 0 then b else a
set_option maxRecDepth 100000 in
set_option maxHeartbeats 1000000 in
theorem or_any (b : Nat) (x y : Int) (w : World) (h0 : w.cell? ⟨b, 0, none⟩ = some (.int .i64 x)) (h1 : w.cell? ⟨b, 1, none⟩ = some (.int .i64 y)) :
    Calls Tryz.prog 43 #[.slice (some ⟨b, 0, none⟩) 2 2] w fun e w' => e = .returned (.int .i64 (orI x y)) ∧ w = w' := by
  have ex : x ≠ 0 → orI x y = x := fun h => if_neg h
  have ey : x = 0 → orI x y = y := fun h => if_pos h
  replace ex := Lib.hid ex
  replace ey := Lib.hid ey
  go_enter Tryz.func43, Tryz.ntmps43
  go_wp2_with fail
  go_loopw [8] (fun i wr => ∃ k : Nat, k ≤ 2 ∧ i = .int .i64 k ∧ wr = w ∧ Hid (0 < k → x = 0) ∧ Hid (1 < k → y = 0)) (fun i _ => 2 - (intOf i).toNat)
  case atStart => exact ⟨0, by omega, rfl, rfl, fun h => absurd h (by omega), fun h => absurd h (by omega)⟩
  case round =>
    obtain ⟨k, hk, rfl, rfl, hX, hY⟩ := hrel
    rcases (show k = 0 ∨ k = 1 ∨ k = 2 by omega) with rfl | rfl | rfl
    · cases hb : (x != 0) with
      | true =>
        have hne : x ≠ 0 := by simpa using hb
        go_wp2_with fail
        go_ret
        exact ⟨by rw [ex.out hne]; rfl, rfl⟩
      | false =>
        have hne : Hid (x = 0) := (show x = 0 by simpa using hb)
        go_wp2_with fail
        go_roundw
        case rel => exact ⟨1, by omega, by first | rfl | trivial, by first | rfl | trivial, fun _ => hne.out, fun h => absurd h (by omega)⟩
        case measure => simp [intOf]
    · cases hb : (y != 0) with
      | true =>
        have hne : y ≠ 0 := by simpa using hb
        have hx0 := Lib.hid (hX.out (by omega))
        go_wp2_with fail
        go_ret
        exact ⟨by rw [ey.out hx0.out]; rfl, rfl⟩
      | false =>
        have hne : Hid (y = 0) := (show y = 0 by simpa using hb)
        have hx0 := Lib.hid (hX.out (by omega))
        go_wp2_with fail
        go_roundw
        case rel => exact ⟨2, by omega, by first | rfl | trivial, by first | rfl | trivial, fun _ => hx0.out, fun _ => hne.out⟩
        case measure => simp [intOf]
    · have hx0 := Lib.hid (hX.out (by omega))
      have hy0 := Lib.hid (hY.out (by omega))
      go_wp2_with fail
      go_ret
      exact ⟨by rw [ey.out hx0.out, hy0.out]; rfl, rfl⟩

set_option maxRecDepth 100000 in
set_option maxHeartbeats 4000000 in
theorem cmp2_any (p q : Pr) (w : World) : Calls Tryz.prog 42 #[.agg #[.int .i64 p.1, .int .i64 p.2], .agg #[.int .i64 q.1, .int .i64 q.2]] w fun e w' => e = .returned (.int .i64 (cmpP p q)) ∧ ∃ k os', w' = grow (w.drewN k) os' := by
  obtain ⟨a, b⟩ := p
  obtain ⟨c, d⟩ := q
  have ec : orI (cmpI a c) (cmpI b d) = cmpP (a, b) (c, d) := rfl
  have k1 := Lib.hid (fun W => compare_any a c W)
  have k2 := Lib.hid (fun W => compare_any b d W)
  have kxy : Hid (∀ (x y r : Int) (W : World), ((x = a ∧ y = c ∧ r = cmpI a c) ∨ (x = b ∧ y = d ∧ r = cmpI b d)) → Calls Tryz.prog 44 #[.int .i64 x, .int .i64 y] W fun e w' => e = .returned (.int .i64 r) ∧ W = w') := fun x y r W h => by
    rcases h with ⟨rfl, rfl, rfl⟩ | ⟨rfl, rfl, rfl⟩
    · exact k1.out W
    · exact k2.out W
  clear k1 k2
  have ko := Lib.hid (fun (B : Nat) (W : World) (h0 : W.cell? ⟨B, 0, none⟩ = some (.int .i64 (cmpI a c))) (h1 : W.cell? ⟨B, 1, none⟩ = some (.int .i64 (cmpI b d))) => or_any B (cmpI a c) (cmpI b d) W h0 h1)
  generalize cmpI a c = r1 at kxy ko ec
  generalize cmpI b d = r2 at kxy ko ec
  dsimp only
  rw [← ec]
  clear ec
  go_enter Tryz.func42, Tryz.ntmps42
  go_wp2_with fail
  obtain ⟨V, hV⟩ : ∃ V, (w.alloc (.cells #[.int .i64 a, .int .i64 b] 53)).alloc (.cells #[.int .i64 c, .int .i64 d] 53) = V := ⟨_, rfl⟩
  have h1 := World.alloc_heap_new (w.alloc (.cells #[.int .i64 a, .int .i64 b] 53)) (.cells #[.int .i64 c, .int .i64 d] 53)
  have h0 := (Below.heap_alloc (w.alloc (.cells #[.int .i64 a, .int .i64 b] 53)) (.cells #[.int .i64 c, .int .i64 d] 53) w.heap.size (by simp)).trans (World.alloc_heap_new w _)
  have hs : V.heap.size = w.heap.size + 2 := by rw [← hV]; simp
  have hg : Hid (∃ os, V = grow (w.drewN 0) os) := ⟨_, by rw [← hV, alloc_eq_grow, alloc_eq_grow, grow_grow]; rfl⟩
  rw [hV] at h1 h0 ⊢
  simp only [World.size_alloc] at h1
  replace hV := Lib.hid hV
  have q0 := cell_of_row _ _ 0 _ _ _ h0
  have q1 := cell_of_row _ _ 1 _ _ _ h0
  have q2 := cell_of_row _ _ 0 _ _ _ h1
  have q3 := cell_of_row _ _ 1 _ _ _ h1
  have hS : Hid (∀ W, Below V.heap.size V W → W.cell? ⟨w.heap.size, 0, none⟩ = some (.int .i64 a) ∧ W.cell? ⟨w.heap.size, 1, none⟩ = some (.int .i64 b) ∧ W.cell? ⟨w.heap.size + 1, 0, none⟩ = some (.int .i64 c) ∧ W.cell? ⟨w.heap.size + 1, 1, none⟩ = some (.int .i64 d)) := fun W hW =>
    ⟨(hW.cell (p := ⟨w.heap.size, 0, none⟩) (by show w.heap.size < V.heap.size; omega)).trans q0, (hW.cell (p := ⟨w.heap.size, 1, none⟩) (by show w.heap.size < V.heap.size; omega)).trans q1, (hW.cell (p := ⟨w.heap.size + 1, 0, none⟩) (by show w.heap.size + 1 < V.heap.size; omega)).trans q2, (hW.cell (p := ⟨w.heap.size + 1, 1, none⟩) (by show w.heap.size + 1 < V.heap.size; omega)).trans q3⟩
  have hA : Hid (Below V.heap.size V ((V.alloc (.cells #[.int .i64 r1, .int .i64 r2] 3)).drew)) := ((Below.refl _ V).alloc (Nat.le_refl _) _).drew
  have x0 : ((V.alloc (.cells #[.int .i64 r1, .int .i64 r2] 3)).drew).cell? ⟨V.heap.size, 0, none⟩ = some (.int .i64 r1) := cell_of_row _ _ 0 _ _ _ (World.alloc_heap_new V _)
  have x1 : ((V.alloc (.cells #[.int .i64 r1, .int .i64 r2] 3)).drew).cell? ⟨V.heap.size, 1, none⟩ = some (.int .i64 r2) := cell_of_row _ _ 1 _ _ _ (World.alloc_heap_new V _)
  have kor := Lib.hid (ko.out _ _ x0 x1)
  have hend : Hid (∃ k os', (V.alloc (.cells #[.int .i64 r1, .int .i64 r2] 3)).drew = grow (w.drewN k) os') := by
    obtain ⟨os, ho⟩ := hg.out
    refine ⟨1, ?_⟩
    rw [ho, alloc_eq_grow, grow_grow, drew_grow]
    exact ⟨_, rfl⟩
  replace hs := Lib.hid hs
  clear x0 x1 h0 h1 ko
  go_region_held3 (fun W => W.cell? ⟨w.heap.size, 0, none⟩ = some (.int .i64 a) ∧ W.cell? ⟨w.heap.size, 1, none⟩ = some (.int .i64 b) ∧ W.cell? ⟨w.heap.size + 1, 0, none⟩ = some (.int .i64 c) ∧ W.cell? ⟨w.heap.size + 1, 1, none⟩ = some (.int .i64 d)) (first | exact ⟨q0, q1, q2, q3⟩ | exact hS.out _ hA.out) (first | (go_at_call 44; refine (kxy.out _ _ _ _ (by first | exact .inl ⟨rfl, rfl, rfl⟩ | exact .inr ⟨rfl, rfl, rfl⟩)).mono ?_; rintro e w9 ⟨rfl, rfl⟩) | (go_at_call 43; refine kor.out.mono ?_; rintro e w9 ⟨rfl, rfl⟩))
  all_goals
    go_wp2_with fail
    go_ret
    exact ⟨rfl, hend.out⟩
end Go.Proofs.YtkagmkejndjepaaGreatDoor
