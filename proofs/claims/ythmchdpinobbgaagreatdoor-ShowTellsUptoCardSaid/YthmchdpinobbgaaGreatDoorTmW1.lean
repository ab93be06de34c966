/-
  The walks of place.term, place.under, Binder. Condition: the term that the place is in can be read.
-/
import Derived.Test.YthmchdpinobbgaaGreatDoorTmMem
namespace Go.Proofs.YthmchdpinobbgaaGreatDoor
open Go.RowKit Go.Shelf Go.Tm
attribute [local go_sem ↓] Go.wp_at_zero Go.wp_at_succ

theorem belowN {B : Nat} {X W : World} (h : Below B X W) (k : Nat) : Below B X (W.drewN k) := ⟨h.os, h.tape, h.output, h.size, h.block⟩
theorem later_alloc (w : World) (o : Obj) : Below w.heap.size w (w.alloc o) := (Below.refl _ _).alloc (Nat.le_refl _) o
theorem cell_of_row (W : World) (B i : Nat) (cs : Array Value) (t : TypeId) (f : Nat × Nat) (h : W.heap[B]? = some (.cells cs t f)) : W.cell? ⟨B, i, none⟩ = cs[i]? := by
  simp [World.cell?, h]
theorem frozen_of_row {W : World} {B : Nat} {cs : Array Value} {t : TypeId} (h : W.heap[B]? = some (.cells cs t (0, 0))) (i : Nat) : W.frozen? ⟨B, i, none⟩ = false := by
  simp [World.frozen?, h]
theorem ret_bool {a b : Bool} (h : a = b) : Ending.returned (.bool a) = .returned (.bool b) := by rw [h]
theorem ret_int {k : IntKind} {a b : Int} (h : a = b) : Ending.returned (.int k a) = .returned (.int k b) := by rw [h]

theorem term_any (blk off kid d len kb ko c : Nat) (w : World) (h3 : w.cell? ⟨blk, off + 3, none⟩ = some (.slice (some ⟨kb, ko, none⟩) len c)) (hk : kid < len) :
    Calls Tryz.prog 24 #[.agg #[.pointer (some ⟨blk, off, none⟩), .int .i64 kid, .int .i64 d]] w fun e w' => e = .returned (.pointer (some ⟨kb, ko + kid * 4, none⟩)) ∧ Below w.heap.size w w' := by
  have hb := Lib.hid (later_alloc w (.cells #[.pointer (some ⟨blk, off, none⟩), .int .i64 kid, .int .i64 d] 60))
  have h3' := (hb.out.cell (p := ⟨blk, off + 3, none⟩) (World.block_lt_of_cell? w _ h3)).trans h3
  have hn := World.alloc_heap_new w (.cells #[.pointer (some ⟨blk, off, none⟩), .int .i64 kid, .int .i64 d] 60)
  have c0 := cell_of_row _ w.heap.size 0 _ _ _ hn
  have c1 := cell_of_row _ w.heap.size 1 _ _ _ hn
  clear hn h3
  go_enter Tryz.func24, Tryz.ntmps24
  go_wp2_with fail
  go_quiet (fail)
  all_goals go_wp2
  all_goals go_ret
  all_goals exact ⟨rfl, belowN hb.out _⟩

theorem wrap_small (x : Int) (h1 : -9223372036854775808 ≤ x) (h2 : x ≤ 9223372036854775807) : IntKind.i64.wrap x = x := by
  rw [IntKind.wrap_i64]; omega
theorem set3 {W : World} {B C i : Nat} {y : Value} (hne : C ≠ B) (u v x : Value) (h : W.cell? ⟨B, i, none⟩ = some y) : (((W.setCell ⟨C, 0, none⟩ u).setCell ⟨C, 1, none⟩ v).setCell ⟨C, 2, none⟩ x).cell? ⟨B, i, none⟩ = some y := by
  have n : ∀ j, (⟨C, j, none⟩ : Addr) ≠ ⟨B, i, none⟩ := fun j e => by injection e with e1; exact hne e1
  exact (World.cell?_setCell_other _ _ _ _ (n 2)).trans ((World.cell?_setCell_other _ _ _ _ (n 1)).trans ((World.cell?_setCell_other _ _ _ _ (n 0)).trans h))
theorem set3_at {W : World} {C : Nat} {a b c : Value} (u v x : Value) (h0 : W.cell? ⟨C, 0, none⟩ = some a) (h1 : W.cell? ⟨C, 1, none⟩ = some b) (h2 : W.cell? ⟨C, 2, none⟩ = some c) :
    (((W.setCell ⟨C, 0, none⟩ u).setCell ⟨C, 1, none⟩ v).setCell ⟨C, 2, none⟩ x).cell? ⟨C, 0, none⟩ = some u ∧ (((W.setCell ⟨C, 0, none⟩ u).setCell ⟨C, 1, none⟩ v).setCell ⟨C, 2, none⟩ x).cell? ⟨C, 1, none⟩ = some v ∧ (((W.setCell ⟨C, 0, none⟩ u).setCell ⟨C, 1, none⟩ v).setCell ⟨C, 2, none⟩ x).cell? ⟨C, 2, none⟩ = some x := by
  have n : ∀ i j : Nat, i ≠ j → (⟨C, i, none⟩ : Addr) ≠ ⟨C, j, none⟩ := fun i j h e => by injection e with _ e1; exact h e1
  have e0 : (W.setCell ⟨C, 0, none⟩ u).cell? ⟨C, 0, none⟩ = some u := World.cell?_setCell_same' _ _ _ (by rw [h0]; rfl)
  have e1 : (W.setCell ⟨C, 0, none⟩ u).cell? ⟨C, 1, none⟩ = some b := (World.cell?_setCell_other _ _ _ _ (n 0 1 (by decide))).trans h1
  have e2 : (W.setCell ⟨C, 0, none⟩ u).cell? ⟨C, 2, none⟩ = some c := (World.cell?_setCell_other _ _ _ _ (n 0 2 (by decide))).trans h2
  have g1 : ((W.setCell ⟨C, 0, none⟩ u).setCell ⟨C, 1, none⟩ v).cell? ⟨C, 1, none⟩ = some v := World.cell?_setCell_same' _ _ _ (by rw [e1]; rfl)
  have g2 : ((W.setCell ⟨C, 0, none⟩ u).setCell ⟨C, 1, none⟩ v).cell? ⟨C, 2, none⟩ = some c := (World.cell?_setCell_other _ _ _ _ (n 1 2 (by decide))).trans e2
  refine ⟨(World.cell?_setCell_other _ _ _ _ (n 2 0 (by decide))).trans ((World.cell?_setCell_other _ _ _ _ (n 1 0 (by decide))).trans e0), (World.cell?_setCell_other _ _ _ _ (n 2 1 (by decide))).trans g1, World.cell?_setCell_same' _ _ _ (by rw [g2]; rfl)⟩

set_option maxRecDepth 100000 in
set_option maxHeartbeats 1000000 in
theorem under_any (blk off kid d len kb ko c i : Nat) (w : World) (h3 : w.cell? ⟨blk, off + 3, none⟩ = some (.slice (some ⟨kb, ko, none⟩) len c)) (hk : kid < len) (hd : d ≤ 4294967296) :
    Calls Tryz.prog 45 #[.agg #[.pointer (some ⟨blk, off, none⟩), .int .i64 kid, .int .i64 d], .int .i64 i] w fun e w' => e = .returned (.agg #[.pointer (some ⟨kb, ko + kid * 4, none⟩), .int .i64 i, .int .i64 ((d : Int) + 1)]) ∧ Below w.heap.size w w' := by
  have hT : Hid (∀ W, Below w.heap.size w W → Calls Tryz.prog 24 #[.agg #[.pointer (some ⟨blk, off, none⟩), .int .i64 kid, .int .i64 d]] W fun e w' => e = .returned (.pointer (some ⟨kb, ko + kid * 4, none⟩)) ∧ Hid (Below W.heap.size W w')) := fun W hb =>
    term_any blk off kid d len kb ko c W ((hb.cell (p := ⟨blk, off + 3, none⟩) (World.block_lt_of_cell? w _ h3)).trans h3) hk
  obtain ⟨W0, hW0⟩ : ∃ W0, (w.alloc (.cells #[.pointer (some ⟨blk, off, none⟩), .int .i64 kid, .int .i64 d] 60)).alloc (.cells #[.pointer none, .int .i64 0, .int .i64 0] 60) = W0 := ⟨_, rfl⟩
  have hb0 : Below w.heap.size w W0 := by rw [← hW0]; exact (later_alloc _ _).alloc (by simp) _
  have hn1 : W0.heap[w.heap.size]? = some (.cells #[.pointer (some ⟨blk, off, none⟩), .int .i64 kid, .int .i64 d] 60 (0, 0)) := by
    rw [← hW0]; exact (Below.heap_alloc _ _ _ (by simp)).trans (World.alloc_heap_new w _)
  have hn2 : W0.heap[w.heap.size + 1]? = some (.cells #[.pointer none, .int .i64 0, .int .i64 0] 60 (0, 0)) := by
    rw [← hW0]
    have := World.alloc_heap_new (w.alloc (.cells #[.pointer (some ⟨blk, off, none⟩), .int .i64 kid, .int .i64 d] 60)) (.cells #[.pointer none, .int .i64 0, .int .i64 0] 60)
    rwa [World.size_alloc] at this
  have hsz : W0.heap.size = w.heap.size + 2 := by rw [← hW0]; simp
  have hX : Hid (∀ n, Below w.heap.size w (W0.drewN n)) := fun n => belowN hb0 n
  have hK : Hid (∀ n W, Below (W0.drewN n).heap.size (W0.drewN n) W → (∀ i, W.frozen? ⟨w.heap.size + 1, i, none⟩ = false) ∧ W.heap[w.heap.size + 1]? = some (.cells #[.pointer none, .int .i64 0, .int .i64 0] 60 (0, 0)) ∧ Below w.heap.size w W ∧ W.cell? ⟨w.heap.size, 0, none⟩ = some (.pointer (some ⟨blk, off, none⟩)) ∧ W.cell? ⟨w.heap.size, 1, none⟩ = some (.int .i64 kid) ∧ W.cell? ⟨w.heap.size, 2, none⟩ = some (.int .i64 d)) := fun n W h => by
    have e : (W0.drewN n).heap.size = w.heap.size + 2 := hsz
    have e2 := (h.block (w.heap.size + 1) (by omega)).trans hn2
    have e3 := (h.block w.heap.size (by omega)).trans hn1
    exact ⟨fun i => frozen_of_row e2 i, e2, (belowN hb0 n).trans (h.mono (by omega)), cell_of_row W w.heap.size 0 _ _ _ e3, cell_of_row W w.heap.size 1 _ _ _ e3, cell_of_row W w.heap.size 2 _ _ _ e3⟩
  have q0 := cell_of_row W0 w.heap.size 0 _ _ _ hn1
  have q1 := cell_of_row W0 w.heap.size 1 _ _ _ hn1
  have q2 := cell_of_row W0 w.heap.size 2 _ _ _ hn1
  replace hn1 := Lib.hid hn1
  replace hn2 := Lib.hid hn2
  replace hsz := Lib.hid hsz
  replace hb0 := Lib.hid hb0
  clear h3
  go_enter Tryz.func45, Tryz.ntmps45
  go_wp2_with fail
  replace hW0 := Lib.hid hW0
  go_region_held3 (fun w' => w'.cell? ⟨w.heap.size, 0, none⟩ = some (.pointer (some ⟨blk, off, none⟩)) ∧ w'.cell? ⟨w.heap.size, 1, none⟩ = some (.int .i64 kid) ∧ w'.cell? ⟨w.heap.size, 2, none⟩ = some (.int .i64 d)) (first | exact ⟨q0, q1, q2⟩ | exact ⟨set3 (by omega) _ _ _ q0, set3 (by omega) _ _ _ q1, set3 (by omega) _ _ _ q2⟩) (first | (go_at_call 24; refine (hT.out _ (hX.out 1)).mono ?_; rintro e w1 ⟨rfl, hb1⟩; clear q0 q1 q2; obtain ⟨f1, g1, b1, q0, q1, q2⟩ := hK.out 1 _ hb1.out; have f10 := f1 0; have f11 := f1 1; have f12 := f1 2; have g10 := cell_of_row w1 (w.heap.size + 1) 0 _ _ _ g1; have g11 := cell_of_row w1 (w.heap.size + 1) 1 _ _ _ g1; have g12 := cell_of_row w1 (w.heap.size + 1) 2 _ _ _ g1; replace b1 := Lib.hid b1; replace g1 := Lib.hid g1; clear f1))
  have hw : IntKind.i64.wrap ((d : Int) + 1) = (d : Int) + 1 := wrap_small _ (by omega) (by omega)
  rw [hw]
  obtain ⟨x0, x1, x2⟩ := set3_at (.pointer (some ⟨kb, ko + kid * 4, none⟩)) (.int .i64 i) (.int .i64 ((d : Int) + 1)) g10 g11 g12
  have hbe : Below w.heap.size w (((w1.setCell ⟨w.heap.size + 1, 0, none⟩ (.pointer (some ⟨kb, ko + kid * 4, none⟩))).setCell ⟨w.heap.size + 1, 1, none⟩ (.int .i64 i)).setCell ⟨w.heap.size + 1, 2, none⟩ (.int .i64 ((d : Int) + 1))) :=
    ((b1.out.setCell (p := ⟨w.heap.size + 1, 0, none⟩) (Nat.le_succ _) _).setCell (p := ⟨w.heap.size + 1, 1, none⟩) (Nat.le_succ _) _).setCell (p := ⟨w.heap.size + 1, 2, none⟩) (Nat.le_succ _) _
  generalize ((w1.setCell ⟨w.heap.size + 1, 0, none⟩ (.pointer (some ⟨kb, ko + kid * 4, none⟩))).setCell ⟨w.heap.size + 1, 1, none⟩ (.int .i64 i)).setCell ⟨w.heap.size + 1, 2, none⟩ (.int .i64 ((d : Int) + 1)) = W9 at x0 x1 x2 hbe ⊢
  replace hbe := Lib.hid hbe
  clear f10 f11 f12 g10 g11 g12 q0 q1 q2 hw
  go_wp2_with fail
  refine bodyPost_ret (v := .agg #[.pointer (some ⟨kb, ko + kid * 4, none⟩), .int .i64 i, .int .i64 ((d : Int) + 1)]) ?_ rfl ⟨rfl, hbe.out⟩
  simp [results, Tryz.f45, go_sem, x0, x1, x2]
end Go.Proofs.YthmchdpinobbgaaGreatDoor
