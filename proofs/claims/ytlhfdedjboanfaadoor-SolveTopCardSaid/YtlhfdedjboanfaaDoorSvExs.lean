/-
  Chapter 11's examples, walked. Condition: the library's table lies as laid.
-/
import Derived.Test.YtlhfdedjboanfaaDoorSvEx
namespace Go.Proofs.YtlhfdedjboanfaaDoor
open Go.RowKit Go.Shelf Go.At Go.Sv
attribute [local go_sem] Oper.semAt_some

set_option maxRecDepth 100000 in
set_option maxHeartbeats 60000000 in
theorem examples_any (w : World) (hE : L.Env w) : Calls Tryd.prog 9 #[] w fun e w' => e = .returned (.bool true) ∧ Below w.heap.size w w' := by
  have kla := Lib.hid (lats_any w)
  have kp1 := Lib.hid (kpoint 1 (-2) rfl (by unfold I64; omega))
  have kp2 := Lib.hid (kpoint 2 (-3) rfl (by unfold I64; omega))
  have kp9 := Lib.hid (kpoint 9 (-10) rfl (by unfold I64; omega))
  go_enter Tryd.func9, Tryd.ntmps9
  go_wp2_with (first
    | (go_at_call 21; refine kla.out.mono ?_; rintro e w1 ⟨⟨g, rfl, hg⟩, hb1⟩; obtain ⟨A, B, ha, hb, hl⟩ := hg 3 (by omega); replace ha : w1.cell? ⟨g, 6, none⟩ = some (.slice A 4 4) := ha; replace hb : w1.cell? ⟨g, 7, none⟩ = some (.slice B 4 4) := hb; replace hl := Lib.hid hl; replace hb1 := Lib.hid hb1; clear hg)
    | (go_at_call 30; first | (refine (kp1.out _).mono ?_; rintro e w' ⟨rfl, rfl⟩) | (refine (kp2.out _).mono ?_; rintro e w' ⟨rfl, rfl⟩)))
  have hbx := later_alloc w1 (.cells #[.slice A 4 4, .slice B 4 4] 25)
  have hx0 := World.alloc_heap_new w1 (.cells #[.slice A 4 4, .slice B 4 4] 25)
  have z1 : (w1.alloc (.cells #[.slice A 4 4, .slice B 4 4] 25)).heap.size = w1.heap.size + 1 := World.size_alloc ..
  obtain ⟨W0, hW0⟩ : ∃ W, w1.alloc (.cells #[.slice A 4 4, .slice B 4 4] 25) = W := ⟨_, rfl⟩
  rw [hW0]
  rw [hW0] at hbx hx0 z1
  have b0 : W0.cell? ⟨w1.heap.size, 0, none⟩ = some (.slice A 4 4) := cell_of_row _ _ 0 _ _ _ hx0
  have b1 : W0.cell? ⟨w1.heap.size, 1, none⟩ = some (.slice B 4 4) := cell_of_row _ _ 1 _ _ _ hx0
  have hB0 := Lib.hid (hb1.out.trans (hbx.mono hb1.out.size))
  have own := Lib.hid (fun (W : World) (h : Below W0.heap.size W0 W) => (Own.mk (hE.later (hB0.out.trans (h.mono hB0.out.size))) ((hl.out.later hbx).later h) : Own W 3 A B))
  have kb := Lib.hid (fun (W : World) (h : Below W0.heap.size W0 W) => And.intro ((h.cell (p := ⟨w1.heap.size, 0, none⟩) (by show w1.heap.size < _; omega)).trans b0) ((h.cell (p := ⟨w1.heap.size, 1, none⟩) (by show w1.heap.size < _; omega)).trans b1))
  have hba := later_alloc W0 (.cells #[.int .i64 (-2), .int .i64 0, .int .i64 (-3), .int .i64 1, .int .i64 0, .int .i64 2, .int .i64 1, .int .i64 2] 58)
  have k1 := exK1 (own.out _ hba) (prs4 W0 58)
  rw [z1] at k1
  refine k1.mono ?_
  clear k1 b0 b1 hx0 hW0
  rintro e w2 ⟨⟨A2, c2, rfl, hp2, hs2⟩, hb2⟩
  have hO := Lib.hid (hba.trans (hb2.mono hba.size))
  replace hp2 := Lib.hid hp2
  replace hs2 := Lib.hid hs2
  have keepP := Lib.hid (fun (W : World) (h : Below w2.heap.size w2 W) => hp2.out.later h)
  obtain ⟨b0, b1⟩ := kb.out _ hO.out
  clear hba hb2
  replace hbx := Lib.hid hbx
  replace z1 := Lib.hid z1
  have kH := Lib.hid (fun (W : World) (h : Below W0.heap.size W0 W) => exH (own.out W h))
  have k2 := Lib.hid (fun (W : World) (h : Below W0.heap.size W0 W) (C : Option Addr) (hP : Prs W C c2L) => exKn (own.out W h) c2L hP (i64_of (by decide)) (by decide) ex2_no)
  have k3 := Lib.hid (fun (W : World) (h : Below W0.heap.size W0 W) (C : Option Addr) (hP : Prs W C c3L) => exKn (own.out W h) c3L hP (i64_of (by decide)) (by decide) ex3_no)
  go_wp2_with fail
  have hkeep := Lib.hid (fun (W : World) (h : Below w2.heap.size w2 W) => kb.out W (hO.out.trans (h.mono hO.out.size)))
  have hD : Hid (Below w2.heap.size w2 w2) := Lib.hid (Below.refl _ _)
  go_region_held3 (fun W => W.cell? ⟨w1.heap.size, 0, none⟩ = some (.slice A 4 4) ∧ W.cell? ⟨w1.heap.size, 1, none⟩ = some (.slice B 4 4))
    ((refine hkeep.out _ ?_; repeat (first | with_reducible exact hD.out | with_reducible refine Below.drew ?_ | with_reducible refine below_al ?_ _)))
    (first
      | (go_at_call 25; refine (kH.out _ (below_on hO.out (by repeat (first | with_reducible exact hD.out | with_reducible refine Below.drew ?_ | with_reducible refine below_al ?_ _)))).mono ?_; rintro e w3 ⟨rfl, hb3⟩; replace hD : Hid (Below w2.heap.size w2 w3) := Lib.hid (below_on (by repeat (first | with_reducible exact hD.out | with_reducible refine Below.drew ?_ | with_reducible refine below_al ?_ _)) hb3))
      | (go_at_call 12; refine (k2.out _ (below_on hO.out (by repeat (first | with_reducible exact hD.out | with_reducible refine Below.drew ?_ | with_reducible refine below_al ?_ _))) _ (by first | exact prs2 _ _ _ _ _ _ | exact (prs2 _ _ _ _ _ _).later (Below.drew (Below.refl _ _)))).mono ?_; rintro e w4 ⟨⟨A4, c4, rfl⟩, hb4⟩; replace hD : Hid (Below w2.heap.size w2 w4) := Lib.hid (below_on (by repeat (first | with_reducible exact hD.out | with_reducible refine Below.drew ?_ | with_reducible refine below_al ?_ _)) hb4)))
  clear b0 b1 k2 kH
  go_wp2_with fail
  go_region_held3 (fun W => W.cell? ⟨w1.heap.size, 0, none⟩ = some (.slice A 4 4) ∧ W.cell? ⟨w1.heap.size, 1, none⟩ = some (.slice B 4 4))
    ((refine hkeep.out _ ?_; repeat (first | with_reducible exact hD.out | with_reducible refine Below.drew ?_ | with_reducible refine below_al ?_ _)))
    (first
      | (go_at_call 30; refine (kp9.out _).mono ?_; rintro e w' ⟨rfl, rfl⟩)
      | (go_at_call 12; refine (k3.out _ (below_on hO.out (by repeat (first | with_reducible exact hD.out | with_reducible refine Below.drew ?_ | with_reducible refine below_al ?_ _))) _ (by first | exact prs1 _ _ _ _ | exact (prs1 _ _ _ _).later (Below.drew (Below.refl _ _)))).mono ?_; rintro e w5 ⟨⟨A5, c5, rfl⟩, hb5⟩; replace hD : Hid (Below w2.heap.size w2 w5) := Lib.hid (below_on (by repeat (first | with_reducible exact hD.out | with_reducible refine Below.drew ?_ | with_reducible refine below_al ?_ _)) hb5)))
  clear k3
  obtain ⟨b0, b1⟩ := hkeep.out _ hD.out
  obtain ⟨vv, hvv⟩ : ∃ vv : Int → Int, ∀ a, valueT (nsL 3) (usL 3) r1L a = vv a := ⟨_, fun _ => rfl⟩
  have v2 : vv 2 = 3 := (hvv 2).symm.trans ex_values.1
  have v7 : vv 7 = 0 := (hvv 7).symm.trans ex_values.2.1
  have va : vv (-2) = 1 := (hvv (-2)).symm.trans ex_values.2.2.1
  have vn : vv (-10) = -1 := (hvv (-10)).symm.trans ex_values.2.2.2.1
  have kv := Lib.hid (fun (W : World) (h : Below w2.heap.size w2 W) (a : Int) (ha : I64 a) => exV (c := c2) (own.out W (below_on hO.out h)) (keepP.out W h) a (vv a) ha (hvv a))
  have ks1 := Lib.hid (fun (W : World) (h : Below w2.heap.size w2 W) (C : Option Addr) (hP : Prs W C [(0, 2)]) => exS (own.out W (below_on hO.out h)) [(0, 2)] hP (i64_of (by decide)) (by decide) (keepP.out W h) hs2.out true ex_values.2.2.2.2.1)
  have ks2 := Lib.hid (fun (W : World) (h : Below w2.heap.size w2 W) (C : Option Addr) (hP : Prs W C [(2, 0)]) => exS (own.out W (below_on hO.out h)) [(2, 0)] hP (i64_of (by decide)) (by decide) (keepP.out W h) hs2.out false ex_values.2.2.2.2.2.1)
  have kk := Lib.hid (fun (W : World) (h : Below w2.heap.size w2 W) => exK (own.out W (below_on hO.out h)))
  obtain ⟨b2, o2, rfl, -, -⟩ := hp2.out (by decide)
  have hkeeq : Hid (∀ W : World, Below w2.heap.size w2 W → (W.cell? ⟨w1.heap.size, 0, none⟩ = some (.slice A 4 4) ∧ W.cell? ⟨w1.heap.size, 1, none⟩ = some (.slice B 4 4)) ∧ W.cell? ⟨b2, o2 + 1, none⟩ = some (.int .i64 1) ∧ W.cell? ⟨b2, o2 + 2 + 1, none⟩ = some (.int .i64 2) ∧ W.cell? ⟨b2, o2 + 2 * 2 + 1, none⟩ = some (.int .i64 3)) := fun W h => by
    obtain ⟨b3, o3, e3, -, r2⟩ := (keepP.out W h) (by decide)
    injection e3 with e3
    injection e3 with e3 e4
    subst e3
    subst e4
    refine ⟨hkeep.out W h, ?_, ?_, ?_⟩
    · have := (r2 0 (by decide)).2
      simpa only [r1L, List.getD_cons_zero, List.getD_cons_succ, Nat.zero_mul, Nat.add_zero, Nat.one_mul] using this
    · have := (r2 1 (by decide)).2
      simpa only [r1L, List.getD_cons_zero, List.getD_cons_succ, Nat.zero_mul, Nat.add_zero, Nat.one_mul] using this
    · have := (r2 2 (by decide)).2
      simpa only [r1L, List.getD_cons_zero, List.getD_cons_succ, Nat.zero_mul, Nat.add_zero, Nat.one_mul] using this
  go_wp2_with fail
  dsimp only [List.append]
  go_region_held3 (fun W => (W.cell? ⟨w1.heap.size, 0, none⟩ = some (.slice A 4 4) ∧ W.cell? ⟨w1.heap.size, 1, none⟩ = some (.slice B 4 4)) ∧ W.cell? ⟨b2, o2 + 1, none⟩ = some (.int .i64 1) ∧ W.cell? ⟨b2, o2 + 2 + 1, none⟩ = some (.int .i64 2) ∧ W.cell? ⟨b2, o2 + 2 * 2 + 1, none⟩ = some (.int .i64 3))
    ((refine hkeeq.out _ ?_; repeat (first | with_reducible exact hD.out | with_reducible refine Below.drew ?_ | with_reducible refine below_al ?_ _)))
    (first
    | (go_at_call 17; refine (kv.out _ (by repeat (first | with_reducible exact hD.out | with_reducible refine Below.drew ?_ | with_reducible refine below_al ?_ _)) _ (by unfold I64; omega)).mono ?_; rintro e w6 ⟨he, hb6⟩; (first | rw [v2] at he | rw [v7] at he | rw [va] at he | rw [vn] at he); subst he; replace hD : Hid (Below w2.heap.size w2 w6) := Lib.hid (below_on (by repeat (first | with_reducible exact hD.out | with_reducible refine Below.drew ?_ | with_reducible refine below_al ?_ _)) hb6); clear hb6)
    | (go_at_call 30; refine (kp9.out _).mono ?_; rintro e w' ⟨rfl, rfl⟩)
    | (go_at_call 19; first
      | (refine (ks1.out _ (by repeat (first | with_reducible exact hD.out | with_reducible refine Below.drew ?_ | with_reducible refine below_al ?_ _)) _ (by first | exact prs1 _ _ _ _ | exact (prs1 _ _ _ _).later (Below.drew (Below.refl _ _)))).mono ?_; rintro e w6 ⟨rfl, hb6⟩; replace hD : Hid (Below w2.heap.size w2 w6) := Lib.hid (below_on (by repeat (first | with_reducible exact hD.out | with_reducible refine Below.drew ?_ | with_reducible refine below_al ?_ _)) hb6); clear hb6)
      | (refine (ks2.out _ (by repeat (first | with_reducible exact hD.out | with_reducible refine Below.drew ?_ | with_reducible refine below_al ?_ _)) _ (by first | exact prs1 _ _ _ _ | exact (prs1 _ _ _ _).later (Below.drew (Below.refl _ _)))).mono ?_; rintro e w6 ⟨rfl, hb6⟩; replace hD : Hid (Below w2.heap.size w2 w6) := Lib.hid (below_on (by repeat (first | with_reducible exact hD.out | with_reducible refine Below.drew ?_ | with_reducible refine below_al ?_ _)) hb6); clear hb6))
    | (go_at_call 15; refine (kk.out _ (by repeat (first | with_reducible exact hD.out | with_reducible refine Below.drew ?_ | with_reducible refine below_al ?_ _))).mono ?_; rintro e w6 ⟨rfl, hb6⟩; replace hD : Hid (Below w2.heap.size w2 w6) := Lib.hid (below_on (by repeat (first | with_reducible exact hD.out | with_reducible refine Below.drew ?_ | with_reducible refine below_al ?_ _)) hb6); clear hb6))
  go_wp2_with fail
  go_ret
  exact ⟨rfl, below_on hB0.out (below_on hO.out hD.out)⟩
end Go.Proofs.YtlhfdedjboanfaaDoor
