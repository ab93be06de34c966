/-
  The chapter's examples. Condition: the library's table lies as laid.
-/
import Derived.Test.YtkagmkejndjepaaGreatDoorAtNorm
import Derived.Test.YtkagmkejndjepaaGreatDoorAtShift
import Derived.Test.YtkagmkejndjepaaGreatDoorAtRen
import Derived.Test.YtkagmkejndjepaaGreatDoorAtGathV
import Derived.Test.YtkagmkejndjepaaGreatDoorAtGathP
import Derived.Test.YtkagmkejndjepaaGreatDoorAtTexts
namespace Go.At
def exIn : List Pr := [(3, 0), (2, 2), (-2, 3), (3, 0)]
def exL : List Pr := [(-2, 3), (3, 0)]
theorem ex_norm : normL exIn = exL := by decide
theorem ex_vars : varsL exL = [0, 3] := by decide
theorem ex_points : pointsL exL = [1] := by decide
theorem ex_shift : mapL (shiftT 2) exL = [(-2, 5), (5, 2)] := by decide
theorem ex_ren : mapL (renL [3, -2] [7]) exL = [(-2, 7), (7, 0)] := by decide
def exNames : List ByteArray := [⟨#[76, 111]⟩, ⟨#[72, 105]⟩]
theorem ex_texts : textsT exNames exL = ⟨#[72, 105, 32, 60, 61, 32, 39, 51, 44, 32, 39, 51, 32, 60, 61, 32, 39, 48]⟩ := by decide +kernel
theorem ex_none : textsT [] [] = ⟨#[45]⟩ := rfl
theorem ex_text : textT [] (-2) = ⟨#[63]⟩ := by decide +kernel
end Go.At
namespace Go.Proofs.YtkagmkejndjepaaGreatDoor
open Go.RowKit Go.Shelf Go.At
attribute [local go_sem] Oper.semAt_some

theorem prow4 (w : World) (ty : TypeId) : Prs (w.alloc (.cells #[.int .i64 3, .int .i64 0, .int .i64 2, .int .i64 2, .int .i64 (-2), .int .i64 3, .int .i64 3, .int .i64 0] ty)) (some ⟨w.heap.size, 0, none⟩) exIn := fun _ => by
  have h := World.alloc_heap_new w (.cells #[.int .i64 3, .int .i64 0, .int .i64 2, .int .i64 2, .int .i64 (-2), .int .i64 3, .int .i64 3, .int .i64 0] ty)
  refine ⟨w.heap.size, 0, rfl, by simp, fun j hj => ?_⟩
  match j, hj with
  | 0, _ => exact ⟨cell_of_row _ _ 0 _ _ _ h, cell_of_row _ _ 1 _ _ _ h⟩
  | 1, _ => exact ⟨cell_of_row _ _ 2 _ _ _ h, cell_of_row _ _ 3 _ _ _ h⟩
  | 2, _ => exact ⟨cell_of_row _ _ 4 _ _ _ h, cell_of_row _ _ 5 _ _ _ h⟩
  | 3, _ => exact ⟨cell_of_row _ _ 6 _ _ _ h, cell_of_row _ _ 7 _ _ _ h⟩
  | j + 4, hj => exact absurd hj (by simp [exIn])
theorem nrow2 (w : World) (x y : Int) (ty : TypeId) : Nms (w.alloc (.cells #[.int .i64 x, .int .i64 y] ty)) (some ⟨w.heap.size, 0, none⟩) [x, y] := fun _ => by
  have h := World.alloc_heap_new w (.cells #[.int .i64 x, .int .i64 y] ty)
  refine ⟨w.heap.size, 0, rfl, by simp, fun j hj => ?_⟩
  match j, hj with
  | 0, _ => exact cell_of_row _ _ 0 _ _ _ h
  | 1, _ => exact cell_of_row _ _ 1 _ _ _ h
  | j + 2, hj => exact absurd hj (by simp)
theorem nrow1 (w : World) (x : Int) (ty : TypeId) : Nms (w.alloc (.cells #[.int .i64 x] ty)) (some ⟨w.heap.size, 0, none⟩) [x] := fun _ => by
  have h := World.alloc_heap_new w (.cells #[.int .i64 x] ty)
  refine ⟨w.heap.size, 0, rfl, by simp, fun j hj => ?_⟩
  match j, hj with
  | 0, _ => exact cell_of_row _ _ 0 _ _ _ h
  | j + 1, hj => exact absurd hj (by simp)
theorem srow2 (w : World) (x y : ByteArray) (ty : TypeId) : Strs (w.alloc (.cells #[.string x, .string y] ty)) (some ⟨w.heap.size, 0, none⟩) [x, y] := fun _ => by
  have h := World.alloc_heap_new w (.cells #[.string x, .string y] ty)
  refine ⟨w.heap.size, 0, rfl, by simp, fun j hj => ?_⟩
  match j, hj with
  | 0, _ => exact cell_of_row _ _ 0 _ _ _ h
  | 1, _ => exact cell_of_row _ _ 1 _ _ _ h
  | j + 2, hj => exact absurd hj (by simp)
theorem exL6 : ∀ p ∈ exL, I64 p.1 ∧ I64 p.2 := by
  intro p hp
  simp [exL] at hp
  rcases hp with rfl | rfl <;> (unfold I64; omega)
set_option maxRecDepth 100000 in
set_option maxHeartbeats 4000000 in
theorem examples_any (w : World) (hE : Env w) : Calls Tryz.prog 9 #[] w fun e w' => e = .returned (.bool true) ∧ Below w.heap.size w w' := by
  have kpt := fun W => point_any 1 W (by unfold I64; omega)
  rw [show pointT 1 = -2 from rfl] at kpt
  have kip := fun W => isPoint_any (-2) W
  rw [show isP (-2) = true from rfl] at kip
  have kpo := fun W => pointOf_any (-2) W (by unfold I64; omega)
  rw [show pointOfT (-2) = 1 from rfl] at kpo
  have kp4 := fun W => pointOf_any 4 W (by unfold I64; omega)
  rw [show pointOfT 4 = -1 from rfl] at kp4
  have heq : ∀ (x y : Int) (w : World), Sem.run Tryz.prog (binOp .eql 53 (.agg #[.int .i64 x, .int .i64 y]) (.agg #[.int .i64 x, .int .i64 y])) w = .ok (.bool true) w := fun x y w => by
    have := eqPair x y x y w
    rwa [show sameP x y x y = true by simp [sameP]] at this
  have hgd : ∀ (op : BinOp) (a b : Operand) (x y : Array Value) (w : World), Sem.run Tryz.prog (eqGuard op 53 a b (.agg x) (.agg y)) w = .ok () w := guardPair
  replace kpt := Lib.hid kpt
  replace kip := Lib.hid kip
  replace kpo := Lib.hid kpo
  replace kp4 := Lib.hid kp4
  go_enter Tryz.func9, Tryz.ntmps9
  go_wp2_with (go_at_call 23; refine (kpt.out _).mono ?_; rintro e w' ⟨rfl, hw⟩; cases hw)
  have hb0 := later_alloc w (.cells #[.int .i64 3, .int .i64 0, .int .i64 2, .int .i64 2, .int .i64 (-2), .int .i64 3, .int .i64 3, .int .i64 0] 53)
  have k1 := norm_any _ exIn 4 _ (prow4 w 53) (by decide)
  rw [ex_norm, show exL.length = 2 from rfl] at k1
  refine (show Calls Tryz.prog 17 #[.slice (some ⟨w.heap.size, 0, none⟩) 4 4] _ _ from k1).mono ?_
  rintro e w1 ⟨⟨A1, c1, rfl, hp1⟩, hb1⟩
  have hB1 := Lib.hid (hb0.trans (hb1.mono hb0.size))
  have k2 := vars_any A1 exL c1 w1 hp1 exL6 (by decide)
  rw [ex_vars, show ([0, 3] : List Int).length = 2 from rfl, show exL.length = 2 from rfl] at k2
  replace hp1 := Lib.hid hp1
  clear k1 hb0 hb1
  replace k2 := Lib.hid k2
  go_wp2_with fail
  refine k2.out.mono ?_
  rintro e w2 ⟨⟨A2, c2, rfl, hv2, -⟩, hb2⟩
  have hp1' := hp1.out.later hb2
  have hB2 := Lib.hid (hB1.out.trans (hb2.mono hB1.out.size))
  have k3 := points_any A1 exL c1 w2 hp1' exL6 (by decide)
  rw [ex_points, show ([1] : List Int).length = 1 from rfl, show exL.length = 2 from rfl] at k3
  clear k2 hp1 hB1 hb2
  have hp1 := Lib.hid hp1'
  clear hp1'
  replace hv2 := Lib.hid hv2
  replace k3 := Lib.hid k3
  go_wp2_with fail
  refine k3.out.mono ?_
  rintro e w3 ⟨⟨A3, c3, rfl, hq3, -⟩, hb3⟩
  have hp1' := hp1.out.later hb3
  have hv2' := hv2.out.later hb3
  have hB3 := Lib.hid (hB2.out.trans (hb3.mono hB2.out.size))
  have k4 := shift_any A1 exL c1 2 w3 hp1' exL6 (by decide)
  rw [ex_shift, show ([(-2, 5), (5, 2)] : List Pr).length = 2 from rfl, show exL.length = 2 from rfl] at k4
  clear k3 hp1 hv2 hB2 hb3
  have hp1 := Lib.hid hp1'
  have hv2 := Lib.hid hv2'
  clear hp1' hv2'
  replace hq3 := Lib.hid hq3
  replace k4 := Lib.hid k4
  go_wp2_with fail
  refine k4.out.mono ?_
  rintro e w4 ⟨⟨A4, c4, rfl, hs4⟩, hb4⟩
  have hx := later_alloc w4 (.cells #[.int .i64 3, .int .i64 (-2)] 24)
  have hy := later_alloc (w4.alloc (.cells #[.int .i64 3, .int .i64 (-2)] 24)) (.cells #[.int .i64 7] 24)
  have hxy := hx.trans (hy.mono hx.size)
  have hp1' := hp1.out.later hb4
  have hv2' := hv2.out.later hb4
  have hq3' := hq3.out.later hb4
  have hB4 := Lib.hid (hB3.out.trans (hb4.mono hB3.out.size))
  have k5 := rename_any A1 (some ⟨w4.heap.size, 0, none⟩) (some ⟨w4.heap.size + 1, 0, none⟩) exL [3, -2] [7] c1 2 1 _ ((hp1'.later hx).later hy) exL6 (by decide) ((nrow2 w4 3 (-2) 24).later hy) (by
      have := nrow1 (w4.alloc (.cells #[.int .i64 3, .int .i64 (-2)] 24)) 7 24
      rwa [World.size_alloc] at this) ⟨by decide, by decide, fun h => by cases h⟩ (by intro x hx; simp at hx; rcases hx with rfl | rfl <;> (unfold I64; omega)) (by intro x hx; simp at hx; rw [hx]; unfold I64; omega) (by decide)
  rw [ex_ren, show ([(-2, 7), (7, 0)] : List Pr).length = 2 from rfl, show exL.length = 2 from rfl, show ([3, -2] : List Int).length = 2 from rfl, show ([7] : List Int).length = 1 from rfl] at k5
  have hp5 := Lib.hid (fun W (hW : Below ((w4.alloc (.cells #[.int .i64 3, .int .i64 (-2)] 24)).alloc (.cells #[.int .i64 7] 24)).heap.size ((w4.alloc (.cells #[.int .i64 3, .int .i64 (-2)] 24)).alloc (.cells #[.int .i64 7] 24)) W) => And.intro (((hp1'.later hx).later hy).later hW) (And.intro (((hv2'.later hx).later hy).later hW) (And.intro (((hq3'.later hx).later hy).later hW) (And.intro (((hs4.later hx).later hy).later hW) (hB4.out.trans ((hxy.trans (hW.mono hxy.size)).mono hB4.out.size))))))
  clear k4 hp1 hv2 hq3 hB3 hb4 hp1' hv2' hq3' hs4 hx hy hxy
  replace k5 := Lib.hid k5
  go_wp2_with fail
  refine k5.out.mono ?_
  rintro e w5 ⟨⟨A5, c5, rfl, hm5⟩, hb5⟩
  obtain ⟨hl, hv, hq, hs, hB⟩ := hp5.out w5 hb5
  clear k5 hp5 hb5 hB4
  have hlc := Lib.hid hl
  obtain ⟨b1, o1, rfl, -, r1⟩ := hl (by decide)
  obtain ⟨b2, o2, rfl, -, r2⟩ := hv (by decide)
  obtain ⟨b3, o3, rfl, -, r3⟩ := hq (by decide)
  obtain ⟨b4, o4, rfl, -, r4⟩ := hs (by decide)
  obtain ⟨b5, o5, rfl, -, r5⟩ := hm5 (by decide)
  obtain ⟨a0, a1⟩ := r1 0 (by decide)
  obtain ⟨a2, a3⟩ := r1 1 (by decide)
  have d0 := r2 0 (by decide)
  have d1 := r2 1 (by decide)
  have g0 := r3 0 (by decide)
  obtain ⟨f0, f1⟩ := r4 0 (by decide)
  obtain ⟨f2, f3⟩ := r4 1 (by decide)
  obtain ⟨m0, m1⟩ := r5 0 (by decide)
  simp only [exL, List.getD_cons_zero, List.getD_cons_succ, Nat.zero_mul, Nat.add_zero, Nat.one_mul] at a0 a1 a2 a3 d0 d1 g0 f0 f1 f2 f3 m0 m1
  clear r1 r2 r3 r4 r5
  replace hB := Lib.hid hB
  go_wp2_with (first | (go_at_call 27; refine (kip.out _).mono ?_; rintro e w' ⟨rfl, hw⟩; cases hw) | (go_at_call 25; first | (refine (kpo.out _).mono ?_; rintro e w' ⟨rfl, hw⟩; cases hw) | (refine (kp4.out _).mono ?_; rintro e w' ⟨rfl, hw⟩; cases hw)))
  have hn := later_alloc w5 (.cells #[.string ⟨#[76, 111]⟩, .string ⟨#[72, 105]⟩] 9)
  have hB6 := Lib.hid (hB.out.trans (hn.mono hB.out.size))
  have hl6 := hlc.out.later hn
  clear hlc a0 a1 a2 a3 d0 d1 g0 f0 f1 f2 f3 m0 m1
  have k6 := texts_any (some ⟨w5.heap.size, 0, none⟩) (some ⟨b1, o1, none⟩) exNames 2 exL c1 _ (hE.later hB6.out) (srow2 w5 ⟨#[76, 111]⟩ ⟨#[72, 105]⟩ 9) hl6 exL6 (by decide) (by intro s hs; simp [exNames] at hs; rcases hs with rfl | rfl <;> decide)
  rw [ex_texts, show exNames.length = 2 from rfl, show exL.length = 2 from rfl] at k6
  clear hn hl6
  refine k6.mono ?_
  rintro e w6 ⟨rfl, hb6⟩
  have hB7 := Lib.hid (hB6.out.trans (hb6.mono hB6.out.size))
  have k7 := texts_any none none [] 0 [] 0 w6 (hE.later hB7.out) (Strs.nil _ _) (Prs.nil _ _) (by simp) (by decide) (by simp)
  rw [ex_none, show ([] : List ByteArray).length = 0 from rfl, show ([] : List Pr).length = 0 from rfl] at k7
  clear k6 hb6 hB hB6
  replace k7 := Lib.hid k7
  go_wp2_with fail
  refine k7.out.mono ?_
  rintro e w7 ⟨rfl, hb7⟩
  have hB8 := Lib.hid (hB7.out.trans (hb7.mono hB7.out.size))
  have k8 := text_any none [] 0 (-2) w7 (hE.later hB8.out) (Strs.nil _ _) (by unfold I64; omega)
  rw [ex_text, show ([] : List ByteArray).length = 0 from rfl] at k8
  clear k7 hb7 hB7
  replace k8 := Lib.hid k8
  go_wp2_with fail
  refine k8.out.mono ?_
  rintro e w8 ⟨rfl, hb8⟩
  have hB9 := Lib.hid (hB8.out.trans (hb8.mono hB8.out.size))
  clear k8 hb8 hB8
  go_wp2_with fail
  go_ret
  exact ⟨rfl, hB9.out⟩
end Go.Proofs.YtkagmkejndjepaaGreatDoor
