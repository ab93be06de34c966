/-
  AtomPoints. Condition: the library's table lies as laid.
-/
import Derived.Test.YtklbnfenlgladaaGreatDoorAtEx
namespace Go.Proofs.YtklbnfenlgladaaGreatDoor
open Go.RowKit Go.Shelf Go.At
attribute [local go_sem] Oper.semAt_some

set_option maxRecDepth 100000 in
set_option maxHeartbeats 4000000 in
theorem atomPoints_any (p a : Int) (w : World) (hE : Env w) (hp : 0 ≤ p ∧ p < 4294967296) (ha : I64 a) : Calls Tryz.prog 4 #[.int .u32 p, .int .i64 a] w fun e w' => e = .returned (.bool true) ∧ Below w.heap.size w w' := by
  have kx := Lib.hid (examples_any w hE)
  have hp6 : I64 p := ⟨by omega, by omega⟩
  obtain ⟨x, hx⟩ : ∃ x, pointT p = x := ⟨_, rfl⟩
  have hx2 : x = -1 - p := hx.symm.trans (if_neg (by omega))
  have hx6 : I64 x := ⟨by omega, by omega⟩
  have kp := fun W => point_any p W hp6
  rw [hx] at kp
  have kix := fun W => isPoint_any x W
  rw [show isP x = true from decide_eq_true (by omega)] at kix
  have kox := fun W => pointOf_any x W hx6
  rw [show pointOfT x = p from (if_pos (by omega)).trans (by omega)] at kox
  have km := fun W => point_any (-1) W (by unfold I64; omega)
  rw [show pointT (-1) = 0 from rfl] at km
  have hw0 : IntKind.i64.wrap p = p := wrap_i hp6
  replace hx := Lib.hid hx
  replace hx2 := Lib.hid hx2
  replace kp := Lib.hid kp
  replace kix := Lib.hid kix
  replace kox := Lib.hid kox
  replace km := Lib.hid km
  have kia := fun W => isPoint_any a W
  have koa := fun W => pointOf_any a W ha
  obtain ⟨hp1, hp2⟩ := hp
  by_cases h : a < 0
  · rw [show isP a = true from decide_eq_true h] at kia
    obtain ⟨b, hb⟩ : ∃ b, pointOfT a = b := ⟨_, rfl⟩
    have hb2 : b = -1 - a := hb.symm.trans (if_pos h)
    have hb0 : 0 ≤ b := by omega
    have hd : decide (0 ≤ b) = true := decide_eq_true hb0
    have kpb := fun W => point_any b W ⟨by omega, by obtain ⟨_, _⟩ := ha; omega⟩
    rw [show pointT b = a from (if_neg (by omega)).trans (by omega)] at kpb
    rw [hb] at koa
    replace hb := Lib.hid hb
    replace hb2 := Lib.hid hb2
    replace kia := Lib.hid kia
    replace koa := Lib.hid koa
    replace kpb := Lib.hid kpb
    clear hx6 ha
    go_enter Tryz.func4, Tryz.ntmps4
    go_wp2_with (first
      | (go_at_call 9; refine kx.out.mono ?_; rintro e w1 ⟨rfl, hb1⟩; replace hb1 := Lib.hid hb1)
      | (go_at_call 27; first | (refine (kix.out _).mono ?_; rintro e w' ⟨rfl, hw⟩; cases hw) | (refine (kia.out _).mono ?_; rintro e w' ⟨rfl, hw⟩; cases hw))
      | (go_at_call 25; first | (refine (kox.out _).mono ?_; rintro e w' ⟨rfl, hw⟩; cases hw) | (refine (koa.out _).mono ?_; rintro e w' ⟨rfl, hw⟩; cases hw))
      | (go_at_call 23; first | (refine (kp.out _).mono ?_; rintro e w' ⟨rfl, hw⟩; cases hw) | (refine (kpb.out _).mono ?_; rintro e w' ⟨rfl, hw⟩; cases hw) | (refine (km.out _).mono ?_; rintro e w' ⟨rfl, hw⟩; cases hw)))
    go_ret
    exact ⟨rfl, hb1.out⟩
  · rw [show isP a = false from decide_eq_false h] at kia
    rw [show pointOfT a = -1 from if_neg h] at koa
    replace kia := Lib.hid kia
    replace koa := Lib.hid koa
    clear hx6 ha
    go_enter Tryz.func4, Tryz.ntmps4
    go_wp2_with (first
      | (go_at_call 9; refine kx.out.mono ?_; rintro e w1 ⟨rfl, hb1⟩; replace hb1 := Lib.hid hb1)
      | (go_at_call 27; first | (refine (kix.out _).mono ?_; rintro e w' ⟨rfl, hw⟩; cases hw) | (refine (kia.out _).mono ?_; rintro e w' ⟨rfl, hw⟩; cases hw))
      | (go_at_call 25; first | (refine (kox.out _).mono ?_; rintro e w' ⟨rfl, hw⟩; cases hw) | (refine (koa.out _).mono ?_; rintro e w' ⟨rfl, hw⟩; cases hw))
      | (go_at_call 23; first | (refine (kp.out _).mono ?_; rintro e w' ⟨rfl, hw⟩; cases hw) | (refine (km.out _).mono ?_; rintro e w' ⟨rfl, hw⟩; cases hw)))
    go_ret
    exact ⟨rfl, hb1.out⟩
end Go.Proofs.YtklbnfenlgladaaGreatDoor
