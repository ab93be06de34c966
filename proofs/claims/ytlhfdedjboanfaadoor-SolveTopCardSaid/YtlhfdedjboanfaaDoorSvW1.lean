/-
  point, known, Known of chapter 11. Condition: the lattice, the pairs can be read; the library's table lies as laid.
-/
import Derived.Test.YtlhfdedjboanfaaDoorSvMath
import Derived.Test.YtlhfdedjboanfaaDoorAtW1
import Derived.Test.YtlhfdedjboanfaaDoorSvBank
namespace Go.Proofs.YtlhfdedjboanfaaDoor
open Go.RowKit Go.Shelf Go.At Go.Sv
attribute [local go_sem] Oper.semAt_some

theorem spoint_any (A B : Option Addr) (n m c d : Nat) (p : Int) (w : World) :
    Calls Tryd.prog 46 #[.agg #[.slice A n c, .slice B m d], .int .i64 p] w fun e w' => e = .returned (.bool (pnt n p)) ∧ Below w.heap.size w w' := by
  have hb := Lib.hid (later_alloc w (.cells #[.slice A n c, .slice B m d] 25))
  unfold pnt
  by_cases h1 : 0 ≤ p
  · have d1 : decide (0 ≤ p) = true := decide_eq_true h1
    rw [d1, Bool.true_and]
    go_enter Tryd.func46, Tryd.ntmps46
    go_wp2_with fail
    go_ret
    exact ⟨rfl, hb.out⟩
  · have d1 : decide (0 ≤ p) = false := decide_eq_false h1
    rw [d1, Bool.false_and]
    go_enter Tryd.func46, Tryd.ntmps46
    go_wp2_with fail
    go_ret
    exact ⟨rfl, hb.out⟩
set_option maxRecDepth 100000 in
set_option maxHeartbeats 1000000 in
theorem known_any (A B : Option Addr) (n m c d : Nat) (a : Int) (ha : I64 a) (w : World) :
    Calls Tryd.prog 39 #[.agg #[.slice A n c, .slice B m d], .int .i64 a] w fun e w' => e = .returned (.bool (kn n a)) ∧ Below w.heap.size w w' := by
  have hb := Lib.hid (later_alloc w (.cells #[.slice A n c, .slice B m d] 25))
  have k := Lib.hid (fun W => isPoint_any a W)
  have kp := Lib.hid (fun W => pointOf_any a W ha)
  have ks := Lib.hid (fun p W => spoint_any A B n m c d p W)
  unfold kn
  cases hp : isP a with
  | false =>
    rw [hp] at k
    replace hp := Lib.hid hp
    go_enter Tryd.func39, Tryd.ntmps39
    go_wp2_with fail
    first
    | go_region_with (first
      | (go_at_call 24; refine (k.out _).mono ?_; rintro e w' ⟨rfl, rfl⟩)
      | (go_at_call 43; refine (kp.out _).mono ?_; rintro e w' ⟨rfl, rfl⟩)
      | (go_at_call 46; refine (ks.out _ _).mono ?_; rintro e w' ⟨rfl, hb2⟩))
    | fail
    all_goals
      go_wp2_with fail
      go_ret
      exact ⟨rfl, hb.out.drew⟩
  | true =>
    have h0 : a < 0 := of_decide_eq_true hp
    have e : pointOfT a = -1 - a := if_pos h0
    rw [hp] at k
    rw [e] at kp
    replace hp := Lib.hid hp
    go_enter Tryd.func39, Tryd.ntmps39
    go_wp2_with fail
    first
    | go_region_with (first
      | (go_at_call 24; refine (k.out _).mono ?_; rintro e w' ⟨rfl, rfl⟩)
      | (go_at_call 43; refine (kp.out _).mono ?_; rintro e w' ⟨rfl, rfl⟩)
      | (go_at_call 46; refine (ks.out _ _).mono ?_; rintro e w' ⟨rfl, hb2⟩))
    | fail
    all_goals
      go_wp2_with fail
      go_ret
      exact ⟨rfl, hb.out.drew.trans (hb2.mono hb.out.drew.size)⟩
end Go.Proofs.YtlhfdedjboanfaaDoor
