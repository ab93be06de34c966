/-
  A point's atom, its number, whether an atom is a point. Condition: the numbers are of 64 bits.
-/
import Derived.Test.YtlhfdedjboanfaaDoorAtMem
namespace Go.Proofs.YtlhfdedjboanfaaDoor
open Go.RowKit Go.Shelf Go.At
attribute [local go_sem] Oper.semAt_some

theorem isPoint_any (a : Int) (w : World) : Calls Tryd.prog 24 #[.int .i64 a] w fun e w' => e = .returned (.bool (isP a)) ∧ w' = w := by
  go_enter Tryd.func24, Tryd.ntmps24
  go_wp2
  go_ret
  exact ⟨rfl, rfl⟩
theorem point_any (p : Int) (w : World) (hp : I64 p) : Calls Tryd.prog 30 #[.int .i64 p] w fun e w' => e = .returned (.int .i64 (pointT p)) ∧ w' = w := by
  obtain ⟨p1, p2⟩ := hp
  by_cases h : p < 0
  · have hd : decide (p < 0) = true := decide_eq_true h
    have e : pointT p = 0 := if_pos h
    rw [e]
    go_enter Tryd.func30, Tryd.ntmps30
    go_wp2
    go_ret
    exact ⟨rfl, rfl⟩
  · have hd : decide (p < 0) = false := decide_eq_false h
    have e : pointT p = -1 - p := if_neg h
    have hw : IntKind.i64.wrap (-1 - p) = -1 - p := wrap_i ⟨by omega, by omega⟩
    rw [e]
    go_enter Tryd.func30, Tryd.ntmps30
    go_wp2
    go_ret
    exact ⟨rfl, rfl⟩
theorem pointOf_any (a : Int) (w : World) (ha : I64 a) : Calls Tryd.prog 43 #[.int .i64 a] w fun e w' => e = .returned (.int .i64 (pointOfT a)) ∧ w' = w := by
  obtain ⟨p1, p2⟩ := ha
  have k := isPoint_any a
  by_cases h : a < 0
  · have e : pointOfT a = -1 - a := if_pos h
    have e1 : isP a = true := decide_eq_true h
    have hw : IntKind.i64.wrap (-1 - a) = -1 - a := wrap_i ⟨by omega, by omega⟩
    rw [e1] at k
    rw [e]
    go_enter Tryd.func43, Tryd.ntmps43
    go_wp2_with (go_at_call 24; refine (k _).mono ?_; rintro e w' ⟨rfl, rfl⟩)
    go_ret
    exact ⟨rfl, rfl⟩
  · have e : pointOfT a = -1 := if_neg h
    have e1 : isP a = false := decide_eq_false h
    rw [e1] at k
    rw [e]
    go_enter Tryd.func43, Tryd.ntmps43
    go_wp2_with (go_at_call 24; refine (k _).mono ?_; rintro e w' ⟨rfl, rfl⟩)
    go_ret
    exact ⟨rfl, rfl⟩
/-- what Vars takes -/
def takeV (a : Int) : Value := .tuple #[.int .i64 a, .bool (isV a)]
/-- what Points takes -/
def takeP (a : Int) : Value := .tuple #[.int .i64 (pointOfT a), .bool (isP a)]
theorem takeV_any (a : Int) (w : World) : Calls Tryd.prog 53 #[.int .i64 a] w fun e w' => e = .returned (takeV a) ∧ w = w' := by
  have k := isPoint_any a
  go_enter Tryd.func53, Tryd.ntmps53
  go_wp2_with (go_at_call 24; refine (k _).mono ?_; rintro e w' ⟨rfl, rfl⟩)
  refine bodyPost_ret (results_tmp2 rfl _ _ _) rfl ?_
  exact ⟨rfl, rfl⟩
end Go.Proofs.YtlhfdedjboanfaaDoor
