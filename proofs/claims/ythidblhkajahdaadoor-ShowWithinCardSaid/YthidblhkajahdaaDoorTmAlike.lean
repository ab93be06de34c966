/-
  Whether two nodes are alike but for their Kids. Condition: each of the two has a header that can be read.
-/
import Derived.Test.YthidblhkajahdaaDoorTmRight
import Derived.Test.YthidblhkajahdaaDoorTmSameM
import Derived.Deep.QuietTactic
import Derived.BigQuiet
namespace Go.Proofs.YthidblhkajahdaaDoor
open Go.RowKit Go.Shelf Go.Tm
attribute [local go_sem] Oper.semAt_some

set_option maxRecDepth 100000 in
set_option maxHeartbeats 2000000 in
theorem alike_any (b1 o1 b2 o2 : Nat) (t1 t2 : Go.Tm.T) (A1 A2 : Option Addr) (c1 c2 : Nat) (w : World) (hh : Hdr w anyB b1 o1 t1 A1 c1) (gg : Hdr w anyB b2 o2 t2 A2 c2) :
    Calls Tryd.prog 38 #[.pointer (some ⟨b1, o1, none⟩), .pointer (some ⟨b2, o2, none⟩)] w fun e w' => e = .returned (.bool (alikeB t1 t2)) ∧ Below w.heap.size w w' := by
  have h0 := hh.kind
  have h1 := hh.name
  have h2 := hh.num
  have h3 := hh.kids
  have g0 := gg.kind
  have g1 := gg.name
  have g2 := gg.num
  have g3 := gg.kids
  clear hh gg
  cases e1 : (t1.kind == t2.kind) with
  | false =>
    have hE : Hid (alikeB t1 t2 = false) := by show _ = _; unfold alikeB; rw [e1]; rfl
    have d1 : decide (t1.kind = t2.kind) = false := by rw [decide_eq_false_iff_not]; exact fun h => by rw [h, beq_self_eq_true] at e1; cases e1
    have n1 : ¬ t1.kind = t2.kind := of_decide_eq_false d1
    go_enter Tryd.func38, Tryd.ntmps38
    go_wp2_with fail
    go_quiet (fail)
    all_goals go_wp2
    all_goals go_ret
    all_goals exact ⟨ret_bool hE.out.symm, belowN (Below.refl _ _) _⟩
  | true =>
  cases e2 : (t1.name.toList == t2.name.toList) with
  | false =>
    have hE : Hid (alikeB t1 t2 = false) := by show _ = _; unfold alikeB; rw [e1, e2]; rfl
    have d2 : decide (t1.name.toList = t2.name.toList) = false := by rw [decide_eq_false_iff_not]; exact fun h => by rw [h, beq_self_eq_true] at e2; cases e2
    have n2 : ¬ t1.name.toList = t2.name.toList := of_decide_eq_false d2
    go_enter Tryd.func38, Tryd.ntmps38
    go_wp2_with fail
    go_quiet (fail)
    all_goals go_wp2
    all_goals go_ret
    all_goals exact ⟨ret_bool hE.out.symm, belowN (Below.refl _ _) _⟩
  | true =>
  cases e3 : (t1.num == t2.num) with
  | false =>
    have hE : Hid (alikeB t1 t2 = false) := by show _ = _; unfold alikeB; rw [e1, e2, e3]; rfl
    have d3 : decide (t1.num = t2.num) = false := by rw [decide_eq_false_iff_not]; exact fun h => by rw [h, beq_self_eq_true] at e3; cases e3
    have n3 : ¬ t1.num = t2.num := of_decide_eq_false d3
    go_enter Tryd.func38, Tryd.ntmps38
    go_wp2_with fail
    go_quiet (fail)
    all_goals go_wp2
    all_goals go_ret
    all_goals exact ⟨ret_bool hE.out.symm, belowN (Below.refl _ _) _⟩
  | true =>
    have hE : Hid (((t1.kids.length : Int) == (t2.kids.length : Int)) = alikeB t1 t2) := by show _ = _; unfold alikeB; rw [e1, e2, e3]; rfl
    go_enter Tryd.func38, Tryd.ntmps38
    go_wp2_with fail
    go_quiet (fail)
    all_goals go_wp2
    all_goals go_ret
    all_goals exact ⟨ret_bool hE.out, belowN (Below.refl _ _) _⟩
end Go.Proofs.YthidblhkajahdaaDoor
