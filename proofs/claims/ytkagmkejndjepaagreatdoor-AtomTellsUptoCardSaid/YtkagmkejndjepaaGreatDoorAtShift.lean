/-
  Shift. Condition: the pairs can be read, at most 2^43.
-/
import Derived.Test.YtkagmkejndjepaaGreatDoorAtTurn
namespace Go.Proofs.YtkagmkejndjepaaGreatDoor
open Go.RowKit Go.Shelf Go.At
attribute [local go_sem] Oper.semAt_some

theorem fnShift (args : Array Value) (W : World) : (callFunc 47 args).run Tryz.prog W = .ok (.enter 47 args) W := by
  rw [Tryz.call47]
set_option maxRecDepth 100000 in
theorem shiftC_any (B : Nat) (n a : Int) (W : World) (h1 : W.cell? ⟨B, 0, none⟩ = some (.int .i64 n)) :
    Calls Tryz.prog 47 #[.int .i64 a, .pointer (some ⟨B, 0, none⟩)] W fun e w' => e = .returned (.int .i64 (shiftT n a)) ∧ W = w' := by
  have kp := isPoint_any a
  unfold shiftT
  by_cases h : a < 0
  · have hp : isP a = true := decide_eq_true h
    rw [hp] at kp
    rw [if_pos h]
    go_enter Tryz.func47, Tryz.ntmps47
    go_wp2_with (go_at_call 27; refine (kp _).mono ?_; rintro e w' ⟨rfl, hw⟩; cases hw)
    go_ret
    exact ⟨rfl, rfl⟩
  · have hp : isP a = false := decide_eq_false h
    rw [hp] at kp
    rw [if_neg h]
    unfold maxI addW
    generalize hv : IntKind.i64.wrap (a + n) = v
    by_cases h2 : v < 0
    · have hd : decide (v < 0) = true := decide_eq_true h2
      rw [if_pos h2]
      go_enter Tryz.func47, Tryz.ntmps47
      go_wp2_with (go_at_call 27; refine (kp _).mono ?_; rintro e w' ⟨rfl, hw⟩; cases hw)
      all_goals go_ret
      all_goals first | exact ⟨rfl, rfl⟩ | (exfalso; omega)
    · have hd : decide (v < 0) = false := decide_eq_false h2
      rw [if_neg h2]
      go_enter Tryz.func47, Tryz.ntmps47
      go_wp2_with (go_at_call 27; refine (kp _).mono ?_; rintro e w' ⟨rfl, hw⟩; cases hw)
      all_goals go_ret
      all_goals first | exact ⟨rfl, rfl⟩ | (exfalso; omega)
set_option maxRecDepth 100000 in
theorem shift_any (A : Option Addr) (l : List Pr) (c : Nat) (n : Int) (w : World) (hP : Prs w A l) (h6 : ∀ p ∈ l, I64 p.1 ∧ I64 p.2) (hl : l.length ≤ 8796093022208) :
    Calls Tryz.prog 19 #[.slice A l.length c, .int .i64 n] w fun e w' => (∃ A c, e = .returned (.slice A (mapL (shiftT n) l).length c) ∧ Prs w' A (mapL (shiftT n) l)) ∧ Below w.heap.size w w' := by
  have hb := later_alloc w (.cells #[.int .i64 n] 3)
  have hc : (w.alloc (.cells #[.int .i64 n] 3)).cell? ⟨w.heap.size, 0, none⟩ = some (.int .i64 n) := cell_of_row _ _ 0 _ _ _ (World.alloc_heap_new w _)
  have hs : (w.alloc (.cells #[.int .i64 n] 3)).heap.size = w.heap.size + 1 := by simp
  have k := turned_any 47 #[.pointer (some ⟨w.heap.size, 0, none⟩)] (shiftT n) A l c _ (hP.later hb) h6 hl fnShift (fun a W hW _ => shiftC_any w.heap.size n a W ((hW.cell (p := ⟨w.heap.size, 0, none⟩) (by rw [hs]; exact Nat.lt_succ_self _)).trans hc))
  replace hb := Lib.hid hb
  replace k := Lib.hid k
  clear hc hP h6 hl
  go_enter Tryz.func19, Tryz.ntmps19
  go_wp2_with (go_at_call 46; refine k.out.mono ?_; rintro e w1 ⟨⟨A1, c1, rfl, hn⟩, hb1⟩; replace hn := Lib.hid hn; replace hb1 := Lib.hid hb1)
  go_ret
  exact ⟨⟨A1, c1, rfl, hn.out⟩, hb.out.trans (hb1.out.mono hb.out.size)⟩
end Go.Proofs.YtkagmkejndjepaaGreatDoor
