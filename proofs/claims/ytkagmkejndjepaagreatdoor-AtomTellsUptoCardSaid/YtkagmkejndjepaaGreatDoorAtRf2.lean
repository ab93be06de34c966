/-
  The document's own pairs compared; samePairs of one list; Point, PointOf, shift, One. Condition: the pairs can be read, at most 2^20; the numbers are of 64 bits.
-/
import Derived.Test.YtkagmkejndjepaaGreatDoorAtRf1
namespace Go.Proofs.YtkagmkejndjepaaGreatDoor
open Go.RowKit Go.Shelf Go.At
attribute [local go_sem] Oper.semAt_some

theorem equalPairR (a b c d : Int) (w : World) : (Op.equalIn 10000 60 (.agg #[.int .i64 a, .int .i64 b]) (.agg #[.int .i64 c, .int .i64 d])).run Tryz.prog w = .ok (sameP a b c d) w := by
  have u3 := Tryz.underlying3
  have a3 := Tryz.isAgg3
  have z3 := Tryz.sizeOf3
  have hS : Tryz.prog.underlying 60 = some (.struct (Tryz.prog.fieldsOf 60)) := by kernel_rfl
  have hp : Tryz.prog.stoodInHeld 60 = false := by kernel_rfl
  show (Op.equalIn (9999 + 1) 60 _ _).run Tryz.prog w = _
  rw [run_equalIn_agg w 9999 60 _ _ hS hp]
  simp only [Program.fieldsOf, Tryz.underlying60]
  go_simp
  by_cases h1 : a = c <;> by_cases h2 : b = d <;> simp [sameP, h1, h2]
theorem eqPairR (a b c d : Int) (w : World) : (binOp .eql 60 (.agg #[.int .i64 a, .int .i64 b]) (.agg #[.int .i64 c, .int .i64 d])).run Tryz.prog w = .ok (.bool (sameP a b c d)) w := by
  rw [run_eql_struct, equalPairR]; rfl
theorem nePairR (a b c d : Int) (w : World) : (binOp .neq 60 (.agg #[.int .i64 a, .int .i64 b]) (.agg #[.int .i64 c, .int .i64 d])).run Tryz.prog w = .ok (.bool (!sameP a b c d)) w := by
  rw [run_neq_struct, equalPairR]; rfl
theorem guardPairR (op : BinOp) (a b : Operand) (x y : Array Value) (w : World) : (eqGuard op 60 a b (.agg x) (.agg y)).run Tryz.prog w = .ok () w := run_eqGuard_agg w op 60 a b x y (by kernel_rfl)

set_option maxRecDepth 100000 in
set_option maxHeartbeats 4000000 in
theorem samePairs_any (A B : Option Addr) (l : List Pr) (c d : Nat) (w : World) (hA : Prs w A l) (hB : Prs w B l) (hl : l.length ≤ 1048576) :
    Calls Tryz.prog 16 #[.slice A l.length c, .slice B l.length d] w fun e w' => e = .returned (.bool true) ∧ Below w.heap.size w w' := by
  have kr := Lib.hid (refPairs_any A l c w hA hl)
  obtain ⟨L, hL⟩ : ∃ L, Hid (l.length = L) := ⟨_, rfl⟩
  have hLl := hL.out
  rw [hLl] at hl kr ⊢
  clear hLl hA
  go_enter Tryz.func16, Tryz.ntmps16
  go_wp2_with fail
  refine kr.out.mono ?_
  rintro e w1 ⟨⟨A1, c1, rfl, hP1, -⟩, hb1⟩
  have hQ1 := Lib.hid (hB.later hb1)
  replace hP1 := Lib.hid hP1
  replace hb1 := Lib.hid hb1
  clear kr hB
  go_wp2_with fail
  go_loopw [6] (fun i wr => ∃ k : Nat, k ≤ L ∧ i = .int .i64 k ∧ Hid (Below w1.heap.size w1 wr)) (fun i _ => L - (intOf i).toNat)
  case atStart => exact ⟨0, Nat.zero_le _, rfl, Below.refl _ _⟩
  case round =>
    obtain ⟨k, hk, rfl, hb⟩ := hrel
    by_cases hlt : k < L
    · have ha : k < l.length := by rw [hL.out]; exact hlt
      obtain ⟨ba, oa, rfl, -, ra⟩ := (hP1.out.later hb.out) (by intro e; subst e; simp at ha)
      obtain ⟨bb, ob, rfl, -, rb⟩ := (hQ1.out.later hb.out) (by intro e; subst e; simp at ha)
      obtain ⟨c0, c1⟩ := ra k ha
      obtain ⟨e0, e1⟩ := rb k ha
      clear ra rb
      generalize l.getD k (0, 0) = x at c0 c1 e0 e1
      obtain ⟨x0, x1⟩ := x
      dsimp only at c0 c1 e0 e1
      have hs : sameP x0 x1 x0 x1 = true := by simp [sameP]
      have heq : ∀ w, Sem.run Tryz.prog (binOp .neq 60 (.agg #[.int .i64 x0, .int .i64 x1]) (.agg #[.int .i64 x0, .int .i64 x1])) w = .ok (.bool (!sameP x0 x1 x0 x1)) w := nePairR x0 x1 x0 x1
      have hgd : ∀ (op : BinOp) (a b : Operand) w, Sem.run Tryz.prog (eqGuard op 60 a b (.agg #[.int .i64 x0, .int .i64 x1]) (.agg #[.int .i64 x0, .int .i64 x1])) w = .ok () w := fun op a b w => guardPairR op a b _ _ w
      rw [hs] at heq
      simp only [Bool.not_true] at heq
      replace hs := Lib.hid hs
      go_wp2_with fail
      go_region_held3 (fun W => W.cell? ⟨ba, oa + k * 2, none⟩ = some (.int .i64 x0) ∧ W.cell? ⟨ba, oa + k * 2 + 1, none⟩ = some (.int .i64 x1) ∧ W.cell? ⟨bb, ob + k * 2, none⟩ = some (.int .i64 x0) ∧ W.cell? ⟨bb, ob + k * 2 + 1, none⟩ = some (.int .i64 x1)) (exact ⟨c0, c1, e0, e1⟩) (fail)
      all_goals
        go_wp2_with fail
        go_roundw
        case rel => exact ⟨k + 1, by omega, by go_num, hb.out.drew⟩
        case measure => simp [intOf]; omega
    · obtain rfl : k = L := by omega
      go_wp2_with fail
      go_ret
      exact ⟨rfl, hb1.out.trans (hb.out.mono hb1.out.size)⟩

theorem refPoint_any (p : Int) (w : World) (hp : I64 p) : Calls Tryz.prog 24 #[.int .i64 p] w fun e w' => e = .returned (.int .i64 (pointT p)) ∧ w = w' := by
  obtain ⟨p1, p2⟩ := hp
  by_cases h : p < 0
  · have hd : decide (p < 0) = true := decide_eq_true h
    have e : pointT p = 0 := if_pos h
    rw [e]
    go_enter Tryz.func24, Tryz.ntmps24
    go_wp2
    go_ret
    exact ⟨rfl, rfl⟩
  · have hd : decide (p < 0) = false := decide_eq_false h
    have e : pointT p = -1 - p := if_neg h
    have hw : IntKind.i64.wrap (-1 - p) = -1 - p := wrap_i ⟨by omega, by omega⟩
    rw [e]
    go_enter Tryz.func24, Tryz.ntmps24
    go_wp2
    go_ret
    exact ⟨rfl, rfl⟩
theorem refPointOf_any (a : Int) (w : World) (ha : I64 a) : Calls Tryz.prog 26 #[.int .i64 a] w fun e w' => e = .returned (.int .i64 (pointOfT a)) ∧ w = w' := by
  obtain ⟨p1, p2⟩ := ha
  by_cases h : a < 0
  · have hd : decide (0 ≤ a) = false := decide_eq_false (by omega)
    have e : pointOfT a = -1 - a := if_pos h
    have hw : IntKind.i64.wrap (-1 - a) = -1 - a := wrap_i ⟨by omega, by omega⟩
    rw [e]
    go_enter Tryz.func26, Tryz.ntmps26
    go_wp2
    go_ret
    exact ⟨rfl, rfl⟩
  · have hd : decide (0 ≤ a) = true := decide_eq_true (by omega)
    have e : pointOfT a = -1 := if_neg h
    rw [e]
    go_enter Tryz.func26, Tryz.ntmps26
    go_wp2
    go_ret
    exact ⟨rfl, rfl⟩
set_option maxRecDepth 100000 in
theorem refShift1_any (n a : Int) (w : World) : Calls Tryz.prog 48 #[.int .i64 a, .int .i64 n] w fun e w' => e = .returned (.int .i64 (shiftT n a)) ∧ w = w' := by
  unfold shiftT
  by_cases h : a < 0
  · have hd : decide (a < 0) = true := decide_eq_true h
    rw [if_pos h]
    go_enter Tryz.func48, Tryz.ntmps48
    go_wp2_with fail
    go_ret
    exact ⟨rfl, rfl⟩
  · have hd : decide (a < 0) = false := decide_eq_false h
    rw [if_neg h]
    unfold maxI addW
    generalize hv : IntKind.i64.wrap (a + n) = v
    by_cases h2 : v < 0
    · have hd2 : decide (v < 0) = true := decide_eq_true h2
      rw [if_pos h2]
      go_enter Tryz.func48, Tryz.ntmps48
      go_wp2_with fail
      go_ret
      exact ⟨ret_int (a := max v 0) (by omega), rfl⟩
    · have hd2 : decide (v < 0) = false := decide_eq_false h2
      rw [if_neg h2]
      go_enter Tryz.func48, Tryz.ntmps48
      go_wp2_with fail
      go_ret
      exact ⟨ret_int (a := max v 0) (by omega), rfl⟩
end Go.Proofs.YtkagmkejndjepaaGreatDoor
