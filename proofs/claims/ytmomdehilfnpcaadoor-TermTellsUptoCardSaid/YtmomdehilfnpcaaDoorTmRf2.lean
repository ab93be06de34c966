/-
  The reference's Binder, and how many kids a kind has. No condition.
-/
import Derived.Test.YtmomdehilfnpcaaDoorTmRf1
namespace Go.Proofs.YtmomdehilfnpcaaDoor
open Go.RowKit Go.Shelf Go.Tm

theorem refbinder_any (k n : Int) (s : ByteArray) (v : Value) (w : World) : Calls Tryd.prog 22 #[.agg #[.int .i64 k, .string s, .int .i64 n, v]] w fun e w' => e = .returned (.bool (binderB k)) ∧ Below w.heap.size w w' := by
  have hb := Lib.hid (later_alloc w (.cells #[.int .i64 k, .string s, .int .i64 n, v] 28))
  cases h1 : (k == 3) with
  | true =>
    have hE : Hid (binderB k = true) := by show _ = _; unfold binderB; rw [h1]; rfl
    go_enter Tryd.func22, Tryd.ntmps22
    go_wp2
    go_ret
    exact ⟨ret_bool hE.out.symm, hb.out⟩
  | false =>
  cases h2 : (k == 5) with
  | true =>
    have hE : Hid (binderB k = true) := by show _ = _; unfold binderB; rw [h2]; simp
    go_enter Tryd.func22, Tryd.ntmps22
    go_wp2
    go_ret
    exact ⟨ret_bool hE.out.symm, hb.out⟩
  | false =>
  cases h3 : (k == 9) with
  | true =>
    have hE : Hid (binderB k = true) := by show _ = _; unfold binderB; rw [h3]; simp
    go_enter Tryd.func22, Tryd.ntmps22
    go_wp2
    go_ret
    exact ⟨ret_bool hE.out.symm, hb.out⟩
  | false =>
    have hE : Hid (binderB k = false) := by show _ = _; unfold binderB; rw [h1, h2, h3]; rfl
    go_enter Tryd.func22, Tryd.ntmps22
    go_wp2
    go_ret
    exact ⟨ret_bool hE.out.symm, hb.out⟩


def manyI (k : Int) : Int := if 1 ≤ k ∧ k ≤ 13 then (kidsTab.getD k.toNat 0 : Nat) else -1
theorem refmany_1 (w : World) : Calls Tryd.prog 73 #[.int .i64 1] w fun e w' => e = .returned (.int .i64 0) ∧ w = w' := by
  go_enter Tryd.func73, Tryd.ntmps73
  go_wp2
  go_ret
  exact ⟨rfl, rfl⟩
theorem refmany_2 (w : World) : Calls Tryd.prog 73 #[.int .i64 2] w fun e w' => e = .returned (.int .i64 0) ∧ w = w' := by
  go_enter Tryd.func73, Tryd.ntmps73
  go_wp2
  go_ret
  exact ⟨rfl, rfl⟩
theorem refmany_3 (w : World) : Calls Tryd.prog 73 #[.int .i64 3] w fun e w' => e = .returned (.int .i64 1) ∧ w = w' := by
  go_enter Tryd.func73, Tryd.ntmps73
  go_wp2
  go_ret
  exact ⟨rfl, rfl⟩
theorem refmany_4 (w : World) : Calls Tryd.prog 73 #[.int .i64 4] w fun e w' => e = .returned (.int .i64 2) ∧ w = w' := by
  go_enter Tryd.func73, Tryd.ntmps73
  go_wp2
  go_ret
  exact ⟨rfl, rfl⟩
theorem refmany_5 (w : World) : Calls Tryd.prog 73 #[.int .i64 5] w fun e w' => e = .returned (.int .i64 2) ∧ w = w' := by
  go_enter Tryd.func73, Tryd.ntmps73
  go_wp2
  go_ret
  exact ⟨rfl, rfl⟩
theorem refmany_6 (w : World) : Calls Tryd.prog 73 #[.int .i64 6] w fun e w' => e = .returned (.int .i64 3) ∧ w = w' := by
  go_enter Tryd.func73, Tryd.ntmps73
  go_wp2
  go_ret
  exact ⟨rfl, rfl⟩
theorem refmany_7 (w : World) : Calls Tryd.prog 73 #[.int .i64 7] w fun e w' => e = .returned (.int .i64 2) ∧ w = w' := by
  go_enter Tryd.func73, Tryd.ntmps73
  go_wp2
  go_ret
  exact ⟨rfl, rfl⟩
theorem refmany_8 (w : World) : Calls Tryd.prog 73 #[.int .i64 8] w fun e w' => e = .returned (.int .i64 1) ∧ w = w' := by
  go_enter Tryd.func73, Tryd.ntmps73
  go_wp2
  go_ret
  exact ⟨rfl, rfl⟩
theorem refmany_9 (w : World) : Calls Tryd.prog 73 #[.int .i64 9] w fun e w' => e = .returned (.int .i64 2) ∧ w = w' := by
  go_enter Tryd.func73, Tryd.ntmps73
  go_wp2
  go_ret
  exact ⟨rfl, rfl⟩
theorem refmany_10 (w : World) : Calls Tryd.prog 73 #[.int .i64 10] w fun e w' => e = .returned (.int .i64 1) ∧ w = w' := by
  go_enter Tryd.func73, Tryd.ntmps73
  go_wp2
  go_ret
  exact ⟨rfl, rfl⟩
theorem refmany_11 (w : World) : Calls Tryd.prog 73 #[.int .i64 11] w fun e w' => e = .returned (.int .i64 2) ∧ w = w' := by
  go_enter Tryd.func73, Tryd.ntmps73
  go_wp2
  go_ret
  exact ⟨rfl, rfl⟩
theorem refmany_12 (w : World) : Calls Tryd.prog 73 #[.int .i64 12] w fun e w' => e = .returned (.int .i64 2) ∧ w = w' := by
  go_enter Tryd.func73, Tryd.ntmps73
  go_wp2
  go_ret
  exact ⟨rfl, rfl⟩
theorem refmany_13 (w : World) : Calls Tryd.prog 73 #[.int .i64 13] w fun e w' => e = .returned (.int .i64 2) ∧ w = w' := by
  go_enter Tryd.func73, Tryd.ntmps73
  go_wp2
  go_ret
  exact ⟨rfl, rfl⟩
theorem refmany_none (k : Int) (w : World) (h : ¬ (1 ≤ k ∧ k ≤ 13)) : Calls Tryd.prog 73 #[.int .i64 k] w fun e w' => e = .returned (.int .i64 (-1)) ∧ w = w' := by
  have d1 : (k == 1) = false := by rw [beq_eq_false_iff_ne]; omega
  have d2 : (k == 2) = false := by rw [beq_eq_false_iff_ne]; omega
  have d3 : (k == 3) = false := by rw [beq_eq_false_iff_ne]; omega
  have d4 : (k == 4) = false := by rw [beq_eq_false_iff_ne]; omega
  have d5 : (k == 5) = false := by rw [beq_eq_false_iff_ne]; omega
  have d6 : (k == 6) = false := by rw [beq_eq_false_iff_ne]; omega
  have d7 : (k == 7) = false := by rw [beq_eq_false_iff_ne]; omega
  have d8 : (k == 8) = false := by rw [beq_eq_false_iff_ne]; omega
  have d9 : (k == 9) = false := by rw [beq_eq_false_iff_ne]; omega
  have d10 : (k == 10) = false := by rw [beq_eq_false_iff_ne]; omega
  have d11 : (k == 11) = false := by rw [beq_eq_false_iff_ne]; omega
  have d12 : (k == 12) = false := by rw [beq_eq_false_iff_ne]; omega
  have d13 : (k == 13) = false := by rw [beq_eq_false_iff_ne]; omega
  clear h
  go_enter Tryd.func73, Tryd.ntmps73
  go_wp2
  go_ret
  exact ⟨rfl, rfl⟩
theorem refmany_any (k : Int) (w : World) : Calls Tryd.prog 73 #[.int .i64 k] w fun e w' => e = .returned (.int .i64 (manyI k)) ∧ w = w' := by
  by_cases h : 1 ≤ k ∧ k ≤ 13
  · obtain rfl | rfl | rfl | rfl | rfl | rfl | rfl | rfl | rfl | rfl | rfl | rfl | rfl : k = 1 ∨ k = 2 ∨ k = 3 ∨ k = 4 ∨ k = 5 ∨ k = 6 ∨ k = 7 ∨ k = 8 ∨ k = 9 ∨ k = 10 ∨ k = 11 ∨ k = 12 ∨ k = 13 := by omega
    · exact refmany_1 w
    · exact refmany_2 w
    · exact refmany_3 w
    · exact refmany_4 w
    · exact refmany_5 w
    · exact refmany_6 w
    · exact refmany_7 w
    · exact refmany_8 w
    · exact refmany_9 w
    · exact refmany_10 w
    · exact refmany_11 w
    · exact refmany_12 w
    · exact refmany_13 w
  · unfold manyI
    rw [if_neg h]
    exact refmany_none k w h
end Go.Proofs.YtmomdehilfnpcaaDoor
