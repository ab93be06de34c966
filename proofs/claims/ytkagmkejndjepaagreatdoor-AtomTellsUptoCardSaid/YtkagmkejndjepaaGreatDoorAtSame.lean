/-
  The statements' same. Condition: the pairs can be read.
-/
import Derived.Test.YtkagmkejndjepaaGreatDoorAtEq
namespace Go.Proofs.YtkagmkejndjepaaGreatDoor
open Go.RowKit Go.Shelf Go.At
attribute [local go_sem] Oper.semAt_some

set_option maxRecDepth 100000 in
set_option maxHeartbeats 4000000 in
theorem same_any (A B : Option Addr) (a b : List Pr) (c d : Nat) (w : World) (hA : Prs w A a) (hB : Prs w B b) (hl : a.length ≤ 8796093022208) :
    Calls Tryz.prog 32 #[.slice A a.length c, .slice B b.length d] w fun e w' => e = .returned (.bool (decide (a = b))) ∧ Below w.heap.size w w' := by
  by_cases hn : a.length = b.length
  · obtain ⟨L, hL⟩ : ∃ L, Hid (a.length = L) := ⟨_, rfl⟩
    have hLa := hL.out
    have hLb : Hid (b.length = L) := by show _ = _; rw [← hn]; exact hL.out
    rw [← hn, hLa]
    clear hn hLa
    go_enter Tryz.func32, Tryz.ntmps32
    go_wp2_with fail
    go_loopw [5] (fun i wr => ∃ k : Nat, k ≤ L ∧ i = .int .i64 k ∧ Hid (a.take k = b.take k) ∧ Hid (Below w.heap.size w wr)) (fun i _ => L - (intOf i).toNat)
    case atStart => exact ⟨0, Nat.zero_le _, rfl, rfl, Below.refl _ _⟩
    case round =>
      obtain ⟨k, hk, rfl, ht, hb⟩ := hrel
      by_cases hlt : k < L
      · have ha : k < a.length := by rw [hL.out]; exact hlt
        have hbl : k < b.length := by rw [hLb.out]; exact hlt
        obtain ⟨ba, oa, rfl, -, ra⟩ := (hA.later hb.out) (by intro e; subst e; simp at ha)
        obtain ⟨bb, ob, rfl, -, rb⟩ := (hB.later hb.out) (by intro e; subst e; simp at hbl)
        obtain ⟨c0, c1⟩ := ra k ha
        obtain ⟨e0, e1⟩ := rb k hbl
        have ta := take_snoc a (0, 0) k ha
        have tb := take_snoc b (0, 0) k hbl
        have hsame := Lib.hid (sameP_iff (a.getD k (0, 0)) (b.getD k (0, 0)))
        have hne : Hid (a.getD k (0, 0) ≠ b.getD k (0, 0) → decide (a = b) = false) := fun h => decide_eq_false fun e => h (by rw [e])
        clear ra rb
        generalize a.getD k (0, 0) = x at c0 c1 ta hsame hne
        generalize b.getD k (0, 0) = y at e0 e1 tb hsame hne
        obtain ⟨x0, x1⟩ := x
        obtain ⟨y0, y1⟩ := y
        dsimp only at c0 c1 e0 e1
        have heq : ∀ w, Sem.run Tryz.prog (binOp .neq 53 (.agg #[.int .i64 x0, .int .i64 x1]) (.agg #[.int .i64 y0, .int .i64 y1])) w = .ok (.bool (!sameP x0 x1 y0 y1)) w := nePair x0 x1 y0 y1
        have hgd : ∀ (op : BinOp) (a b : Operand) w, Sem.run Tryz.prog (eqGuard op 53 a b (.agg #[.int .i64 x0, .int .i64 x1]) (.agg #[.int .i64 y0, .int .i64 y1])) w = .ok () w := fun op a b w => guardPair op a b _ _ w
        cases hs : sameP x0 x1 y0 y1 with
        | true =>
          have he : Hid (a.take (k + 1) = b.take (k + 1)) := by show _ = _; rw [ta, tb, ht.out, hsame.out.1 hs]
          rw [hs] at heq
          simp only [Bool.not_true] at heq
          replace hs := Lib.hid hs
          clear ta tb hne hsame
          go_wp2_with fail
          go_region_held3 (fun W => W.cell? ⟨ba, oa + k * 2, none⟩ = some (.int .i64 x0) ∧ W.cell? ⟨ba, oa + k * 2 + 1, none⟩ = some (.int .i64 x1) ∧ W.cell? ⟨bb, ob + k * 2, none⟩ = some (.int .i64 y0) ∧ W.cell? ⟨bb, ob + k * 2 + 1, none⟩ = some (.int .i64 y1)) (exact ⟨c0, c1, e0, e1⟩) (fail)
          all_goals
            go_wp2_with fail
            go_roundw
            case rel => exact ⟨k + 1, by omega, by go_num, he.out, hb.out.drew⟩
            case measure => simp [intOf]; omega
        | false =>
          have he : Hid (decide (a = b) = false) := hne.out (fun h => by
            have := hsame.out.2 h
            rw [hs] at this
            cases this)
          rw [hs] at heq
          simp only [Bool.not_false] at heq
          replace hs := Lib.hid hs
          clear ta tb hne hsame
          go_wp2_with fail
          go_region_held3 (fun W => W.cell? ⟨ba, oa + k * 2, none⟩ = some (.int .i64 x0) ∧ W.cell? ⟨ba, oa + k * 2 + 1, none⟩ = some (.int .i64 x1) ∧ W.cell? ⟨bb, ob + k * 2, none⟩ = some (.int .i64 y0) ∧ W.cell? ⟨bb, ob + k * 2 + 1, none⟩ = some (.int .i64 y1)) (exact ⟨c0, c1, e0, e1⟩) (fail)
          all_goals
            go_wp2_with fail
            go_ret
            exact ⟨by rw [he.out]; rfl, hb.out.drew⟩
      · obtain rfl : k = L := by omega
        have he : Hid (decide (a = b) = true) := decide_eq_true (by
          have := ht.out
          rwa [List.take_of_length_le (by rw [hL.out]; exact Nat.le_refl _), List.take_of_length_le (by rw [hLb.out]; exact Nat.le_refl _)] at this)
        go_wp2_with fail
        go_ret
        exact ⟨by rw [he.out]; rfl, hb.out⟩
  · have he : Hid (decide (a = b) = false) := decide_eq_false fun e => hn (by rw [e])
    clear hA hB
    generalize a.length = x at hn ⊢
    generalize b.length = y at hn ⊢
    have hx0 : (x : Int) ≠ (y : Int) := by omega
    have hx : ((x : Int) != (y : Int)) = true := bne_iff_ne.2 (by omega)
    have hx2 : ((x : Int) == (y : Int)) = false := beq_eq_false_iff_ne.2 (by omega)
    go_enter Tryz.func32, Tryz.ntmps32
    go_wp2_with fail
    go_ret
    exact ⟨by rw [he.out]; rfl, Below.refl _ _⟩
end Go.Proofs.YtkagmkejndjepaaGreatDoor
