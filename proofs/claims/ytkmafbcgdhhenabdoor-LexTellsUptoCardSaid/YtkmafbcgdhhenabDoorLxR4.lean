/-
  The walk of the reference's mark. Condition: the text is shorter than 2^47 bytes.
-/
import Derived.Test.YtkmafbcgdhhenabDoorLxR3
import Derived.Deep.QuietTactic
import Derived.BigQuiet
namespace Go.Proofs.YtkmafbcgdhhenabDoor
open Go.RowKit Go.Lx
theorem below_drewN {B n : Nat} {a w : World} (h : Below B a w) : Below B a (w.drewN n) := ⟨h.os, h.tape, h.output, h.size, h.block⟩

set_option maxRecDepth 100000 in
set_option maxHeartbeats 4000000 in
theorem mark_any (s : ByteArray) (w : World) : Calls Tryd.prog 29 #[.string s] w fun e w' => e = .returned (.string (strOf (markL s.data.toList))) ∧ Below w.heap.size w w' := by
  go_enter Tryd.func29, Tryd.ntmps29
  go_wp2_with fail
  refine (marks_any w).mono ?_
  rintro e w1 ⟨rfl, hb1, hT⟩
  replace hb1 := Lib.hid hb1
  replace hT := Lib.hid hT
  go_wp2_with fail
  go_loopw [4] (fun i wr => ∃ k : Nat, k ≤ 13 ∧ i = .int .i64 k ∧ Hid (∀ j, j < k → (marksL.getD j []).isPrefixOf s.data.toList = false) ∧ Hid (Below w1.heap.size w1 wr)) (fun i _ => 13 - (intOf i).toNat)
  case atStart => exact ⟨0, Nat.zero_le _, rfl, fun j hj => by omega, Below.refl _ _⟩
  case round =>
    obtain ⟨k, hk, rfl, hok, hB⟩ := hrel
    by_cases hlt : k < 13
    · have hc := (hT.out.later hB.out).2 k hlt
      have hml : 1 ≤ (marksL.getD k []).length ∧ (marksL.getD k []).length ≤ 2 := by
        have hall : ∀ j, j < 13 → 1 ≤ (marksL.getD j []).length ∧ (marksL.getD j []).length ≤ 2 := by decide
        exact hall k hlt
      have hsz : (strOf (marksL.getD k [])).size = (marksL.getD k []).length := size_strOf _
      have hy : Hid ((strOf (marksL.getD k [])).data.toList = marksL.getD k []) := data_strOf _
      have hmk := fun h2 => mark_at (l := s.data.toList) (k := k) hlt hok.out h2
      have hnx : ∀ h : (marksL.getD k []).isPrefixOf s.data.toList = false, ∀ j, j < k + 1 → (marksL.getD j []).isPrefixOf s.data.toList = false := fun h j hj => by
        by_cases e : j < k
        · exact hok.out j e
        · obtain rfl : j = k := by omega
          exact h
      replace hmk := Lib.hid hmk
      replace hnx := Lib.hid hnx
      generalize marksL.getD k [] = m at hc hml hsz hy hmk hnx
      generalize hX : strOf m = X0 at hc hsz hy
      replace hX := Lib.hid hX
      have kk0 : (0 : Int) ≤ (k : Int) := Int.natCast_nonneg k
      have kk1 : (k : Int) < 13 := by omega
      by_cases hle : X0.size ≤ s.size
      · have hex : (s.extract 0 X0.size).data.toList = s.data.toList.take m.length := by rw [Lib.extract_data, hsz]; simp
        have hpi := pref_iff m s.data.toList
        rw [size_data] at hpi
        cases hq : ((s.extract 0 X0.size).toList == X0.toList) with
        | true =>
          have hp : m.isPrefixOf s.data.toList = true := hpi.2 ⟨by omega, by
            rw [toList_data, toList_data, hy.out, hex] at hq
            simpa using hq⟩
          have hE : Hid (strOf (markL s.data.toList) = X0) := by
            show _ = _
            rw [hmk.out hp, hX.out]
          have q1 : decide ((X0.size : Int) ≤ (s.size : Int)) = true := decide_eq_true (by omega)
          have q3 : decide (X0.size ≤ s.size) = true := decide_eq_true (by omega)
          have q2 : (X0.size : Int) ≤ (s.size : Int) := by omega
          clear hex hpi hp hml hle hsz
          go_wp2_with fail
          go_quiet (fail)
          all_goals go_wp2
          all_goals go_ret
          all_goals exact ⟨by rw [hE.out]; rfl, hb1.out.trans (below_drewN (hB.out.mono hb1.out.size))⟩
        | false =>
          have hp : m.isPrefixOf s.data.toList = false := by
            cases h9 : m.isPrefixOf s.data.toList with
            | false => rfl
            | true =>
              have := (hpi.1 h9).2
              rw [toList_data, toList_data, hy.out, hex, this] at hq
              simp at hq
          have hE := Lib.hid (hnx.out hp)
          have q1 : decide ((X0.size : Int) ≤ (s.size : Int)) = true := decide_eq_true (by omega)
          have q3 : decide (X0.size ≤ s.size) = true := decide_eq_true (by omega)
          have q2 : (X0.size : Int) ≤ (s.size : Int) := by omega
          clear hex hpi hp hml hle hsz
          go_wp2_with fail
          go_quiet (fail)
          all_goals go_wp2
          all_goals go_roundw
          case rel => exact ⟨k + 1, by omega, by go_num, hE, below_drewN hB.out⟩
          case measure => simp [intOf]; omega
      · have hp : m.isPrefixOf s.data.toList = false := by
          cases h9 : m.isPrefixOf s.data.toList with
          | false => rfl
          | true => have := ((pref_iff m s.data.toList).1 h9).1; rw [size_data] at this; omega
        have hE := Lib.hid (hnx.out hp)
        have q1 : decide ((X0.size : Int) ≤ (s.size : Int)) = false := decide_eq_false (by omega)
        have q3 : decide (X0.size ≤ s.size) = false := decide_eq_false (by omega)
        clear hp hml hle hsz
        go_wp2_with fail
        go_quiet (fail)
        all_goals go_wp2
        all_goals go_roundw
        case rel => exact ⟨k + 1, by omega, by go_num, hE, below_drewN hB.out⟩
        case measure => simp [intOf]; omega
    · have hE : Hid (markL s.data.toList = []) := mark_none fun j hj => hok.out j (by have : j < 13 := hj; omega)
      go_wp2_with fail
      go_ret
      exact ⟨by rw [hE.out]; rfl, hb1.out.trans (hB.out.mono hb1.out.size)⟩
end Go.Proofs.YtkmafbcgdhhenabDoor
