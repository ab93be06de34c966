/-
  The walk of the reference's Right. Conditions: the tokens can be read; no text is as long as 2^47 bytes.
-/
import Derived.Test.YtkmafbcgdhhenabDoorLxR6
namespace Go.Proofs.YtkmafbcgdhhenabDoor
open Go.RowKit Go.Lx

set_option maxRecDepth 100000 in
set_option maxHeartbeats 4000000 in
theorem refrights_any (A : Option Addr) (ts : List Tok) (c : Nat) (w : World) (hU : Toks w w.heap.size A ts) (hs : Short ts) (hl : ts.length ≤ 1099511627776) :
    Calls Tryd.prog 14 #[.slice A ts.length c] w fun e w' => e = .returned (.bool (rightL ts)) ∧ Below w.heap.size w w' := by
  go_enter Tryd.func14, Tryd.ntmps14
  go_wp2_with fail
  go_loopw [3] (fun i wr => ∃ k : Nat, k ≤ ts.length ∧ i = .int .i64 k ∧ Hid (∀ j, j < k → rightT (ts.getD j ⟨0, [], 0⟩) = true) ∧ Hid (Below w.heap.size w wr)) (fun i _ => ts.length - (intOf i).toNat)
  case atStart => exact ⟨0, Nat.zero_le _, rfl, fun j hj => by omega, Below.refl _ _⟩
  case round =>
    obtain ⟨k, hk, rfl, hok, hB⟩ := hrel
    by_cases hlt : k < ts.length
    · obtain ⟨b, off, rfl, hb, hc⟩ := (hU.later hB.out) (by intro e; subst e; simp at hlt)
      obtain ⟨c0, c1, c2⟩ := hc k hlt
      clear hc
      have hsk := hs k
      cases hr : rightT (ts.getD k ⟨0, [], 0⟩) with
      | true =>
        have g3 : Hid (∀ j, j < k + 1 → rightT (ts.getD j ⟨0, [], 0⟩) = true) := fun j hj => by
          by_cases e : j < k
          · exact hok.out j e
          · obtain rfl : j = k := by omega
            exact hr
        generalize ts.getD k ⟨0, [], 0⟩ = q at c0 c1 c2 hr hsk
        obtain ⟨qk, qt, qn⟩ := q
        dsimp only at c0 c1 c2 hsk
        have kr := refright_any qk (strOf qt) qn wr (by rw [size_strOf]; exact hsk)
        rw [data_strOf, right_ref, hr] at kr
        replace kr := Lib.hid kr
        clear hr hsk hok
        go_wp2_with fail
        refine kr.out.mono ?_
        rintro e w9 ⟨rfl, hb8⟩
        replace hb8 := Lib.hid hb8
        go_wp2_with fail
        go_roundw
        case rel => exact ⟨k + 1, by omega, by go_num, g3, hB.out.trans (hb8.out.mono hB.out.size)⟩
        case measure => simp [intOf]; omega
      | false =>
        have g3 : Hid (rightL ts = false) := all_none hlt hr
        generalize ts.getD k ⟨0, [], 0⟩ = q at c0 c1 c2 hr hsk
        obtain ⟨qk, qt, qn⟩ := q
        dsimp only at c0 c1 c2 hsk
        have kr := refright_any qk (strOf qt) qn wr (by rw [size_strOf]; exact hsk)
        rw [data_strOf, right_ref, hr] at kr
        replace kr := Lib.hid kr
        clear hr hsk hok
        go_wp2_with fail
        refine kr.out.mono ?_
        rintro e w9 ⟨rfl, hb8⟩
        replace hb8 := Lib.hid hb8
        go_wp2_with fail
        go_ret
        exact ⟨ret_bool g3.out.symm, hB.out.trans (hb8.out.mono hB.out.size)⟩
    · have g3 : Hid (rightL ts = true) := all_some fun j hj => hok.out j (by omega)
      go_wp2_with fail
      go_ret
      exact ⟨ret_bool g3.out.symm, hB.out⟩
end Go.Proofs.YtkmafbcgdhhenabDoor
