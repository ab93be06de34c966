/-
  The walk of the statements' comparison of the program's tokens with the reference's. Conditions: the tokens can be read, and are the same.
-/
import Derived.Test.YtkmafbcgdhhenabDoorLxR10
import Derived.Test.YtkmafbcgdhhenabDoorLxSame
namespace Go.Proofs.YtkmafbcgdhhenabDoor
open Go.RowKit Go.Lx
attribute [local go_sem ↓] Go.wp_at_zero Go.wp_at_succ

set_option maxRecDepth 100000 in
set_option maxHeartbeats 4000000 in
theorem sametoks_any (A B : Option Addr) (ts : List Tok) (c d : Nat) (w : World) (hU : Toks w w.heap.size A ts) (hV : Toks w w.heap.size B ts) (hl : ts.length ≤ 1099511627776) :
    Calls Tryd.prog 12 #[.slice A ts.length c, .slice B ts.length d] w fun e w' => e = .returned (.bool true) ∧ Below w.heap.size w w' := by
  have kt := Lib.hid (reftoks_any A ts c w hU hl)
  go_enter Tryd.func12, Tryd.ntmps12
  go_wp2_with fail
  refine kt.out.mono ?_
  rintro e W ⟨hB0, A', c', rfl, hA⟩
  replace hV := Lib.hid (hV.later hB0)
  replace hB0 := Lib.hid hB0
  replace hA := Lib.hid hA
  clear kt hU
  go_wp2_with fail
  go_loopw [6] (fun i wr => ∃ k : Nat, k ≤ ts.length ∧ i = .int .i64 k ∧ Hid (Below W.heap.size W wr)) (fun i _ => ts.length - (intOf i).toNat)
  case atStart => exact ⟨0, Nat.zero_le _, rfl, Below.refl _ _⟩
  case round =>
    obtain ⟨k, hk, rfl, hB⟩ := hrel
    by_cases hlt : k < ts.length
    · obtain ⟨b, off, rfl, hb, hc⟩ := (hA.out.later hB.out) (by intro e; subst e; simp at hlt)
      obtain ⟨b2, off2, rfl, hb2, hc2⟩ := (hV.out.later hB.out) (by intro e; subst e; simp at hlt)
      obtain ⟨c0, c1, c2⟩ := hc k hlt
      obtain ⟨d0, d1, d2⟩ := hc2 k hlt
      clear hc hc2
      generalize ts.getD k ⟨0, [], 0⟩ = q at c0 c1 c2 d0 d1 d2
      obtain ⟨qk, qt, qn⟩ := q
      dsimp only at c0 c1 c2 d0 d1 d2
      generalize strOf qt = qs at c1 d1
      have hb9 : Hid (Below W.heap.size W wr.drew) := hB.out.drew
      go_wp2_with fail
      go_region_held3 (fun w' => w'.cell? ⟨b, off + k * 3, none⟩ = some (.int .i64 qk) ∧ w'.cell? ⟨b, off + k * 3 + 1, none⟩ = some (.string qs) ∧ w'.cell? ⟨b, off + k * 3 + 2, none⟩ = some (.int .i64 qn) ∧ w'.cell? ⟨b2, off2 + k * 3, none⟩ = some (.int .i64 qk) ∧ w'.cell? ⟨b2, off2 + k * 3 + 1, none⟩ = some (.string qs) ∧ w'.cell? ⟨b2, off2 + k * 3 + 2, none⟩ = some (.int .i64 qn)) (exact ⟨c0, c1, c2, d0, d1, d2⟩) (fail)
      all_goals go_wp2
      all_goals go_roundw
      case rel => exact ⟨k + 1, by omega, by go_num, hb9⟩
      case measure => simp [intOf]; omega
    · go_wp2_with fail
      go_ret
      exact ⟨rfl, hB0.out.trans (hB.out.mono hB0.out.size)⟩
end Go.Proofs.YtkmafbcgdhhenabDoor
