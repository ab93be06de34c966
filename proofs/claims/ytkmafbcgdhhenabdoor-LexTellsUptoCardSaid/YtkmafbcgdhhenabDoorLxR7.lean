/-
  The walks of the reference's Print, of the statement's refToks and sameToks. Conditions: the tokens can be read; what is printed is shorter than 2^46 bytes.
-/
import Derived.Test.YtkmafbcgdhhenabDoorLxLawJoins
import Derived.Test.YtkmafbcgdhhenabDoorLxR5
import Derived.Deep.QuietTactic
import Derived.BigQuiet
namespace Go.Proofs.YtkmafbcgdhhenabDoor
open Go.RowKit Go.Lx

/-- what the reference has printed of the first k -/
def joinTo (ts : List Tok) (k : Nat) : List UInt8 := Lib.join ((ts.take k).map (·.text)) [32]
theorem joinTo_succ (ts : List Tok) (k : Nat) (hk : k < ts.length) : joinTo ts (k + 1) = (if 0 < k then joinTo ts k ++ [32] else joinTo ts k) ++ (ts.getD k ⟨0, [], 0⟩).text := by
  unfold joinTo
  rw [List.take_succ_eq_append_getElem hk, List.map_append, List.getD_eq_getElem?_getD, List.getElem?_eq_getElem hk]
  cases hq : (ts.take k).map (·.text) with
  | nil =>
    have : ts.take k = [] := by simpa using hq
    have h0 : k = 0 := by
      have h9 := congrArg List.length this
      rw [List.length_take, List.length_nil] at h9
      omega
    subst h0
    rw [if_neg (by omega)]
    simp [Lib.join_one, Lib.join_nil]
  | cons x r =>
    have h0 : 0 < k := by
      rcases Nat.eq_zero_or_pos k with h | h
      · subst h; simp at hq
      · exact h
    rw [if_pos h0, List.cons_append, Lib.join_cons, Lib.join_cons]
    simp [Lib.joinTail]
theorem joinTo_len (ts : List Tok) (k : Nat) : (joinTo ts k).length ≤ (Lib.join (ts.map (·.text)) [32]).length := by
  have h1 : ∀ d, (joinTo ts k).length ≤ (joinTo ts (k + d)).length := fun d => by
    induction d with
    | zero => exact Nat.le_refl _
    | succ d ih =>
      refine Nat.le_trans ih ?_
      by_cases h : k + d < ts.length
      · rw [show k + (d + 1) = k + d + 1 from rfl, joinTo_succ ts _ h, List.length_append]
        split <;> simp <;> omega
      · unfold joinTo
        rw [List.take_of_length_le (by omega), List.take_of_length_le (by omega)]
        exact Nat.le_refl _
  have h2 := h1 ts.length
  have e : joinTo ts (k + ts.length) = Lib.join (ts.map (·.text)) [32] := by
    unfold joinTo; rw [List.take_of_length_le (by omega)]
  rwa [e] at h2
theorem strOf_app (a b : List UInt8) : strOf a ++ strOf b = strOf (a ++ b) := by
  have h : (strOf a ++ strOf b).data.toList = (strOf (a ++ b)).data.toList := by
    rw [ByteArray.data_append, Array.toList_append, data_strOf, data_strOf, data_strOf]
  rw [← strOf_data (strOf a ++ strOf b), h, strOf_data]

set_option maxRecDepth 100000 in
set_option maxHeartbeats 1000000 in
theorem refprint_any (A : Option Addr) (ts : List Tok) (c : Nat) (w : World) (hU : Toks w w.heap.size A ts) (hl : ts.length ≤ 1099511627776) (hj : (Lib.join (ts.map (·.text)) [32]).length ≤ 70368744177664) :
    Calls Tryd.prog 17 #[.slice A ts.length c] w fun e w' => e = .returned (.string (strOf (Lib.join (ts.map (·.text)) [32]))) ∧ w' = w := by
  go_enter Tryd.func17, Tryd.ntmps17
  go_wp2_with fail
  go_loop [3, 4] (fun v i => ∃ k : Nat, k ≤ ts.length ∧ i = .int .i64 k ∧ v = .string (strOf (joinTo ts k))) (fun _ i => ts.length - (intOf i).toNat)
  case atStart => exact ⟨0, Nat.zero_le _, rfl, rfl⟩
  case round =>
    obtain ⟨k, hk, rfl, rfl⟩ := hrel
    by_cases hlt : k < ts.length
    · obtain ⟨b, off, rfl, hb, hc⟩ := hU (by intro e; subst e; simp at hlt)
      have c1 := (hc k hlt).2.1
      have hs1 : (strOf (joinTo ts k)).size ≤ 70368744177664 := by rw [size_strOf]; exact Nat.le_trans (joinTo_len ts k) hj
      have hst := joinTo_succ ts k hlt
      have hlen2 := joinTo_len ts (k + 1)
      have hs2 : (strOf (ts.getD k ⟨0, [], 0⟩).text).size ≤ 70368744177664 := by
        rw [size_strOf]
        have := congrArg List.length hst
        rw [List.length_append] at this
        omega
      have hq : (strOf (if 0 < k then joinTo ts k ++ [32] else joinTo ts k)) ++ strOf (ts.getD k ⟨0, [], 0⟩).text = strOf (joinTo ts (k + 1)) := by rw [strOf_app, hst]
      clear hc hst hlen2
      by_cases h0 : 0 < k
      · rw [if_pos h0, ← strOf_app] at hq
        replace hq := Lib.hid (show strOf (joinTo ts k) ++ ⟨#[32]⟩ ++ strOf (ts.getD k ⟨0, [], 0⟩).text = strOf (joinTo ts (k + 1)) from hq)
        generalize strOf (ts.getD k ⟨0, [], 0⟩).text = T0 at c1 hs2 hq
        generalize strOf (joinTo ts k) = P0 at hs1 hq ⊢
        go_wp2_with fail
        go_round
        case rel => exact ⟨k + 1, by omega, by go_num, by rw [← hq.out]⟩
        case measure => simp [intOf]; omega
      · rw [if_neg h0] at hq
        replace hq := Lib.hid hq
        generalize strOf (ts.getD k ⟨0, [], 0⟩).text = T0 at c1 hs2 hq
        generalize strOf (joinTo ts k) = P0 at hs1 hq ⊢
        go_wp2_with fail
        go_round
        case rel => exact ⟨k + 1, by omega, by go_num, by rw [← hq.out]⟩
        case measure => simp [intOf]; omega
    · obtain rfl : k = ts.length := by omega
      have e : joinTo ts ts.length = Lib.join (ts.map (·.text)) [32] := by unfold joinTo; rw [List.take_length]
      rw [e]
      go_wp2_with fail
      go_ret
      exact ⟨rfl, rfl⟩

end Go.Proofs.YtkmafbcgdhhenabDoor
