/-
  lat.complete: whether every two points have a join, and there is a bottom. Conditions: at most 64 rows, words of 64 bits within the rows; the library's table lies as laid.
-/
import Derived.Test.YtlhfdedjboanfaaDoorLtLeast
namespace Go.Proofs.YtlhfdedjboanfaaDoor.L
open Go.RowKit Go.Shelf Go.Lt

theorem and_lt {a b n : Nat} (ha : a < 2 ^ n) : a &&& b < 2 ^ n := Nat.lt_of_le_of_lt Nat.and_le_left ha

set_option maxHeartbeats 2000000 in
theorem complete_any (A : Option Addr) (us : List Nat) (c : Nat) (w : World) (hE : Env w) (hU : Words w w.heap.size A us) (h64 : W64 us) (hl : us.length ≤ 64) (hin : ∀ a, a < us.length → row us a < 2 ^ us.length) :
    Calls Tryd.prog 66 #[.slice A us.length c] w fun e w' => e = .returned (.bool (complete us)) ∧ Below w.heap.size w w' := by
  have h4 := hE.four
  go_enter Tryd.func66, Tryd.ntmps66
  go_wp2
  go_loopw [8] (fun i wr => ∃ k : Nat, k ≤ us.length ∧ i = .int .i64 k ∧ Hid (∀ j, j < k → compRow us j = true) ∧ Below w.heap.size w wr) (fun i _ => us.length - (intOf i).toNat)
  case atStart => exact ⟨0, Nat.zero_le _, rfl, fun j hj => by omega, Below.refl _ _⟩
  case round =>
    obtain ⟨k, hk, rfl, hok, hB⟩ := hrel
    obtain ⟨wo, rfl⟩ : ∃ wo : World, wo = wr := ⟨_, rfl⟩
    by_cases hlt : k < us.length
    · obtain ⟨b, off, rfl, hb, hc⟩ := hU (by intro e; subst e; simp at hlt)
      have hck := (hB.cell (p := ⟨b, off + k, none⟩) hb).trans (hc k hlt)
      have HC := Lib.hid hc
      clear hc
      go_wp2
      go_loopw [14] (fun i wr => ∃ q : Nat, q ≤ k ∧ i = .int .i64 q ∧ Hid (∀ j, j < q → compTo us k j = true) ∧ Below w.heap.size w wr) (fun i _ => k - (intOf i).toNat)
      case atStart => exact ⟨0, Nat.zero_le _, rfl, fun j hj => by omega, hB⟩
      case round =>
        obtain ⟨q, hq, rfl, hok2, hB2⟩ := hrel
        by_cases hqk : q < k
        · have hcq := (hB2.cell (p := ⟨b, off + q, none⟩) hb).trans (HC.out q (by omega))
          have hset : row us k &&& row us q < 18446744073709551616 := Nat.lt_of_le_of_lt Nat.and_le_left (h64 k)
          have hbits := u64_and_nat (row us k) (row us q) (h64 k) (h64 q)
          have hE2 : Env wr := hE.below h4 hB2
          have hU2 : Words wr wr.heap.size (some ⟨b, off, none⟩) us := hU.below hB2.size hB2
          have hin2 : ∀ p, (row us k &&& row us q).testBit p = true → p < us.length := fun p hp => testBit_lt (and_lt (hin k hlt)) hp
          have key := Lib.hid (least_any (some ⟨b, off, none⟩) us c (row us k &&& row us q) wr hE2 hU2 h64 hset hl hin2)
          clear hin2
          have hsz := hB2.size
          by_cases hcmp : 0 ≤ least us (row us k &&& row us q)
          · have hok3 : Hid (∀ j, j < q + 1 → compTo us k j = true) := fun j hj => by
              by_cases e : j < q
              · exact hok2.out j e
              · obtain rfl : j = q := by omega
                exact decide_eq_true hcmp
            go_wp2_with (go_at_call 54; refine key.out.mono ?_; rintro e w1 ⟨rfl, hb1⟩)
            go_roundw
            case rel => exact ⟨q + 1, by omega, by go_num, hok3, hB2.trans (hb1.mono hsz)⟩
            case measure => simp [intOf]; omega
          · have hE9 : Hid (complete us = false) := by
              show complete us = false
              have h1 : (List.range us.length).all (compRow us) = false := by
                rw [List.all_eq_false]
                refine ⟨k, List.mem_range.2 hlt, ?_⟩
                have : compRow us k = false := by
                  unfold compRow
                  rw [List.all_eq_false]
                  exact ⟨q, List.mem_range.2 hqk, by unfold compTo; simpa using hcmp⟩
                rw [this]; simp
              unfold complete
              rw [h1]; rfl
            go_wp2_with (go_at_call 54; refine key.out.mono ?_; rintro e w1 ⟨rfl, hb1⟩)
            go_ret
            exact ⟨ret_bool hE9.out.symm, hB2.trans (hb1.mono hsz)⟩
        · have hok3 : Hid (∀ j, j < k + 1 → compRow us j = true) := fun j hj => by
            by_cases e : j < k
            · exact hok.out j e
            · obtain rfl : j = k := by omega
              unfold compRow
              rw [List.all_eq_true]
              intro p hp
              exact hok2.out p (by have := List.mem_range.1 hp; omega)
          go_wp2
          go_roundw
          case rel => exact ⟨k + 1, by omega, by go_num, hok3, hB2⟩
          case measure => simp [intOf]; omega
    · have h1 : Hid ((List.range us.length).all (compRow us) = true) := by
        show (List.range us.length).all (compRow us) = true
        rw [List.all_eq_true]
        intro j hj
        exact hok.out j (by have := List.mem_range.1 hj; omega)
      have hE2 : Env wo := hE.below h4 hB
      have hU2 : Words wo wo.heap.size A us := hU.below hB.size hB
      have hin2 : ∀ p, (Lt.all us.length).testBit p = true → p < us.length := fun p hp => by rw [all_bit] at hp; simpa using hp
      have key := Lib.hid (least_any A us c (Lt.all us.length) wo hE2 hU2 h64 (all_lt hl) hl hin2)
      clear hin2
      have hsz := hB.size
      go_wp2_with (first | (go_at_call 56; refine (all_any _ hl _).mono ?_; rintro e w' ⟨rfl, rfl⟩) | (go_at_call 54; refine key.out.mono ?_; rintro e w1 ⟨rfl, hb1⟩))
      go_ret
      refine ⟨ret_bool ?_, hB.trans (hb1.mono hsz)⟩
      unfold complete
      rw [h1.out]; rfl
end Go.Proofs.YtlhfdedjboanfaaDoor.L
