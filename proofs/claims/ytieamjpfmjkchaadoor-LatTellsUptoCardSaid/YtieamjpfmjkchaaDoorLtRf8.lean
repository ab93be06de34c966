/-
  The walk of the reference's row. Conditions: lines of at most 64; a text that a machine can hold.
-/
import Derived.Test.YtieamjpfmjkchaaDoorLtRf7
namespace Go.Proofs.YtieamjpfmjkchaaDoor
open Go.RowKit Go.Shelf Go.Lt

def rowVal (n : Nat) (s : ByteArray) : Nat := if lnOk n s then lineBits s 0 n else 0
theorem lnOk_size {n : Nat} {s : ByteArray} (h : s.size ≠ n) : lnOk n s = false := by
  unfold lnOk
  rw [beq_eq_false_iff_ne.2 h]; rfl
theorem lnOk_no {n k : Nat} {s : ByteArray} (hk : k < n) (h : bitOk s 0 k = false) : lnOk n s = false := by
  unfold lnOk lineOk
  have : (List.range n).all (bitOk s 0) = false := by
    rw [List.all_eq_false]
    exact ⟨k, List.mem_range.2 hk, by rw [h]; simp⟩
  rw [this]; simp
theorem lnOk_yes {n : Nat} {s : ByteArray} (hs : s.size = n) (h : ∀ j, j < n → bitOk s 0 j = true) : lnOk n s = true := by
  unfold lnOk lineOk
  rw [Bool.and_eq_true, beq_iff_eq, List.all_eq_true]
  exact ⟨hs, fun j hj => h j (List.mem_range.1 hj)⟩

set_option maxRecDepth 100000 in
set_option maxHeartbeats 1000000 in
theorem refrow_any (s : ByteArray) (n : Nat) (w : World) (hn : n ≤ 64) : Calls Tryd.prog 43 #[.string s, .int .i64 n] w fun e w' =>
    e = .returned (.tuple #[.int .u64 (rowVal n s : Nat), .bool (lnOk n s)]) ∧ w' = w := by
  by_cases hsn : s.size = n
  case neg =>
    have hno := lnOk_size hsn
    have hE9 : Hid (rowVal n s = 0) := by
      show rowVal n s = 0
      unfold rowVal; rw [hno]; rfl
    have hne : ((s.size : Int) == (n : Int)) = false := by rw [beq_eq_false_iff_ne]; omega
    replace hno := Lib.hid hno
    go_enter Tryd.func43, Tryd.ntmps43
    go_wp2_with fail
    go_ret2
    exact ⟨ret_two hE9.out.symm hno.out.symm, rfl⟩
  have hne : ((s.size : Int) == (n : Int)) = true := by rw [beq_iff_eq]; omega
  have hsn' := Lib.hid hsn
  have hle : n ≤ s.size := by omega
  clear hsn
  go_enter Tryd.func43, Tryd.ntmps43
  go_wp2_with fail
  go_loop [6, 7] (fun r i => ∃ k : Nat, k ≤ n ∧ i = .int .i64 k ∧ r = .int .u64 (lineBits s 0 k : Nat) ∧ Hid (∀ j, j < k → bitOk s 0 j = true)) (fun _ i => n - (intOf i).toNat)
  case atStart => exact ⟨0, Nat.zero_le _, rfl, rfl, fun j hj => by omega⟩
  case round =>
    obtain ⟨k, hk, rfl, rfl, hok⟩ := hrel
    by_cases hlt : k < n
    · have hlt2 : k < s.size := by omega
      have hb := byte_get s k hlt2
      by_cases h0 : s[k] = 48
      · have hz : (s[k].toNat : Int) = 48 := by rw [h0]; rfl
        have hn2 : lineBits s 0 (k + 1) = lineBits s 0 k := by
          rw [lineBits, Nat.zero_add, hb, h0]; rfl
        have hok2 := Lib.hid (below_next hok.out (show bitOk s 0 k = true by unfold bitOk; rw [Nat.zero_add, hb, h0]; rfl))
        have HN := Lib.hid hn2
        have hlb : lineBits s 0 k < 18446744073709551616 := by
          have h5 := lineBits_lt s 0 k
          have h6 : 2 ^ k ≤ 2 ^ 64 := Nat.pow_le_pow_right (by omega) (by omega)
          have h7 : (2 : Nat) ^ 64 = 18446744073709551616 := by decide
          omega
        have hk64 : k < 64 := by omega
        clear hn2 hb h0
        go_wp2_with fail
        go_round
        case rel => exact ⟨k + 1, by omega, by go_num, by rw [HN.out]; exact congrArg (Value.int .u64) (by have := u64_or_nat (lineBits s 0 k) 0 hlb (by decide); rw [Nat.or_zero] at this; exact this), hok2⟩
        case measure => simp [intOf]; omega
      · by_cases h1 : s[k] = 49
        · have hz : (s[k].toNat : Int) = 49 := by rw [h1]; rfl
          have hn2 : lineBits s 0 (k + 1) = lineBits s 0 k ||| 2 ^ k := by
            rw [lineBits, Nat.zero_add, hb, h1]; rfl
          have hok2 := Lib.hid (below_next hok.out (show bitOk s 0 k = true by unfold bitOk; rw [Nat.zero_add, hb, h1]; rfl))
          have HN := Lib.hid hn2
          have hlb : lineBits s 0 k < 18446744073709551616 := by
            have h5 := lineBits_lt s 0 k
            have h6 : 2 ^ k ≤ 2 ^ 64 := Nat.pow_le_pow_right (by omega) (by omega)
            have h7 : (2 : Nat) ^ 64 = 18446744073709551616 := by decide
            omega
          have hk64 : k < 64 := by omega
          clear hn2 hb h0 h1
          go_wp2_with fail
          go_round
          case rel => exact ⟨k + 1, by omega, by go_num, by rw [HN.out, or_pow _ _ hlb hk64], hok2⟩
          case measure => simp [intOf]; omega
        · have hz0 : ((s[k].toNat : Int) == 48) = false := by
            rw [beq_eq_false_iff_ne]; intro e
            exact h0 (UInt8.toNat_inj.1 (by show s[k].toNat = 48; omega))
          have hz1 : ((s[k].toNat : Int) == 49) = false := by
            rw [beq_eq_false_iff_ne]; intro e
            exact h1 (UInt8.toNat_inj.1 (by show s[k].toNat = 49; omega))
          have hz2 : ((s[k].toNat : Int) != 48) = true := by rw [bne_iff_ne]; exact beq_eq_false_iff_ne.1 hz0
          have hz3 : ((s[k].toNat : Int) != 49) = true := by rw [bne_iff_ne]; exact beq_eq_false_iff_ne.1 hz1
          have hno : lnOk n s = false := lnOk_no hlt (by unfold bitOk; rw [Nat.zero_add, hb]; simp [h0, h1])
          have hE9 : Hid (rowVal n s = 0) := by
            show rowVal n s = 0
            unfold rowVal; rw [hno]; rfl
          replace hno := Lib.hid hno
          clear hb h0 h1
          go_wp2_with fail
          go_ret2
          exact ⟨ret_two hE9.out.symm hno.out.symm, rfl⟩
    · obtain rfl : k = n := by omega
      have hyes := lnOk_yes hsn'.out hok.out
      have hE9 : Hid (rowVal k s = lineBits s 0 k) := by
        show rowVal k s = _
        unfold rowVal; rw [hyes]; rfl
      replace hyes := Lib.hid hyes
      go_wp2_with fail
      go_ret2
      exact ⟨ret_two hE9.out.symm hyes.out.symm, rfl⟩
end Go.Proofs.YtieamjpfmjkchaaDoor
