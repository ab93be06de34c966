/-
  Lines of noughts and ones, written and read: what is read of what is written, and what is written of what is read. Conditions: none but those named.
-/
import Derived.Test.YtieamjpfmjkchaaDoorLtPrint
import Derived.Test.YtieamjpfmjkchaaDoorLtParse
namespace Go.Proofs.YtieamjpfmjkchaaDoor
open Go.Lt

theorem body_byte (us : List Nat) (n : Nat) : ∀ (k a b : Nat), a < k → b ≤ n → (bodyL us n k).getD (a * (n + 1) + b) 0 = if b < n then bitSign us a b else 10
  | 0, a, b, h, _ => absurd h (Nat.not_lt_zero a)
  | k + 1, a, b, ha, hb => by
    have hlen := bodyL_length us n k
    rw [bodyL, List.getD_eq_getElem?_getD]
    rcases Nat.lt_or_ge a k with h | h
    · have h1 : a * (n + 1) + b < (bodyL us n k).length := by
        rw [hlen]
        have : (a + 1) * (n + 1) ≤ k * (n + 1) := Nat.mul_le_mul_right _ h
        rw [Nat.succ_mul] at this
        omega
      rw [List.getElem?_append_left h1, ← List.getD_eq_getElem?_getD]
      exact body_byte us n k a b h hb
    · obtain rfl : a = k := by omega
      rw [List.getElem?_append_right (by rw [hlen]; omega), hlen, Nat.add_sub_cancel_left]
      unfold lineL
      rcases Nat.lt_or_ge b n with h2 | h2
      · rw [if_pos h2, List.getElem?_append_left (by simpa using h2), List.getElem?_map, List.getElem?_range h2]
        rfl
      · obtain rfl : b = n := by omega
        rw [if_neg (Nat.lt_irrefl _), List.getElem?_append_right (by simp), List.length_map, List.length_range, Nat.sub_self]
        rfl
theorem row_of_body {us : List Nat} {n : Nat} {s : ByteArray} (hs : s.data.toList = bodyL us n n) {a : Nat} (ha : a < n) : rowOk s n a = true ∧ (row us a < 2 ^ n → lineBits s (a * (n + 1)) n = row us a) := by
  have hb : ∀ b, b ≤ n → byteAt s (a * (n + 1) + b) = if b < n then bitSign us a b else 10 := fun b h => by
    unfold byteAt
    rw [hs]
    exact body_byte us n n a b ha h
  refine ⟨?_, fun hr => ?_⟩
  · unfold rowOk lineOk
    rw [Bool.and_eq_true, List.all_eq_true]
    refine ⟨fun b h => ?_, by rw [hb n (Nat.le_refl _), if_neg (Nat.lt_irrefl _)]; rfl⟩
    have h := List.mem_range.1 h
    unfold bitOk
    rw [hb b (Nat.le_of_lt h), if_pos h]
    unfold bitSign
    cases (row us a).testBit b <;> rfl
  · apply Nat.eq_of_testBit_eq
    intro b
    rw [lineBits_bit]
    rcases Nat.lt_or_ge b n with h | h
    · rw [hb b (Nat.le_of_lt h), if_pos h]
      unfold bitSign
      cases (row us a).testBit b <;> simp [h]
    · rw [Nat.testBit_lt_two_pow (Nat.lt_of_lt_of_le hr (Nat.pow_le_pow_right (by omega) h))]
      simp; omega
/-- what is written is read as it was -/
theorem read_written {us : List Nat} {n : Nat} {s : ByteArray} (hl : us.length = n) (hin : ∀ a, a < n → row us a < 2 ^ n) (hs : s.data.toList = bodyL us n n) : rowsOk s n = true ∧ rowsL s n = us := by
  refine ⟨?_, ?_⟩
  · unfold rowsOk
    rw [Bool.and_eq_true, List.all_eq_true, beq_iff_eq]
    refine ⟨?_, fun a ha => (row_of_body hs (List.mem_range.1 ha)).1⟩
    have := congrArg List.length hs
    rw [bodyL_length] at this
    simpa using this
  · apply List.ext_getElem (by rw [rowsL_length, hl])
    intro a h1 h2
    have e1 : (rowsL s n)[a] = row (rowsL s n) a := by
      unfold row
      rw [List.getD_eq_getElem?_getD, List.getElem?_eq_getElem h1]
      rfl
    have e2 : us[a] = row us a := by
      unfold row
      rw [List.getD_eq_getElem?_getD, List.getElem?_eq_getElem h2]
      rfl
    have ha : a < n := by omega
    rw [e1, e2, row_rowsL s n a ha]
    exact (row_of_body hs ha).2 (hin a ha)
/-- what is read is written as it was -/
theorem written_read {n : Nat} {s : ByteArray} (h : rowsOk s n = true) : bodyL (rowsL s n) n n = s.data.toList := by
  have hs : s.size = n * (n + 1) := by
    unfold rowsOk at h
    rw [Bool.and_eq_true, beq_iff_eq] at h
    exact h.1
  have hsl : s.data.toList.length = n * (n + 1) := by simpa using hs
  apply List.ext_getElem (by rw [bodyL_length, hsl])
  intro i h1 h2
  have hi : i < n * (n + 1) := by omega
  have ha : i / (n + 1) < n := Nat.div_lt_of_lt_mul (by rw [Nat.mul_comm]; exact hi)
  have hb : i % (n + 1) ≤ n := Nat.le_of_lt_succ (Nat.mod_lt i (Nat.succ_pos n))
  have ei : i / (n + 1) * (n + 1) + i % (n + 1) = i := by rw [Nat.mul_comm]; exact Nat.div_add_mod i (n + 1)
  have e1 : (bodyL (rowsL s n) n n)[i] = (bodyL (rowsL s n) n n).getD i 0 := by
    rw [List.getD_eq_getElem?_getD, List.getElem?_eq_getElem h1]; rfl
  have e2 : s.data.toList[i] = byteAt s i := by
    unfold byteAt
    rw [List.getD_eq_getElem?_getD, List.getElem?_eq_getElem h2]; rfl
  have k1 := body_byte (rowsL s n) n n (i / (n + 1)) (i % (n + 1)) ha hb
  rw [ei] at k1
  rw [e1, e2, k1]
  obtain ⟨r1, r2⟩ := rowOk_parts (rowsOk_row h ha)
  rcases Nat.lt_or_ge (i % (n + 1)) n with h3 | h3
  · rw [if_pos h3]
    unfold bitSign
    rw [row_rowsL s n _ ha, lineBits_bit, ei]
    unfold lineOk at r1
    rw [List.all_eq_true] at r1
    have r3 := r1 (i % (n + 1)) (List.mem_range.2 h3)
    unfold bitOk at r3
    rw [ei, Bool.or_eq_true, beq_iff_eq, beq_iff_eq] at r3
    rcases r3 with r3 | r3 <;> simp [h3, r3]
  · rw [if_neg (by omega)]
    have : i % (n + 1) = n := by omega
    rw [this] at ei
    rw [ei] at r2
    exact r2.symm
end Go.Proofs.YtieamjpfmjkchaaDoor
