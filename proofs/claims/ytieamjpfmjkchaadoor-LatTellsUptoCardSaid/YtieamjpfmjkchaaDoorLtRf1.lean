/-
  The walk of the reference's Name. Condition: a text that a machine can hold.
-/
import Derived.Test.YtieamjpfmjkchaaDoorLtAt
import Derived.Test.YtieamjpfmjkchaaDoorLtRef
namespace Go.Proofs.YtieamjpfmjkchaaDoor
open Go.RowKit Go.Shelf Go.Lt

def okR (s : ByteArray) (j : Nat) : Bool := letterI (byteAt s j).toNat || (decide (0 < j) && digitI (byteAt s j).toNat)
theorem nameR {s : ByteArray} (h1 : 1 ≤ s.size) (h2 : s.size ≤ 16) (h : ∀ j, j < s.size → okR s j = true) : nameB s = true := by
  unfold nameB
  rw [Bool.and_eq_true, Bool.and_eq_true, Bool.and_eq_true, decide_eq_true_eq, decide_eq_true_eq, List.all_eq_true]
  refine ⟨⟨⟨h1, h2⟩, ?_⟩, fun j hj => ?_⟩
  · have := h 0 (by omega)
    unfold okR byteAt at this
    simpa using this
  · have := h j (List.mem_range.1 hj)
    unfold okR byteAt at this
    unfold okAt
    rw [Bool.or_eq_true] at this ⊢
    rcases this with h3 | h3
    · exact .inl h3
    · rw [Bool.and_eq_true] at h3
      exact .inr h3.2
theorem nameB_no {s : ByteArray} (h : ¬ (1 ≤ s.size ∧ s.size ≤ 16 ∧ letterI (byteAt s 0).toNat = true ∧ ∀ j, j < s.size → okAt s j = true)) : nameB s = false := by
  rw [← Bool.not_eq_true]
  intro e
  unfold nameB at e
  rw [Bool.and_eq_true, Bool.and_eq_true, Bool.and_eq_true, decide_eq_true_eq, decide_eq_true_eq, List.all_eq_true] at e
  exact h ⟨e.1.1.1, e.1.1.2, e.1.2, fun j hj => e.2 j (List.mem_range.2 hj)⟩
theorem nameR_no {s : ByteArray} {k : Nat} (hk : k < s.size) (h : okR s k = false) : nameB s = false := nameB_no fun ⟨_, _, h3, h4⟩ => by
  have h5 := h4 k hk
  unfold okR at h
  unfold okAt at h5
  rw [Bool.or_eq_false_iff] at h
  have h6 : letterI (s.data.toList.getD k 0).toNat = false := h.1
  rw [h6] at h5
  by_cases e : k = 0
  · subst e
    have h7 : letterI (byteAt s 0).toNat = false := h.1
    rw [h7] at h3; cases h3
  · have : decide (0 < k) = true := by simp; omega
    rw [this] at h
    have h7 := h.2
    rw [Bool.true_and] at h7
    have h8 : digitI (s.data.toList.getD k 0).toNat = false := h7
    rw [h8] at h5
    cases h5

set_option maxRecDepth 100000 in
set_option maxHeartbeats 4000000 in
theorem refname_any (s : ByteArray) (w : World) (hs : s.size ≤ 9223372036854775807) : Calls Tryd.prog 20 #[.string s] w fun e w' => e = .returned (.bool (nameB s)) ∧ w' = w := by
  by_cases hsz : 1 ≤ s.size ∧ s.size ≤ 16
  case neg =>
    have hE : Hid (nameB s = false) := nameB_no fun h => hsz ⟨h.1, h.2.1⟩
    by_cases h1 : 1 ≤ s.size
    · have h2 : 16 < s.size := by omega
      clear hsz
      go_enter Tryd.func20, Tryd.ntmps20
      go_wp2
      go_ret
      exact ⟨ret_bool hE.out.symm, rfl⟩
    · have h2 : s.size = 0 := by omega
      clear hsz
      go_enter Tryd.func20, Tryd.ntmps20
      go_wp2
      go_ret
      exact ⟨ret_bool hE.out.symm, rfl⟩
  obtain ⟨z1, z2⟩ := hsz
  go_enter Tryd.func20, Tryd.ntmps20
  go_wp2_with fail
  go_loop [3] (fun i => ∃ k : Nat, k ≤ s.size ∧ i = .int .i64 k ∧ Hid (∀ j, j < k → okR s j = true)) (fun i => s.size - (intOf i).toNat)
  case atStart => exact ⟨0, Nat.zero_le _, rfl, fun j hj => by omega⟩
  case round =>
    obtain ⟨k, hk, rfl, hok⟩ := hrel
    by_cases hlt : k < s.size
    · have hb := get_byte s k hlt
      have hlt256 : s[k].toNat < 256 := s[k].toNat_lt
      have hy : okR s k = (letterI s[k].toNat || (decide (0 < k) && digitI s[k].toNat)) := by
        unfold okR byteAt; rw [hb]
      replace hy := Lib.hid hy
      have hnext : Hid (okR s k = true → ∀ j, j < k + 1 → okR s j = true) := fun h j hj => by
        by_cases e : j < k
        · exact hok.out j e
        · obtain rfl : j = k := by omega
          exact h
      clear hb
      generalize hc : (s[k].toNat : Int) = c at hy
      have hcr := Lib.hid hc
      obtain i0 | i1 | i2 | i3 | i4 | i5 | i6 : c < 48 ∨ (48 ≤ c ∧ c ≤ 57) ∨ (58 ≤ c ∧ c ≤ 64) ∨ (65 ≤ c ∧ c ≤ 90) ∨ (91 ≤ c ∧ c ≤ 96) ∨ (97 ≤ c ∧ c ≤ 122) ∨ 122 < c := by omega
      · by_cases hk0 : k = 0
        · subst hk0
          have q0 : decide (97 ≤ c) = false := decide_eq_false (by omega)
          have q1 : decide (c ≤ 122) = true := decide_eq_true (by omega)
          have q2 : decide (65 ≤ c) = false := decide_eq_false (by omega)
          have q3 : decide (c ≤ 90) = true := decide_eq_true (by omega)
          have q4 : decide (48 ≤ c) = false := decide_eq_false (by omega)
          have q5 : decide (c ≤ 57) = true := decide_eq_true (by omega)
          have hE : Hid (nameB s = false) := nameR_no hlt (by rw [hy.out]; unfold letterI; simp; omega)
          clear hy hnext hcr
          go_wp2
          go_ret
          exact ⟨ret_bool hE.out.symm, rfl⟩
        · have hkp : 0 < k := by omega
          have hkz : ((k : Int) == 0) = false := beq_eq_false_iff_ne.2 (by omega)
          have q0 : decide (97 ≤ c) = false := decide_eq_false (by omega)
          have q1 : decide (c ≤ 122) = true := decide_eq_true (by omega)
          have q2 : decide (65 ≤ c) = false := decide_eq_false (by omega)
          have q3 : decide (c ≤ 90) = true := decide_eq_true (by omega)
          have q4 : decide (48 ≤ c) = false := decide_eq_false (by omega)
          have q5 : decide (c ≤ 57) = true := decide_eq_true (by omega)
          have hE : Hid (nameB s = false) := nameR_no hlt (by rw [hy.out]; unfold letterI digitI; simp; omega)
          clear hy hnext hcr
          go_wp2
          go_ret
          exact ⟨ret_bool hE.out.symm, rfl⟩
      · by_cases hk0 : k = 0
        · subst hk0
          have q0 : decide (97 ≤ c) = false := decide_eq_false (by omega)
          have q1 : decide (c ≤ 122) = true := decide_eq_true (by omega)
          have q2 : decide (65 ≤ c) = false := decide_eq_false (by omega)
          have q3 : decide (c ≤ 90) = true := decide_eq_true (by omega)
          have q4 : decide (48 ≤ c) = true := decide_eq_true (by omega)
          have q5 : decide (c ≤ 57) = true := decide_eq_true (by omega)
          have hE : Hid (nameB s = false) := nameR_no hlt (by rw [hy.out]; unfold letterI; simp; omega)
          clear hy hnext hcr
          go_wp2
          go_ret
          exact ⟨ret_bool hE.out.symm, rfl⟩
        · have hkp : 0 < k := by omega
          have hkz : ((k : Int) == 0) = false := beq_eq_false_iff_ne.2 (by omega)
          have q0 : decide (97 ≤ c) = false := decide_eq_false (by omega)
          have q1 : decide (c ≤ 122) = true := decide_eq_true (by omega)
          have q2 : decide (65 ≤ c) = false := decide_eq_false (by omega)
          have q3 : decide (c ≤ 90) = true := decide_eq_true (by omega)
          have q4 : decide (48 ≤ c) = true := decide_eq_true (by omega)
          have q5 : decide (c ≤ 57) = true := decide_eq_true (by omega)
          have hE := Lib.hid (hnext.out (by rw [hy.out]; unfold digitI; simp; omega))
          clear hy hnext hcr
          go_wp2
          go_round
          case rel => exact ⟨k + 1, by omega, by go_num, hE⟩
          case measure => simp [intOf]; omega
      · by_cases hk0 : k = 0
        · subst hk0
          have q0 : decide (97 ≤ c) = false := decide_eq_false (by omega)
          have q1 : decide (c ≤ 122) = true := decide_eq_true (by omega)
          have q2 : decide (65 ≤ c) = false := decide_eq_false (by omega)
          have q3 : decide (c ≤ 90) = true := decide_eq_true (by omega)
          have q4 : decide (48 ≤ c) = true := decide_eq_true (by omega)
          have q5 : decide (c ≤ 57) = false := decide_eq_false (by omega)
          have hE : Hid (nameB s = false) := nameR_no hlt (by rw [hy.out]; unfold letterI; simp; omega)
          clear hy hnext hcr
          go_wp2
          go_ret
          exact ⟨ret_bool hE.out.symm, rfl⟩
        · have hkp : 0 < k := by omega
          have hkz : ((k : Int) == 0) = false := beq_eq_false_iff_ne.2 (by omega)
          have q0 : decide (97 ≤ c) = false := decide_eq_false (by omega)
          have q1 : decide (c ≤ 122) = true := decide_eq_true (by omega)
          have q2 : decide (65 ≤ c) = false := decide_eq_false (by omega)
          have q3 : decide (c ≤ 90) = true := decide_eq_true (by omega)
          have q4 : decide (48 ≤ c) = true := decide_eq_true (by omega)
          have q5 : decide (c ≤ 57) = false := decide_eq_false (by omega)
          have hE : Hid (nameB s = false) := nameR_no hlt (by rw [hy.out]; unfold letterI digitI; simp; omega)
          clear hy hnext hcr
          go_wp2
          go_ret
          exact ⟨ret_bool hE.out.symm, rfl⟩
      · have q0 : decide (97 ≤ c) = false := decide_eq_false (by omega)
        have q1 : decide (c ≤ 122) = true := decide_eq_true (by omega)
        have q2 : decide (65 ≤ c) = true := decide_eq_true (by omega)
        have q3 : decide (c ≤ 90) = true := decide_eq_true (by omega)
        have q4 : decide (48 ≤ c) = true := decide_eq_true (by omega)
        have q5 : decide (c ≤ 57) = false := decide_eq_false (by omega)
        have hE := Lib.hid (hnext.out (by rw [hy.out]; unfold letterI; simp; omega))
        clear hy hnext hcr
        go_wp2
        go_round
        case rel => exact ⟨k + 1, by omega, by go_num, hE⟩
        case measure => simp [intOf]; omega
      · by_cases hk0 : k = 0
        · subst hk0
          have q0 : decide (97 ≤ c) = false := decide_eq_false (by omega)
          have q1 : decide (c ≤ 122) = true := decide_eq_true (by omega)
          have q2 : decide (65 ≤ c) = true := decide_eq_true (by omega)
          have q3 : decide (c ≤ 90) = false := decide_eq_false (by omega)
          have q4 : decide (48 ≤ c) = true := decide_eq_true (by omega)
          have q5 : decide (c ≤ 57) = false := decide_eq_false (by omega)
          have hE : Hid (nameB s = false) := nameR_no hlt (by rw [hy.out]; unfold letterI; simp; omega)
          clear hy hnext hcr
          go_wp2
          go_ret
          exact ⟨ret_bool hE.out.symm, rfl⟩
        · have hkp : 0 < k := by omega
          have hkz : ((k : Int) == 0) = false := beq_eq_false_iff_ne.2 (by omega)
          have q0 : decide (97 ≤ c) = false := decide_eq_false (by omega)
          have q1 : decide (c ≤ 122) = true := decide_eq_true (by omega)
          have q2 : decide (65 ≤ c) = true := decide_eq_true (by omega)
          have q3 : decide (c ≤ 90) = false := decide_eq_false (by omega)
          have q4 : decide (48 ≤ c) = true := decide_eq_true (by omega)
          have q5 : decide (c ≤ 57) = false := decide_eq_false (by omega)
          have hE : Hid (nameB s = false) := nameR_no hlt (by rw [hy.out]; unfold letterI digitI; simp; omega)
          clear hy hnext hcr
          go_wp2
          go_ret
          exact ⟨ret_bool hE.out.symm, rfl⟩
      · have q0 : decide (97 ≤ c) = true := decide_eq_true (by omega)
        have q1 : decide (c ≤ 122) = true := decide_eq_true (by omega)
        have q2 : decide (65 ≤ c) = true := decide_eq_true (by omega)
        have q3 : decide (c ≤ 90) = false := decide_eq_false (by omega)
        have q4 : decide (48 ≤ c) = true := decide_eq_true (by omega)
        have q5 : decide (c ≤ 57) = false := decide_eq_false (by omega)
        have hE := Lib.hid (hnext.out (by rw [hy.out]; unfold letterI; simp; omega))
        clear hy hnext hcr
        go_wp2
        go_round
        case rel => exact ⟨k + 1, by omega, by go_num, hE⟩
        case measure => simp [intOf]; omega
      · by_cases hk0 : k = 0
        · subst hk0
          have q0 : decide (97 ≤ c) = true := decide_eq_true (by omega)
          have q1 : decide (c ≤ 122) = false := decide_eq_false (by omega)
          have q2 : decide (65 ≤ c) = true := decide_eq_true (by omega)
          have q3 : decide (c ≤ 90) = false := decide_eq_false (by omega)
          have q4 : decide (48 ≤ c) = true := decide_eq_true (by omega)
          have q5 : decide (c ≤ 57) = false := decide_eq_false (by omega)
          have hE : Hid (nameB s = false) := nameR_no hlt (by rw [hy.out]; unfold letterI; simp; omega)
          clear hy hnext hcr
          go_wp2
          go_ret
          exact ⟨ret_bool hE.out.symm, rfl⟩
        · have hkp : 0 < k := by omega
          have hkz : ((k : Int) == 0) = false := beq_eq_false_iff_ne.2 (by omega)
          have q0 : decide (97 ≤ c) = true := decide_eq_true (by omega)
          have q1 : decide (c ≤ 122) = false := decide_eq_false (by omega)
          have q2 : decide (65 ≤ c) = true := decide_eq_true (by omega)
          have q3 : decide (c ≤ 90) = false := decide_eq_false (by omega)
          have q4 : decide (48 ≤ c) = true := decide_eq_true (by omega)
          have q5 : decide (c ≤ 57) = false := decide_eq_false (by omega)
          have hE : Hid (nameB s = false) := nameR_no hlt (by rw [hy.out]; unfold letterI digitI; simp; omega)
          clear hy hnext hcr
          go_wp2
          go_ret
          exact ⟨ret_bool hE.out.symm, rfl⟩
    · have hE : Hid (nameB s = true) := nameR z1 z2 fun j hj => hok.out j (by omega)
      go_wp2
      go_ret
      exact ⟨ret_bool hE.out.symm, rfl⟩
end Go.Proofs.YtieamjpfmjkchaaDoor
