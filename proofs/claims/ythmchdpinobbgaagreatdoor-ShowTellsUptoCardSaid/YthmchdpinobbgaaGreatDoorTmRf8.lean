/-
  The reference's Binder, and how many kids a kind has. No condition.
  The reference's Same of two terms. Conditions: both can be read; their sizes are below 2^62.
  The reference's Name, Has, Keyword, Word. Conditions: a text that a machine can hold.
  The reference's right of a node, of all nodes, and Right. Conditions: the term can be read; its size is below 2^62.
  The reference's right of all nodes, and Right. Conditions: the term can be read; its size is below 2^62.
-/
import Derived.Test.YthmchdpinobbgaaGreatDoorTmRf1
import Derived.Deep.QuietTactic
import Derived.BigQuiet
import Derived.StillTailTactics
import Derived.Test.YthmchdpinobbgaaGreatDoorTmWords
import Derived.Test.YthmchdpinobbgaaGreatDoorTmFr
import Derived.Deep.RegionHeld3
import Derived.Deep.DrawnRows
import Derived.Test.YthmchdpinobbgaaGreatDoorTmRightM
import Derived.Deep.RegionWith
namespace Go.Proofs.YthmchdpinobbgaaGreatDoor
open Go.RowKit Go.Shelf Go.Tm

theorem refbinder_any (k n : Int) (s : ByteArray) (v : Value) (w : World) : Calls Tryz.prog 76 #[.agg #[.int .i64 k, .string s, .int .i64 n, v]] w fun e w' => e = .returned (.bool (binderB k)) ∧ Below w.heap.size w w' := by
  have hb := Lib.hid (later_alloc w (.cells #[.int .i64 k, .string s, .int .i64 n, v] 35))
  cases h1 : (k == 3) with
  | true =>
    have hE : Hid (binderB k = true) := by show _ = _; unfold binderB; rw [h1]; rfl
    go_enter Tryz.func76, Tryz.ntmps76
    go_wp2
    go_ret
    exact ⟨ret_bool hE.out.symm, hb.out⟩
  | false =>
  cases h2 : (k == 5) with
  | true =>
    have hE : Hid (binderB k = true) := by show _ = _; unfold binderB; rw [h2]; simp
    go_enter Tryz.func76, Tryz.ntmps76
    go_wp2
    go_ret
    exact ⟨ret_bool hE.out.symm, hb.out⟩
  | false =>
  cases h3 : (k == 9) with
  | true =>
    have hE : Hid (binderB k = true) := by show _ = _; unfold binderB; rw [h3]; simp
    go_enter Tryz.func76, Tryz.ntmps76
    go_wp2
    go_ret
    exact ⟨ret_bool hE.out.symm, hb.out⟩
  | false =>
    have hE : Hid (binderB k = false) := by show _ = _; unfold binderB; rw [h1, h2, h3]; rfl
    go_enter Tryz.func76, Tryz.ntmps76
    go_wp2
    go_ret
    exact ⟨ret_bool hE.out.symm, hb.out⟩


def manyI (k : Int) : Int := if 1 ≤ k ∧ k ≤ 13 then (kidsTab.getD k.toNat 0 : Nat) else -1
theorem refmany_1 (w : World) : Calls Tryz.prog 74 #[.int .i64 1] w fun e w' => e = .returned (.int .i64 0) ∧ w = w' := by
  go_enter Tryz.func74, Tryz.ntmps74
  go_wp2
  go_ret
  exact ⟨rfl, rfl⟩
theorem refmany_2 (w : World) : Calls Tryz.prog 74 #[.int .i64 2] w fun e w' => e = .returned (.int .i64 0) ∧ w = w' := by
  go_enter Tryz.func74, Tryz.ntmps74
  go_wp2
  go_ret
  exact ⟨rfl, rfl⟩
theorem refmany_3 (w : World) : Calls Tryz.prog 74 #[.int .i64 3] w fun e w' => e = .returned (.int .i64 1) ∧ w = w' := by
  go_enter Tryz.func74, Tryz.ntmps74
  go_wp2
  go_ret
  exact ⟨rfl, rfl⟩
theorem refmany_4 (w : World) : Calls Tryz.prog 74 #[.int .i64 4] w fun e w' => e = .returned (.int .i64 2) ∧ w = w' := by
  go_enter Tryz.func74, Tryz.ntmps74
  go_wp2
  go_ret
  exact ⟨rfl, rfl⟩
theorem refmany_5 (w : World) : Calls Tryz.prog 74 #[.int .i64 5] w fun e w' => e = .returned (.int .i64 2) ∧ w = w' := by
  go_enter Tryz.func74, Tryz.ntmps74
  go_wp2
  go_ret
  exact ⟨rfl, rfl⟩
theorem refmany_6 (w : World) : Calls Tryz.prog 74 #[.int .i64 6] w fun e w' => e = .returned (.int .i64 3) ∧ w = w' := by
  go_enter Tryz.func74, Tryz.ntmps74
  go_wp2
  go_ret
  exact ⟨rfl, rfl⟩
theorem refmany_7 (w : World) : Calls Tryz.prog 74 #[.int .i64 7] w fun e w' => e = .returned (.int .i64 2) ∧ w = w' := by
  go_enter Tryz.func74, Tryz.ntmps74
  go_wp2
  go_ret
  exact ⟨rfl, rfl⟩
theorem refmany_8 (w : World) : Calls Tryz.prog 74 #[.int .i64 8] w fun e w' => e = .returned (.int .i64 1) ∧ w = w' := by
  go_enter Tryz.func74, Tryz.ntmps74
  go_wp2
  go_ret
  exact ⟨rfl, rfl⟩
theorem refmany_9 (w : World) : Calls Tryz.prog 74 #[.int .i64 9] w fun e w' => e = .returned (.int .i64 2) ∧ w = w' := by
  go_enter Tryz.func74, Tryz.ntmps74
  go_wp2
  go_ret
  exact ⟨rfl, rfl⟩
theorem refmany_10 (w : World) : Calls Tryz.prog 74 #[.int .i64 10] w fun e w' => e = .returned (.int .i64 1) ∧ w = w' := by
  go_enter Tryz.func74, Tryz.ntmps74
  go_wp2
  go_ret
  exact ⟨rfl, rfl⟩
theorem refmany_11 (w : World) : Calls Tryz.prog 74 #[.int .i64 11] w fun e w' => e = .returned (.int .i64 2) ∧ w = w' := by
  go_enter Tryz.func74, Tryz.ntmps74
  go_wp2
  go_ret
  exact ⟨rfl, rfl⟩
theorem refmany_12 (w : World) : Calls Tryz.prog 74 #[.int .i64 12] w fun e w' => e = .returned (.int .i64 2) ∧ w = w' := by
  go_enter Tryz.func74, Tryz.ntmps74
  go_wp2
  go_ret
  exact ⟨rfl, rfl⟩
theorem refmany_13 (w : World) : Calls Tryz.prog 74 #[.int .i64 13] w fun e w' => e = .returned (.int .i64 2) ∧ w = w' := by
  go_enter Tryz.func74, Tryz.ntmps74
  go_wp2
  go_ret
  exact ⟨rfl, rfl⟩
theorem refmany_none (k : Int) (w : World) (h : ¬ (1 ≤ k ∧ k ≤ 13)) : Calls Tryz.prog 74 #[.int .i64 k] w fun e w' => e = .returned (.int .i64 (-1)) ∧ w = w' := by
  have d1 : (k == 1) = false := by rw [beq_eq_false_iff_ne]; omega
  have d2 : (k == 2) = false := by rw [beq_eq_false_iff_ne]; omega
  have d3 : (k == 3) = false := by rw [beq_eq_false_iff_ne]; omega
  have d4 : (k == 4) = false := by rw [beq_eq_false_iff_ne]; omega
  have d5 : (k == 5) = false := by rw [beq_eq_false_iff_ne]; omega
  have d6 : (k == 6) = false := by rw [beq_eq_false_iff_ne]; omega
  have d7 : (k == 7) = false := by rw [beq_eq_false_iff_ne]; omega
  have d8 : (k == 8) = false := by rw [beq_eq_false_iff_ne]; omega
  have d9 : (k == 9) = false := by rw [beq_eq_false_iff_ne]; omega
  have d10 : (k == 10) = false := by rw [beq_eq_false_iff_ne]; omega
  have d11 : (k == 11) = false := by rw [beq_eq_false_iff_ne]; omega
  have d12 : (k == 12) = false := by rw [beq_eq_false_iff_ne]; omega
  have d13 : (k == 13) = false := by rw [beq_eq_false_iff_ne]; omega
  clear h
  go_enter Tryz.func74, Tryz.ntmps74
  go_wp2
  go_ret
  exact ⟨rfl, rfl⟩
theorem refmany_any (k : Int) (w : World) : Calls Tryz.prog 74 #[.int .i64 k] w fun e w' => e = .returned (.int .i64 (manyI k)) ∧ w = w' := by
  by_cases h : 1 ≤ k ∧ k ≤ 13
  · obtain rfl | rfl | rfl | rfl | rfl | rfl | rfl | rfl | rfl | rfl | rfl | rfl | rfl : k = 1 ∨ k = 2 ∨ k = 3 ∨ k = 4 ∨ k = 5 ∨ k = 6 ∨ k = 7 ∨ k = 8 ∨ k = 9 ∨ k = 10 ∨ k = 11 ∨ k = 12 ∨ k = 13 := by omega
    · exact refmany_1 w
    · exact refmany_2 w
    · exact refmany_3 w
    · exact refmany_4 w
    · exact refmany_5 w
    · exact refmany_6 w
    · exact refmany_7 w
    · exact refmany_8 w
    · exact refmany_9 w
    · exact refmany_10 w
    · exact refmany_11 w
    · exact refmany_12 w
    · exact refmany_13 w
  · unfold manyI
    rw [if_neg h]
    exact refmany_none k w h
end Go.Proofs.YthmchdpinobbgaaGreatDoor
namespace Go.Tm
theorem eqTs_false : ∀ (ts us : List T) (k : Nat), k < ts.length → eqT (ts.getD k default) (us.getD k default) = false → eqTs ts us = false
  | [], _, _, h, _ => absurd h (Nat.not_lt_zero _)
  | t :: ts, us, 0, _, h => by
    rw [eqTs, show eqT t (us.getD 0 default) = false from h, Bool.false_and]
  | t :: ts, us, k + 1, hk, h => by
    rw [eqTs, eqTs_false ts (us.drop 1) k (by simpa using hk) (by
      rw [show (us.drop 1).getD k default = us.getD (k + 1) default by
        rw [List.getD_eq_getElem?_getD, List.getElem?_drop, List.getD_eq_getElem?_getD, Nat.add_comm]]
      exact h), Bool.and_false]
theorem eqTs_true : ∀ (ts us : List T), (∀ k, k < ts.length → eqT (ts.getD k default) (us.getD k default) = true) → eqTs ts us = true
  | [], _, _ => by rw [eqTs]
  | t :: ts, us, h => by
    rw [eqTs, show eqT t (us.getD 0 default) = true from h 0 (by simp), eqTs_true ts (us.drop 1) (fun k hk => by
      rw [show (us.drop 1).getD k default = us.getD (k + 1) default by
        rw [List.getD_eq_getElem?_getD, List.getElem?_drop, List.getD_eq_getElem?_getD, Nat.add_comm]]
      exact h (k + 1) (by simpa using hk)), Bool.and_true]
theorem eqT_unfold (a u : T) : eqT a u = (alikeB a u && eqTs a.kids u.kids) := by
  cases a with
  | node k s n ks => rw [eqT]; rfl
end Go.Tm
namespace Go.Proofs.YthmchdpinobbgaaGreatDoor
open Go.RowKit Go.Shelf Go.Tm
attribute [local go_sem] Oper.semAt_some

end Go.Proofs.YthmchdpinobbgaaGreatDoor
namespace Go.Proofs.YthmchdpinobbgaaGreatDoor
open Go.RowKit Go.Lx
attribute [local go_sem ↓] Go.wp_at_zero Go.wp_at_succ

def strOf (t : List UInt8) : ByteArray := ⟨t.toArray⟩
theorem data_strOf (t : List UInt8) : (strOf t).data.toList = t := by
  show t.toArray.toList = t; simp
/-! Name -/
def okR (s : ByteArray) (j : Nat) : Bool := isLetter (byteAt s j) || (decide (0 < j) && isDigit (byteAt s j))
theorem nameR {s : ByteArray} (h1 : 1 ≤ s.size) (h2 : s.size ≤ 16) (h : ∀ j, j < s.size → okR s j = true) : nameB s = true := by
  refine (nameB_iff s).2 ⟨h1, h2, ?_, fun j hj => ?_⟩
  · have := h 0 (by omega)
    unfold okR at this
    simpa using this
  · have := h j hj
    unfold okR at this
    unfold isAlnum
    cases hl : isLetter (byteAt s j) with
    | true => rfl
    | false => rw [hl] at this; simp at this; simp [this.2]
theorem nameR_no {s : ByteArray} {k : Nat} (hk : k < s.size) (h : okR s k = false) : nameB s = false := nameB_no fun ⟨_, _, h3, h4⟩ => by
  have h5 := h4 k hk
  unfold okR at h
  unfold isAlnum at h5
  rw [Bool.or_eq_false_iff] at h
  rw [h.1] at h5
  by_cases e : k = 0
  · subst e; rw [h.1] at h3; cases h3
  · have : decide (0 < k) = true := by simp; omega
    rw [this] at h
    simp at h h5
    rw [h.2] at h5; cases h5
theorem class_of (c : UInt8) : (isLetter c = letterI c.toNat) ∧ (isDigit c = digitI c.toNat) := ⟨(letterI_eq c).symm, (digitI_eq c).symm⟩

set_option maxRecDepth 100000 in
set_option maxHeartbeats 4000000 in
theorem refname_any (s : ByteArray) (w : World) (hs : s.size ≤ 9223372036854775807) : Calls Tryz.prog 98 #[.string s] w fun e w' => e = .returned (.bool (nameB s)) ∧ w' = w := by
  by_cases hsz : 1 ≤ s.size ∧ s.size ≤ 16
  case neg =>
    have hE : Hid (nameB s = false) := nameB_no fun h => hsz ⟨h.1, h.2.1⟩
    by_cases h1 : 1 ≤ s.size
    · have h2 : 16 < s.size := by omega
      clear hsz
      go_enter Tryz.func98, Tryz.ntmps98
      go_wp2
      go_ret
      exact ⟨ret_bool hE.out.symm, rfl⟩
    · have h2 : s.size = 0 := by omega
      clear hsz
      go_enter Tryz.func98, Tryz.ntmps98
      go_wp2
      go_ret
      exact ⟨ret_bool hE.out.symm, rfl⟩
  obtain ⟨z1, z2⟩ := hsz
  go_enter Tryz.func98, Tryz.ntmps98
  go_wp2_with fail
  go_loop [3] (fun i => ∃ k : Nat, k ≤ s.size ∧ i = .int .i64 k ∧ Hid (∀ j, j < k → okR s j = true)) (fun i => s.size - (intOf i).toNat)
  case atStart => exact ⟨0, Nat.zero_le _, rfl, fun j hj => by omega⟩
  case round =>
    obtain ⟨k, hk, rfl, hok⟩ := hrel
    by_cases hlt : k < s.size
    · have hb := get_byte s k hlt
      obtain ⟨hcl, hcd⟩ := class_of s[k]
      have hlt256 : s[k].toNat < 256 := s[k].toNat_lt
      have hy : okR s k = (letterI s[k].toNat || (decide (0 < k) && digitI s[k].toNat)) := by
        unfold okR; rw [← hb, hcl, hcd]
      replace hy := Lib.hid hy
      have hnext : Hid (okR s k = true → ∀ j, j < k + 1 → okR s j = true) := fun h j hj => by
        by_cases e : j < k
        · exact hok.out j e
        · obtain rfl : j = k := by omega
          exact h
      clear hb hcl hcd
      generalize hc : (s[k].toNat : Int) = c at hy
      have hcr := Lib.hid hc
      obtain i0 | i1 | i2 | i3 | i4 | i5 | i6 : c < 48 ∨ (48 ≤ c ∧ c ≤ 57) ∨ (58 ≤ c ∧ c ≤ 64) ∨ (65 ≤ c ∧ c ≤ 90) ∨ (91 ≤ c ∧ c ≤ 96) ∨ (97 ≤ c ∧ c ≤ 122) ∨ 122 < c := by omega
      · by_cases hk0 : k = 0
        · subst hk0
          have q0 : decide (97 ≤ c) = false := decide_eq_false (by omega)
          have q1 : decide (c ≤ 122) = true := decide_eq_true (by omega)
          have q2 : decide (65 ≤ c) = false := decide_eq_false (by omega)
          have q3 : decide (c ≤ 90) = true := decide_eq_true (by omega)
          have q4 : decide (48 ≤ c) = false := decide_eq_false (by omega)
          have q5 : decide (c ≤ 57) = true := decide_eq_true (by omega)
          have hE : Hid (nameB s = false) := nameR_no hlt (by rw [hy.out]; unfold letterI; simp; omega)
          clear hy hnext hcr
          go_wp2
          go_ret
          exact ⟨ret_bool hE.out.symm, rfl⟩
        · have hkp : 0 < k := by omega
          have hkz : ((k : Int) == 0) = false := beq_eq_false_iff_ne.2 (by omega)
          have q0 : decide (97 ≤ c) = false := decide_eq_false (by omega)
          have q1 : decide (c ≤ 122) = true := decide_eq_true (by omega)
          have q2 : decide (65 ≤ c) = false := decide_eq_false (by omega)
          have q3 : decide (c ≤ 90) = true := decide_eq_true (by omega)
          have q4 : decide (48 ≤ c) = false := decide_eq_false (by omega)
          have q5 : decide (c ≤ 57) = true := decide_eq_true (by omega)
          have hE : Hid (nameB s = false) := nameR_no hlt (by rw [hy.out]; unfold letterI digitI; simp; omega)
          clear hy hnext hcr
          go_wp2
          go_ret
          exact ⟨ret_bool hE.out.symm, rfl⟩
      · by_cases hk0 : k = 0
        · subst hk0
          have q0 : decide (97 ≤ c) = false := decide_eq_false (by omega)
          have q1 : decide (c ≤ 122) = true := decide_eq_true (by omega)
          have q2 : decide (65 ≤ c) = false := decide_eq_false (by omega)
          have q3 : decide (c ≤ 90) = true := decide_eq_true (by omega)
          have q4 : decide (48 ≤ c) = true := decide_eq_true (by omega)
          have q5 : decide (c ≤ 57) = true := decide_eq_true (by omega)
          have hE : Hid (nameB s = false) := nameR_no hlt (by rw [hy.out]; unfold letterI; simp; omega)
          clear hy hnext hcr
          go_wp2
          go_ret
          exact ⟨ret_bool hE.out.symm, rfl⟩
        · have hkp : 0 < k := by omega
          have hkz : ((k : Int) == 0) = false := beq_eq_false_iff_ne.2 (by omega)
          have q0 : decide (97 ≤ c) = false := decide_eq_false (by omega)
          have q1 : decide (c ≤ 122) = true := decide_eq_true (by omega)
          have q2 : decide (65 ≤ c) = false := decide_eq_false (by omega)
          have q3 : decide (c ≤ 90) = true := decide_eq_true (by omega)
          have q4 : decide (48 ≤ c) = true := decide_eq_true (by omega)
          have q5 : decide (c ≤ 57) = true := decide_eq_true (by omega)
          have hE := Lib.hid (hnext.out (by rw [hy.out]; unfold digitI; simp; omega))
          clear hy hnext hcr
          go_wp2
          go_round
          case rel => exact ⟨k + 1, by omega, by go_num, hE⟩
          case measure => simp [intOf]; omega
      · by_cases hk0 : k = 0
        · subst hk0
          have q0 : decide (97 ≤ c) = false := decide_eq_false (by omega)
          have q1 : decide (c ≤ 122) = true := decide_eq_true (by omega)
          have q2 : decide (65 ≤ c) = false := decide_eq_false (by omega)
          have q3 : decide (c ≤ 90) = true := decide_eq_true (by omega)
          have q4 : decide (48 ≤ c) = true := decide_eq_true (by omega)
          have q5 : decide (c ≤ 57) = false := decide_eq_false (by omega)
          have hE : Hid (nameB s = false) := nameR_no hlt (by rw [hy.out]; unfold letterI; simp; omega)
          clear hy hnext hcr
          go_wp2
          go_ret
          exact ⟨ret_bool hE.out.symm, rfl⟩
        · have hkp : 0 < k := by omega
          have hkz : ((k : Int) == 0) = false := beq_eq_false_iff_ne.2 (by omega)
          have q0 : decide (97 ≤ c) = false := decide_eq_false (by omega)
          have q1 : decide (c ≤ 122) = true := decide_eq_true (by omega)
          have q2 : decide (65 ≤ c) = false := decide_eq_false (by omega)
          have q3 : decide (c ≤ 90) = true := decide_eq_true (by omega)
          have q4 : decide (48 ≤ c) = true := decide_eq_true (by omega)
          have q5 : decide (c ≤ 57) = false := decide_eq_false (by omega)
          have hE : Hid (nameB s = false) := nameR_no hlt (by rw [hy.out]; unfold letterI digitI; simp; omega)
          clear hy hnext hcr
          go_wp2
          go_ret
          exact ⟨ret_bool hE.out.symm, rfl⟩
      · have q0 : decide (97 ≤ c) = false := decide_eq_false (by omega)
        have q1 : decide (c ≤ 122) = true := decide_eq_true (by omega)
        have q2 : decide (65 ≤ c) = true := decide_eq_true (by omega)
        have q3 : decide (c ≤ 90) = true := decide_eq_true (by omega)
        have q4 : decide (48 ≤ c) = true := decide_eq_true (by omega)
        have q5 : decide (c ≤ 57) = false := decide_eq_false (by omega)
        have hE := Lib.hid (hnext.out (by rw [hy.out]; unfold letterI; simp; omega))
        clear hy hnext hcr
        go_wp2
        go_round
        case rel => exact ⟨k + 1, by omega, by go_num, hE⟩
        case measure => simp [intOf]; omega
      · by_cases hk0 : k = 0
        · subst hk0
          have q0 : decide (97 ≤ c) = false := decide_eq_false (by omega)
          have q1 : decide (c ≤ 122) = true := decide_eq_true (by omega)
          have q2 : decide (65 ≤ c) = true := decide_eq_true (by omega)
          have q3 : decide (c ≤ 90) = false := decide_eq_false (by omega)
          have q4 : decide (48 ≤ c) = true := decide_eq_true (by omega)
          have q5 : decide (c ≤ 57) = false := decide_eq_false (by omega)
          have hE : Hid (nameB s = false) := nameR_no hlt (by rw [hy.out]; unfold letterI; simp; omega)
          clear hy hnext hcr
          go_wp2
          go_ret
          exact ⟨ret_bool hE.out.symm, rfl⟩
        · have hkp : 0 < k := by omega
          have hkz : ((k : Int) == 0) = false := beq_eq_false_iff_ne.2 (by omega)
          have q0 : decide (97 ≤ c) = false := decide_eq_false (by omega)
          have q1 : decide (c ≤ 122) = true := decide_eq_true (by omega)
          have q2 : decide (65 ≤ c) = true := decide_eq_true (by omega)
          have q3 : decide (c ≤ 90) = false := decide_eq_false (by omega)
          have q4 : decide (48 ≤ c) = true := decide_eq_true (by omega)
          have q5 : decide (c ≤ 57) = false := decide_eq_false (by omega)
          have hE : Hid (nameB s = false) := nameR_no hlt (by rw [hy.out]; unfold letterI digitI; simp; omega)
          clear hy hnext hcr
          go_wp2
          go_ret
          exact ⟨ret_bool hE.out.symm, rfl⟩
      · have q0 : decide (97 ≤ c) = true := decide_eq_true (by omega)
        have q1 : decide (c ≤ 122) = true := decide_eq_true (by omega)
        have q2 : decide (65 ≤ c) = true := decide_eq_true (by omega)
        have q3 : decide (c ≤ 90) = false := decide_eq_false (by omega)
        have q4 : decide (48 ≤ c) = true := decide_eq_true (by omega)
        have q5 : decide (c ≤ 57) = false := decide_eq_false (by omega)
        have hE := Lib.hid (hnext.out (by rw [hy.out]; unfold letterI; simp; omega))
        clear hy hnext hcr
        go_wp2
        go_round
        case rel => exact ⟨k + 1, by omega, by go_num, hE⟩
        case measure => simp [intOf]; omega
      · by_cases hk0 : k = 0
        · subst hk0
          have q0 : decide (97 ≤ c) = true := decide_eq_true (by omega)
          have q1 : decide (c ≤ 122) = false := decide_eq_false (by omega)
          have q2 : decide (65 ≤ c) = true := decide_eq_true (by omega)
          have q3 : decide (c ≤ 90) = false := decide_eq_false (by omega)
          have q4 : decide (48 ≤ c) = true := decide_eq_true (by omega)
          have q5 : decide (c ≤ 57) = false := decide_eq_false (by omega)
          have hE : Hid (nameB s = false) := nameR_no hlt (by rw [hy.out]; unfold letterI; simp; omega)
          clear hy hnext hcr
          go_wp2
          go_ret
          exact ⟨ret_bool hE.out.symm, rfl⟩
        · have hkp : 0 < k := by omega
          have hkz : ((k : Int) == 0) = false := beq_eq_false_iff_ne.2 (by omega)
          have q0 : decide (97 ≤ c) = true := decide_eq_true (by omega)
          have q1 : decide (c ≤ 122) = false := decide_eq_false (by omega)
          have q2 : decide (65 ≤ c) = true := decide_eq_true (by omega)
          have q3 : decide (c ≤ 90) = false := decide_eq_false (by omega)
          have q4 : decide (48 ≤ c) = true := decide_eq_true (by omega)
          have q5 : decide (c ≤ 57) = false := decide_eq_false (by omega)
          have hE : Hid (nameB s = false) := nameR_no hlt (by rw [hy.out]; unfold letterI digitI; simp; omega)
          clear hy hnext hcr
          go_wp2
          go_ret
          exact ⟨ret_bool hE.out.symm, rfl⟩
    · have hE : Hid (nameB s = true) := nameR z1 z2 fun j hj => hok.out j (by omega)
      go_wp2
      go_ret
      exact ⟨ret_bool hE.out.symm, rfl⟩
/-- texts behind a slice at a block's beginning -/
def Txt (w : World) (b : Nat) (xs : List (List UInt8)) : Prop := b < w.heap.size ∧ ∀ j, j < xs.length → w.cell? ⟨b, j, none⟩ = some (.string (strOf (xs.getD j [])))
theorem Txt.later {w w' : World} {b : Nat} {xs : List (List UInt8)} (h : Txt w b xs) (hb : Below w.heap.size w w') : Txt w' b xs :=
  ⟨Nat.lt_of_lt_of_le h.1 hb.size, fun j hj => (hb.cell (p := ⟨b, j, none⟩) h.1).trans (h.2 j hj)⟩
theorem Txt.new (W : World) (xs : List (List UInt8)) (t : TypeId) : Txt (W.alloc (.cells (xs.map fun x => Value.string (strOf x)).toArray t)) W.heap.size xs := by
  refine ⟨by simp, fun j hj => ?_⟩
  rw [cell_of_row _ W.heap.size j (xs.map fun x => Value.string (strOf x)).toArray t (0, 0) (by show (W.heap.push _)[W.heap.size]? = _; simp), List.getElem?_toArray, List.getElem?_map, List.getD_eq_getElem?_getD, List.getElem?_eq_getElem hj]
  rfl

def hasT (xs : List (List UInt8)) (t : List UInt8) : Bool := xs.contains t

set_option maxRecDepth 100000 in
set_option maxHeartbeats 1000000 in
theorem refhas_any (b : Nat) (xs : List (List UInt8)) (c : Nat) (s : ByteArray) (w : World) (hU : Txt w b xs) (hl : xs.length ≤ 100) :
    Calls Tryz.prog 75 #[.slice (some ⟨b, 0, none⟩) xs.length c, .string s] w fun e w' => e = .returned (.bool (hasT xs s.data.toList)) ∧ w' = w := by
  go_enter Tryz.func75, Tryz.ntmps75
  go_wp2_with fail
  go_loop [5] (fun i => ∃ k : Nat, k ≤ xs.length ∧ i = .int .i64 k ∧ Hid (∀ j, j < k → xs.getD j [] ≠ s.data.toList)) (fun i => xs.length - (intOf i).toNat)
  case atStart => exact ⟨0, Nat.zero_le _, rfl, fun j hj => by omega⟩
  case round =>
    obtain ⟨k, hk, rfl, hok⟩ := hrel
    by_cases hlt : k < xs.length
    · have hc := hU.2 k hlt
      have hy : Hid ((strOf (xs.getD k [])).data.toList = xs.getD k []) := data_strOf _
      cases hq : ((strOf (xs.getD k [])).toList == s.toList) with
      | true =>
        have hE : Hid (hasT xs s.data.toList = true) := by
          show xs.contains _ = true
          rw [toList_data, toList_data, hy.out] at hq
          have : xs.getD k [] = s.data.toList := by simpa using hq
          rw [List.contains_iff_mem, ← this, List.getD_eq_getElem?_getD, List.getElem?_eq_getElem hlt]
          exact List.getElem_mem _
        generalize strOf (xs.getD k []) = X0 at hc hq
        go_wp2_with fail
        go_ret
        exact ⟨ret_bool hE.out.symm, rfl⟩
      | false =>
        have hE : Hid (∀ j, j < k + 1 → xs.getD j [] ≠ s.data.toList) := fun j hj => by
          by_cases e : j < k
          · exact hok.out j e
          · obtain rfl : j = k := by omega
            rw [toList_data, toList_data, hy.out] at hq
            simpa using hq
        generalize strOf (xs.getD k []) = X0 at hc hq
        go_wp2_with fail
        go_round
        case rel => exact ⟨k + 1, by omega, by go_num, hE⟩
        case measure => simp [intOf]; omega
    · have hE : Hid (hasT xs s.data.toList = false) := by
        show xs.contains _ = false
        cases hc : xs.contains s.data.toList with
        | false => rfl
        | true =>
          rw [List.contains_iff_mem] at hc
          obtain ⟨j, hj, e⟩ := List.getElem_of_mem hc
          have := hok.out j (by omega)
          rw [List.getD_eq_getElem?_getD, List.getElem?_eq_getElem hj] at this
          exact absurd e this
      go_wp2_with fail
      go_ret
      exact ⟨ret_bool hE.out.symm, rfl⟩
theorem contains_key (t : List UInt8) : hasT keys t = isKey t := by
  unfold isKey hasT
  rw [Bool.eq_iff_iff, List.contains_iff_mem, List.any_eq_true]
  exact ⟨fun h => ⟨t, h, by simp⟩, fun ⟨k, hk, e⟩ => by have : k = t := by simpa using e
                                                        subst this; exact hk⟩

set_option maxRecDepth 100000 in
set_option maxHeartbeats 1000000 in
theorem refkeyword_any (s : ByteArray) (w : World) : Calls Tryz.prog 99 #[.string s] w fun e w' => e = .returned (.bool (isKey s.data.toList)) ∧ Below w.heap.size w w' := by
  have hT : Hid (Txt (w.alloc (.cells #[.string ⟨#[102, 117, 110]⟩, .string ⟨#[108, 101, 116]⟩, .string ⟨#[105, 110]⟩, .string ⟨#[105, 102]⟩, .string ⟨#[116, 104, 101, 110]⟩, .string ⟨#[101, 108, 115, 101]⟩, .string ⟨#[119, 104, 105, 108, 101]⟩, .string ⟨#[100, 111]⟩, .string ⟨#[114, 97, 105, 115, 101]⟩, .string ⟨#[116, 114, 121]⟩, .string ⟨#[119, 105, 116, 104]⟩, .string ⟨#[105, 110, 112, 117, 116]⟩, .string ⟨#[99, 101, 108, 108]⟩, .string ⟨#[100, 101, 102]⟩] 9)) w.heap.size keys) := Txt.new w keys 9
  have hb : Hid (Below w.heap.size w (w.alloc (.cells #[.string ⟨#[102, 117, 110]⟩, .string ⟨#[108, 101, 116]⟩, .string ⟨#[105, 110]⟩, .string ⟨#[105, 102]⟩, .string ⟨#[116, 104, 101, 110]⟩, .string ⟨#[101, 108, 115, 101]⟩, .string ⟨#[119, 104, 105, 108, 101]⟩, .string ⟨#[100, 111]⟩, .string ⟨#[114, 97, 105, 115, 101]⟩, .string ⟨#[116, 114, 121]⟩, .string ⟨#[119, 105, 116, 104]⟩, .string ⟨#[105, 110, 112, 117, 116]⟩, .string ⟨#[99, 101, 108, 108]⟩, .string ⟨#[100, 101, 102]⟩] 9))) := later_alloc w _
  go_enter Tryz.func99, Tryz.ntmps99
  go_wp2_with fail
  generalize w.alloc (.cells #[.string ⟨#[102, 117, 110]⟩, .string ⟨#[108, 101, 116]⟩, .string ⟨#[105, 110]⟩, .string ⟨#[105, 102]⟩, .string ⟨#[116, 104, 101, 110]⟩, .string ⟨#[101, 108, 115, 101]⟩, .string ⟨#[119, 104, 105, 108, 101]⟩, .string ⟨#[100, 111]⟩, .string ⟨#[114, 97, 105, 115, 101]⟩, .string ⟨#[116, 114, 121]⟩, .string ⟨#[119, 105, 116, 104]⟩, .string ⟨#[105, 110, 112, 117, 116]⟩, .string ⟨#[99, 101, 108, 108]⟩, .string ⟨#[100, 101, 102]⟩] 9) = W0 at hT hb ⊢
  refine (refhas_any w.heap.size keys 14 s W0 hT.out (by decide)).mono ?_
  rintro e w' ⟨rfl, rfl⟩
  rw [contains_key]
  go_wp2_with fail
  go_ret
  exact ⟨rfl, hb.out⟩


set_option maxRecDepth 100000 in
set_option maxHeartbeats 1000000 in
theorem refword_any (s : ByteArray) (w : World) (hs : s.size ≤ 9223372036854775807) : Calls Tryz.prog 77 #[.string s] w fun e w' => e = .returned (.bool (nameB s && !isKey s.data.toList)) ∧ Below w.heap.size w w' := by
  have k1 := Lib.hid (refname_any s w hs)
  cases h1 : nameB s with
  | false =>
    rw [h1] at k1
    go_enter Tryz.func77, Tryz.ntmps77
    go_wp2_with fail
    refine k1.out.mono ?_
    rintro e w' ⟨rfl, rfl⟩
    go_wp2_with fail
    go_ret
    exact ⟨rfl, Below.refl _ _⟩
  | true =>
    rw [h1] at k1
    have k2 := Lib.hid (refkeyword_any s w)
    cases h2 : isKey s.data.toList with
    | false =>
      rw [h2] at k2
      go_enter Tryz.func77, Tryz.ntmps77
      go_wp2_with fail
      refine k1.out.mono ?_
      rintro e w' ⟨rfl, rfl⟩
      go_wp2_with fail
      refine k2.out.mono ?_
      rintro e w' ⟨rfl, hb⟩
      replace hb := Lib.hid hb
      go_wp2_with fail
      go_ret
      exact ⟨rfl, hb.out⟩
    | true =>
      rw [h2] at k2
      go_enter Tryz.func77, Tryz.ntmps77
      go_wp2_with fail
      refine k1.out.mono ?_
      rintro e w' ⟨rfl, rfl⟩
      go_wp2_with fail
      refine k2.out.mono ?_
      rintro e w' ⟨rfl, hb⟩
      replace hb := Lib.hid hb
      go_wp2_with fail
      go_ret
      exact ⟨rfl, hb.out⟩
end Go.Proofs.YthmchdpinobbgaaGreatDoor
namespace Go.Proofs.YthmchdpinobbgaaGreatDoor
open Go.RowKit Go.Shelf Go.Tm Go.Lx
attribute [local go_sem] Oper.semAt_some

theorem many_kids {t : Go.Tm.T} : (manyI t.kind == (t.kids.length : Int)) = (decide (1 ≤ t.kind) && decide (t.kind ≤ 13) && (t.kids.length == kidsTab.getD t.kind.toNat 0)) := by
  unfold manyI
  by_cases h : 1 ≤ t.kind ∧ t.kind ≤ 13
  · rw [if_pos h, decide_eq_true h.1, decide_eq_true h.2, Bool.true_and, Bool.true_and, Bool.eq_iff_iff, beq_iff_eq, beq_iff_eq]
    have e : ∀ k : Nat, 1 ≤ k → k ≤ 13 → ((kidsTab.getD k 0 : Nat) : Int) = kidsTab.getD k 0 := fun k _ _ => rfl
    constructor
    · intro h2; omega
    · intro h2; rw [h2]
  · rw [if_neg h]
    have h1 : (decide (1 ≤ t.kind) && decide (t.kind ≤ 13)) = false := by
      by_cases g : 1 ≤ t.kind
      · rw [decide_eq_false (fun g2 => h ⟨g, g2⟩)]; simp
      · rw [decide_eq_false g]; rfl
    rw [h1, Bool.false_and, beq_eq_false_iff_ne]; omega
/-- the reference's own words of a node -/
def refNodeB (t : Go.Tm.T) : Bool := (manyI t.kind == (t.kids.length : Int)) && (t.kind == 1 || t.num == 0) && decide (0 ≤ t.num) && decide (t.num < 2147483648) &&
  (if t.kind = 12 then opB t.name.data.toList else if wordK t.kind = true then (nameB t.name && !isKey t.name.data.toList) else t.name.size == 0)
theorem refNodeB_eq (t : Go.Tm.T) : refNodeB t = nodeB t := by
  unfold refNodeB nodeB
  rw [many_kids]
  cases hb : (decide (1 ≤ t.kind) && decide (t.kind ≤ 13) && (t.kids.length == kidsTab.getD t.kind.toNat 0)) with
  | false => simp
  | true =>
    rw [Bool.true_and, Bool.true_and]
    unfold fieldsB
    by_cases h1 : t.kind = 1
    · have e : (t.kind == 1) = true := by simpa using h1
      have w : wordK t.kind = false := by rw [h1]; rfl
      rw [if_pos h1, if_neg (by omega), w, if_neg (by decide), e, Bool.true_or, Bool.true_and]
      by_cases g : t.num < 2147483648
      · rw [decide_eq_true g, decide_eq_true (show t.num ≤ 2147483647 by omega)]
        cases t.name.size == 0 <;> cases decide (0 ≤ t.num) <;> rfl
      · rw [decide_eq_false g, decide_eq_false (show ¬ t.num ≤ 2147483647 by omega)]
        simp
    · have e : (t.kind == 1) = false := by simpa using h1
      rw [if_neg h1, e, Bool.false_or]
      cases hz : (t.num == 0) with
      | false => simp
      | true =>
        have hz2 : t.num = 0 := by simpa using hz
        rw [hz2, show decide ((0 : Int) ≤ 0) = true by decide, show decide ((0 : Int) < 2147483648) = true by decide]
        by_cases h12 : t.kind = 12
        · have w : wordK t.kind = false := by rw [h12]; rfl
          rw [if_pos h12, w, if_neg (by decide), if_pos h12]; rfl
        · rw [if_neg h12, if_neg h12]
          by_cases hw : wordK t.kind = true
          · rw [if_pos hw, if_pos hw, Bool.true_and, Bool.true_and, Bool.true_and, Bool.true_and]
          · rw [if_neg hw, if_neg hw]; rfl
def opTexts : List (List UInt8) := [[43], [45], [42], [60], [61]]
theorem has_op (l : List UInt8) : hasT opTexts l = opB l := by
  unfold hasT opB opL opTexts
  rw [Bool.eq_iff_iff, List.contains_iff_mem, List.any_eq_true]
  constructor
  · intro h; exact ⟨l, h, by simp⟩
  · rintro ⟨k, hk, e⟩
    have : k = l := by simpa using e
    subst this; exact hk

set_option maxRecDepth 100000 in
set_option maxHeartbeats 4000000 in
theorem refnode_any (t : Go.Tm.T) (A : Option Addr) (c : Nat) (w : World) (hT : TmV w (· < w.heap.size) t A c) :
    Calls Tryz.prog 56 #[tmV t A c] w fun e w' => e = .returned (.bool (nodeB t)) ∧ Below w.heap.size w w' := by
  have hR := Lib.hid (refNodeB_eq t)
  have hsz := hT.nsz
  clear hT
  have hbel : Hid (Below w.heap.size w (w.alloc (.cells #[.int .i64 t.kind, .string t.name, .int .i64 t.num, .slice A t.kids.length c] 35))) := later_alloc _ _
  have hbx : (w.alloc (.cells #[.int .i64 t.kind, .string t.name, .int .i64 t.num, .slice A t.kids.length c] 35)).heap[w.heap.size]? = some (.cells #[.int .i64 t.kind, .string t.name, .int .i64 t.num, .slice A t.kids.length c] 35 (0, 0)) := World.alloc_heap_new _ _
  have hU : refNodeB t = ((manyI t.kind == (t.kids.length : Int)) && (t.kind == 1 || t.num == 0) && decide (0 ≤ t.num) && decide (t.num < 2147483648) &&
    (if t.kind = 12 then opB t.name.data.toList else if wordK t.kind = true then (nameB t.name && !isKey t.name.data.toList) else t.name.size == 0)) := rfl
  replace hU := Lib.hid hU
  unfold tmV
  rw [← hR.out, hU.out]
  have km := Lib.hid (fun W => refmany_any t.kind W)
  have kh := Lib.hid (fun (b : Nat) (W : World) (h : Txt W b opTexts) => refhas_any b opTexts 5 t.name W h (by decide))
  have kw := Lib.hid (fun (W : World) => refword_any t.name W hsz)
  have kb := Lib.hid (fun (W : World) => refbinder_any t.kind t.num t.name (.slice A t.kids.length c) W)
  clear hR hU
  obtain ⟨M, hM⟩ : ∃ M, manyI t.kind = M := ⟨_, rfl⟩
  obtain ⟨K, hK⟩ : ∃ K, t.kind = K := ⟨_, rfl⟩
  obtain ⟨nn, hn⟩ : ∃ n, t.num = n := ⟨_, rfl⟩
  obtain ⟨nm, hnm⟩ : ∃ n, t.name = n := ⟨_, rfl⟩
  obtain ⟨L, hL⟩ : ∃ n, t.kids.length = n := ⟨_, rfl⟩
  rw [hM] at km ⊢
  rw [hK] at km kb hbel hbx ⊢
  rw [hn] at kb hbel hbx ⊢
  rw [hnm] at kh kw kb hbel hbx hsz ⊢
  rw [hL] at kb hbel hbx ⊢
  clear hM hK hn hnm hL t
  obtain ⟨V, hV⟩ : ∃ V, w.alloc (.cells #[.int .i64 K, .string nm, .int .i64 nn, .slice A L c] 35) = V := ⟨_, rfl⟩
  rw [hV] at hbel hbx
  have c0 := cell_of_row V w.heap.size 0 _ _ _ hbx
  have c1 := cell_of_row V w.heap.size 1 _ _ _ hbx
  have c2 := cell_of_row V w.heap.size 2 _ _ _ hbx
  have c3 := cell_of_row V w.heap.size 3 _ _ _ hbx
  have hl := World.lt_of_get hbx
  replace hbx := Lib.hid hbx
  replace hV := Lib.hid hV
  have kq : Hid (∀ n, Calls Tryz.prog 74 #[.int .i64 K] (V.drewN n) fun e w' => e = .returned (.int .i64 M) ∧ ∃ m, w' = V.drewN m) := fun n => (km.out (V.drewN n)).mono fun e w' h => ⟨h.1, n, h.2.symm⟩
  obtain ⟨R, hR⟩ : ∃ R, ((M == (L : Int)) && (K == 1 || nn == 0) && decide (0 ≤ nn) && decide (nn < 2147483648) && (if K = 12 then opB nm.data.toList else if wordK K = true then (nameB nm && !isKey nm.data.toList) else nm.size == 0)) = R := ⟨_, rfl⟩
  rw [hR]
  replace hR := Lib.hid hR
  cases e1 : (M == (L : Int)) with
  | false =>
    have b1 : (M != (L : Int)) = true := by unfold bne; rw [e1]; rfl
    have hF : Hid (R = false) := by
      show _ = _
      rw [← hR.out, e1]; simp
    replace hR := Lib.hid hF
    go_enter Tryz.func56, Tryz.ntmps56
    go_wp2_with fail
    try rw [hV.out]
    go_quiet (exact kq.out _)
    all_goals go_wp2
    all_goals go_ret
    all_goals exact ⟨ret_bool hF.out.symm, belowN hbel.out _⟩
  | true =>
    have b1 : (M != (L : Int)) = false := by unfold bne; rw [e1]; rfl
    by_cases hk1 : K = 1
    · subst hk1
      by_cases g1 : nn < 0
      · have d1 : decide (nn < 0) = true := decide_eq_true g1
        have hF : Hid (R = false) := by
          show _ = _
          rw [← hR.out, decide_eq_false (show ¬ 0 ≤ nn by omega)]; simp
        replace hR := Lib.hid hF
        go_enter Tryz.func56, Tryz.ntmps56
        go_wp2_with fail
        try rw [hV.out]
        go_quiet (exact kq.out _)
        all_goals go_wp2
        all_goals go_ret
        all_goals exact ⟨ret_bool hF.out.symm, belowN hbel.out _⟩
      have d1 : decide (nn < 0) = false := decide_eq_false g1
      by_cases g2 : 2147483648 ≤ nn
      · have d2 : decide (2147483648 ≤ nn) = true := decide_eq_true g2
        have hF : Hid (R = false) := by
          show _ = _
          rw [← hR.out, decide_eq_false (show ¬ nn < 2147483648 by omega)]; simp
        replace hR := Lib.hid hF
        go_enter Tryz.func56, Tryz.ntmps56
        go_wp2_with fail
        try rw [hV.out]
        go_quiet (exact kq.out _)
        all_goals go_wp2
        all_goals go_ret
        all_goals exact ⟨ret_bool hF.out.symm, belowN hbel.out _⟩
      have d2 : decide (2147483648 ≤ nn) = false := decide_eq_false g2
      have hF : Hid (R = (nm.toList == ([] : List UInt8))) := by
        show _ = _
        rw [← hR.out, e1, decide_eq_true (show 0 ≤ nn by omega), decide_eq_true (show nn < 2147483648 by omega), empty_iff]; rfl
      go_enter Tryz.func56, Tryz.ntmps56
      go_wp2_with fail
      try rw [hV.out]
      go_quiet (exact kq.out _)
      clear hR
      have kb1 : Hid (∀ W : World, Calls Tryz.prog 76 #[.agg #[.int .i64 1, .string nm, .int .i64 nn, .slice A L c]] W fun e w' => e = .returned (.bool false) ∧ Below W.heap.size W w') := fun W => by
        have h := kb.out W
        rwa [show binderB 1 = false from rfl] at h
      clear kb
      go_wp2_with fail
      refine (kb1.out _).mono ?_
      rintro e w9 ⟨rfl, hb9⟩
      have x9 : w9.heap[w.heap.size]? = some (.cells #[.int .i64 1, .string nm, .int .i64 nn, .slice A L c] 35 (0, 0)) := (hb9.block w.heap.size hl).trans hbx.out
      have x1 := cell_of_row w9 w.heap.size 1 _ _ _ x9
      have hl9 := World.lt_of_get x9
      replace x9 := Lib.hid x9
      replace hb9 := Lib.hid ((belowN hbel.out nq).trans (hb9.mono (by show w.heap.size ≤ V.heap.size; omega)))
      cases hz : (nm.toList == ([] : List UInt8)) with
      | false =>
        rw [hz] at hF
        all_goals go_wp2
        all_goals go_ret
        all_goals exact ⟨ret_bool hF.out.symm, hb9.out⟩
      | true =>
        rw [hz] at hF
        all_goals go_wp2
        all_goals go_ret
        all_goals exact ⟨ret_bool hF.out.symm, hb9.out⟩
    · have k1 : (K == 1) = false := beq_eq_false_iff_ne.2 hk1
      have k2 : (K != 1) = true := bne_iff_ne.2 hk1
      by_cases hz : nn = 0
      case neg =>
        have z1 : (nn == 0) = false := beq_eq_false_iff_ne.2 hz
        have z2 : (nn != 0) = true := bne_iff_ne.2 hz
        have hF : Hid (R = false) := by
          show _ = _
          rw [← hR.out, k1, z1]; simp
        replace hR := Lib.hid hF
        go_enter Tryz.func56, Tryz.ntmps56
        go_wp2_with fail
        try rw [hV.out]
        go_quiet (exact kq.out _)
        all_goals go_wp2
        all_goals go_ret
        all_goals exact ⟨ret_bool hF.out.symm, belowN hbel.out _⟩
      subst hz
      by_cases hk12 : K = 12
      · subst hk12
        have hF : Hid (R = hasT opTexts nm.data.toList) := by
          show _ = _
          rw [← hR.out, e1, has_op]; simp
        clear hR
        go_enter Tryz.func56, Tryz.ntmps56
        go_wp2_with fail
        try rw [hV.out]
        go_quiet (exact kq.out _)
        have hTx : Hid (Txt ((V.drewN nq).alloc (.cells #[.string ⟨#[43]⟩, .string ⟨#[45]⟩, .string ⟨#[42]⟩, .string ⟨#[60]⟩, .string ⟨#[61]⟩] 9)) V.heap.size opTexts) := Txt.new (V.drewN nq) opTexts 9
        have hb9 := Lib.hid ((belowN hbel.out nq).trans ((later_alloc (V.drewN nq) (.cells #[.string ⟨#[43]⟩, .string ⟨#[45]⟩, .string ⟨#[42]⟩, .string ⟨#[60]⟩, .string ⟨#[61]⟩] 9)).mono (by show w.heap.size ≤ V.heap.size; omega)))
        have kh1 := Lib.hid (kh.out _ _ hTx.out)
        have x1 : ((V.drewN nq).alloc (.cells #[.string ⟨#[43]⟩, .string ⟨#[45]⟩, .string ⟨#[42]⟩, .string ⟨#[60]⟩, .string ⟨#[61]⟩] 9)).cell? ⟨w.heap.size, 1, none⟩ = some (.string nm) := ((later_alloc (V.drewN nq) (.cells #[.string ⟨#[43]⟩, .string ⟨#[45]⟩, .string ⟨#[42]⟩, .string ⟨#[60]⟩, .string ⟨#[61]⟩] 9)).cell (p := ⟨w.heap.size, 1, none⟩) hl).trans c1
        go_wp2_with fail
        refine kh1.out.mono ?_
        rintro e w8 ⟨rfl, rfl⟩
        rw [← hF.out]
        go_wp2_with fail
        go_ret
        exact ⟨rfl, hb9.out⟩
      have k12 : (K == 12) = false := beq_eq_false_iff_ne.2 hk12
      by_cases hk2 : K = 2
      · subst hk2
        have hF : Hid (R = (nameB nm && !isKey nm.data.toList)) := by
          show _ = _
          rw [← hR.out, e1]; simp [wordK]
        clear hR kb
        go_enter Tryz.func56, Tryz.ntmps56
        go_wp2_with fail
        try rw [hV.out]
        go_quiet (exact kq.out _)
        go_wp2_with fail
        refine (kw.out _).mono ?_
        rintro e w8 ⟨rfl, hb8⟩
        rw [← hF.out]
        replace hb8 := Lib.hid ((belowN hbel.out nq).trans (hb8.mono (by show w.heap.size ≤ V.heap.size; omega)))
        go_wp2_with fail
        go_ret
        exact ⟨rfl, hb8.out⟩
      have k22 : (K == 2) = false := beq_eq_false_iff_ne.2 hk2
      cases hbk : binderB K with
      | true =>
        have hF : Hid (R = (nameB nm && !isKey nm.data.toList)) := by
          show _ = _
          have hw : wordK K = true := by unfold binderB at hbk; unfold wordK; rw [k22]; simpa using hbk
          rw [← hR.out, e1, if_neg hk12, if_pos hw]; simp
        clear hR
        replace hbk := Lib.hid hbk
        have kb1 : Hid (∀ W : World, Calls Tryz.prog 76 #[.agg #[.int .i64 K, .string nm, .int .i64 0, .slice A L c]] W fun e w' => e = .returned (.bool true) ∧ Below W.heap.size W w') := fun W => by
          have h := kb.out W
          rwa [show binderB K = true from hbk.out] at h
        clear kb
        go_enter Tryz.func56, Tryz.ntmps56
        go_wp2_with fail
        try rw [hV.out]
        go_quiet (exact kq.out _)
        go_wp2_with fail
        refine (kb1.out _).mono ?_
        rintro e w9 ⟨rfl, hb9⟩
        have x9 : w9.heap[w.heap.size]? = some (.cells #[.int .i64 K, .string nm, .int .i64 0, .slice A L c] 35 (0, 0)) := (hb9.block w.heap.size hl).trans hbx.out
        have x1 := cell_of_row w9 w.heap.size 1 _ _ _ x9
        have hl9 := World.lt_of_get x9
        replace x9 := Lib.hid x9
        replace hb9 := Lib.hid ((belowN hbel.out nq).trans (hb9.mono (by show w.heap.size ≤ V.heap.size; omega)))
        go_wp2_with fail
        refine (kw.out _).mono ?_
        rintro e w8 ⟨rfl, hb8⟩
        rw [← hF.out]
        replace hb8 := Lib.hid (hb9.out.trans (hb8.mono (by omega)))
        go_wp2_with fail
        go_ret
        exact ⟨rfl, hb8.out⟩
      | false =>
        have hF : Hid (R = (nm.toList == ([] : List UInt8))) := by
          show _ = _
          have hw : ¬ wordK K = true := by unfold binderB at hbk; unfold wordK; rw [k22]; simpa using hbk
          rw [← hR.out, e1, if_neg hk12, if_neg hw, empty_iff]; simp
        clear hR
        replace hbk := Lib.hid hbk
        have kb1 : Hid (∀ W : World, Calls Tryz.prog 76 #[.agg #[.int .i64 K, .string nm, .int .i64 0, .slice A L c]] W fun e w' => e = .returned (.bool false) ∧ Below W.heap.size W w') := fun W => by
          have h := kb.out W
          rwa [show binderB K = false from hbk.out] at h
        clear kb
        go_enter Tryz.func56, Tryz.ntmps56
        go_wp2_with fail
        try rw [hV.out]
        go_quiet (exact kq.out _)
        go_wp2_with fail
        refine (kb1.out _).mono ?_
        rintro e w9 ⟨rfl, hb9⟩
        have x9 : w9.heap[w.heap.size]? = some (.cells #[.int .i64 K, .string nm, .int .i64 0, .slice A L c] 35 (0, 0)) := (hb9.block w.heap.size hl).trans hbx.out
        have x1 := cell_of_row w9 w.heap.size 1 _ _ _ x9
        have hl9 := World.lt_of_get x9
        replace x9 := Lib.hid x9
        replace hb9 := Lib.hid ((belowN hbel.out nq).trans (hb9.mono (by show w.heap.size ≤ V.heap.size; omega)))
        cases hz : (nm.toList == ([] : List UInt8)) with
        | false =>
          rw [hz] at hF
          all_goals go_wp2
          all_goals go_ret
          all_goals exact ⟨ret_bool hF.out.symm, hb9.out⟩
        | true =>
          rw [hz] at hF
          all_goals go_wp2
          all_goals go_ret
          all_goals exact ⟨ret_bool hF.out.symm, hb9.out⟩
end Go.Proofs.YthmchdpinobbgaaGreatDoor
namespace Go.Proofs.YthmchdpinobbgaaGreatDoor
open Go.RowKit Go.Shelf Go.Tm Go.Lx
attribute [local go_sem] Oper.semAt_some

theorem nodesTs_false : ∀ (ts : List Go.Tm.T) (k : Nat), k < ts.length → nodesT (ts.getD k default) = false → nodesTs ts = false
  | [], _, h, _ => absurd h (Nat.not_lt_zero _)
  | t :: ts, 0, _, h => by rw [nodesTs, show nodesT t = false from h, Bool.false_and]
  | t :: ts, k + 1, hk, h => by rw [nodesTs, nodesTs_false ts k (by simpa using hk) h, Bool.and_false]
theorem nodesTs_true : ∀ (ts : List Go.Tm.T), (∀ k, k < ts.length → nodesT (ts.getD k default) = true) → nodesTs ts = true
  | [], _ => by rw [nodesTs]
  | t :: ts, h => by rw [nodesTs, show nodesT t = true from h 0 (by simp), nodesTs_true ts (fun k hk => h (k + 1) (by simpa using hk)), Bool.and_true]
theorem nodesT_unfold (t : Go.Tm.T) : nodesT t = (nodeB t && nodesTs t.kids) := by cases t; rw [nodesT]; rfl

set_option maxRecDepth 100000 in
set_option maxHeartbeats 4000000 in
theorem refnodes_any : ∀ (n : Nat) (t : Go.Tm.T) (A : Option Addr) (c : Nat) (w : World), t.size ≤ n → t.size ≤ 4611686018427387904 → TmV w (· < w.heap.size) t A c →
    Calls Tryz.prog 34 #[tmV t A c] w fun e w' => e = .returned (.bool (nodesT t)) ∧ Below w.heap.size w w'
  | 0, t, _, _, _, h, _, _ => by have := kids_lt t; omega
  | n + 1, t, A, c, w, hn, hz, hT => by
    have IH := Lib.hid (refnodes_any n)
    have hks := kids_lt t
    have hLs := len_sizes t.kids
    have hbV : Below w.heap.size w (w.alloc (.cells #[.int .i64 t.kind, .string t.name, .int .i64 t.num, .slice A t.kids.length c] 35)) := later_alloc _ _
    have kn := refnode_any t A c _ (hT.later hbV)
    replace hT := Lib.hid hT
    unfold tmV at kn ⊢
    obtain ⟨L, hL⟩ : ∃ L, t.kids.length = L := ⟨_, rfl⟩
    rw [hL] at hLs hbV kn
    rw [hL]
    obtain ⟨V, hV⟩ : ∃ V, w.alloc (.cells #[.int .i64 t.kind, .string t.name, .int .i64 t.num, .slice A L c] 35) = V := ⟨_, rfl⟩
    have hbx : V.heap[w.heap.size]? = some (.cells #[.int .i64 t.kind, .string t.name, .int .i64 t.num, .slice A L c] 35 (0, 0)) := by rw [← hV]; exact World.alloc_heap_new _ _
    rw [hV] at hbV kn
    have hVz := World.lt_of_get hbx
    have i0 := cell_of_row V w.heap.size 0 _ _ _ hbx
    have i1 := cell_of_row V w.heap.size 1 _ _ _ hbx
    have i2 := cell_of_row V w.heap.size 2 _ _ _ hbx
    have i3 := cell_of_row V w.heap.size 3 _ _ _ hbx
    replace hbx := Lib.hid hbx
    replace hV := Lib.hid hV
    replace hL := Lib.hid hL
    have hU := Lib.hid (nodesT_unfold t)
    cases hnb : nodeB t with
    | false =>
      rw [hnb] at kn
      have hF : Hid (nodesT t = false) := by show _ = _; rw [hU.out, hnb]; rfl
      replace hnb := Lib.hid hnb
      replace kn := Lib.hid kn
      replace hbV := Lib.hid hbV
      go_enter Tryz.func34, Tryz.ntmps34
      go_wp2_with fail
      try rw [hV.out]
      go_wp2_with fail
      refine kn.out.mono ?_
      rintro e w1 ⟨rfl, hb1⟩
      have hlast := Lib.hid (hbV.out.trans (hb1.mono (by omega)))
      clear hb1
      go_wp2_with fail
      go_ret
      exact ⟨ret_bool hF.out.symm, hlast.out⟩
    | true =>
      rw [hnb] at kn
      have hE : Hid (nodesT t = nodesTs t.kids) := by show _ = _; rw [hU.out, hnb]; rfl
      replace hnb := Lib.hid hnb
      replace kn := Lib.hid kn
      replace hbV := Lib.hid hbV
      go_enter Tryz.func34, Tryz.ntmps34
      go_wp2_with fail
      try rw [hV.out]
      go_wp2_with fail
      refine kn.out.mono ?_
      rintro e w1 ⟨rfl, hb1⟩
      have hx1 := (hb1.block w.heap.size hVz).trans hbx.out
      have hbW : Below w.heap.size w w1 := hbV.out.trans (hb1.mono (by omega))
      have hT1 := Lib.hid (hT.out.later hbW)
      have hz1 := World.lt_of_get hx1
      replace hx1 := Lib.hid hx1
      replace hbW := Lib.hid hbW
      clear hb1 kn i0 i1 i2 i3 hbx hbV hVz hV
      go_wp2_with fail
      go_loopw [3] (fun i wr => ∃ k : Nat, k ≤ L ∧ i = .int .i64 k ∧ Hid (∀ j, j < k → nodesT (t.kids.getD j default) = true) ∧ Hid (Below w1.heap.size w1 wr)) (fun i _ => L - (intOf i).toNat)
      case atStart => exact ⟨0, Nat.zero_le _, rfl, fun j hj => absurd hj (Nat.not_lt_zero j), Below.refl _ _⟩
      case round =>
        obtain ⟨k, hk, rfl, hP, hB⟩ := hrel
        have hb2 := (hB.out.block w.heap.size hz1).trans hx1.out
        have p3 := cell_of_row wr w.heap.size 3 _ _ _ hb2
        have hl := World.lt_of_get hb2
        replace hb2 := Lib.hid hb2
        by_cases hlt : k < L
        · have hk9 : k < t.kids.length := by rw [hL.out]; exact hlt
          obtain ⟨kb, ko, rfl, hrow⟩ := (hT1.out.later hB.out).row.resolve_left (fun e => by rw [e] at hk9; exact absurd hk9 (Nat.not_lt_zero _))
          obtain ⟨A2, c2, hh, hv⟩ := node_tmv (hrow.get k hk9)
          have hsn := sizes_snoc t.kids k hk9
          have hle := sizes_take_le t.kids (k + 1)
          obtain ⟨u, hu⟩ : ∃ u, t.kids.getD k default = u := ⟨_, rfl⟩
          rw [hu] at hh hv hsn
          have hun : u.size ≤ n := by omega
          have huz : u.size ≤ 4611686018427387904 := by omega
          clear hrow hsn hle
          replace hu := Lib.hid hu
          have c0 := hh.kind
          have c1 := hh.name
          have c2' := hh.num
          have c3 := hh.kids
          replace hh := Lib.hid hh
          have kk := IH.out u A2 c2 wr hun huz hv
          clear hv
          unfold tmV at kk
          cases hr : nodesT u with
          | true =>
            rw [hr] at kk
            have hP2 : Hid (∀ j, j < k + 1 → nodesT (t.kids.getD j default) = true) := fun j hj => by
              by_cases e : j = k
              · subst e; rw [hu.out]; exact hr
              · exact hP.out j (by omega)
            replace hr := Lib.hid hr
            replace kk := Lib.hid kk
            go_wp2_with fail
            refine kk.out.mono ?_
            rintro e w4 ⟨rfl, hb9⟩
            have hB2 := Lib.hid (hB.out.trans (hb9.mono hB.out.size))
            clear hb9 kk
            go_wp2_with fail
            go_roundw
            case rel => exact ⟨k + 1, by omega, by go_num, hP2.out, hB2.out⟩
            case measure => simp [intOf]; omega
          | false =>
            rw [hr] at kk
            have hF : Hid (nodesT t = false) := by
              show _ = _
              rw [hE.out]
              exact nodesTs_false t.kids k hk9 (by rw [hu.out]; exact hr)
            replace hr := Lib.hid hr
            replace kk := Lib.hid kk
            go_wp2_with fail
            refine kk.out.mono ?_
            rintro e w4 ⟨rfl, hb9⟩
            have hlast := Lib.hid (hbW.out.trans ((hB.out.trans (hb9.mono hB.out.size)).mono (by omega)))
            clear hb9 kk
            go_wp2_with fail
            go_ret
            exact ⟨ret_bool hF.out.symm, hlast.out⟩
        · obtain rfl : k = L := by omega
          have hF : Hid (nodesT t = true) := by
            show _ = _
            rw [hE.out]
            exact nodesTs_true t.kids (fun j hj => hP.out j (by rw [← hL.out]; exact hj))
          have hlast := Lib.hid (hbW.out.trans (hB.out.mono (by omega)))
          go_wp2_with fail
          go_ret
          exact ⟨ret_bool hF.out.symm, hlast.out⟩

set_option maxRecDepth 100000 in
set_option maxHeartbeats 4000000 in
theorem refright_any (t : Go.Tm.T) (A : Option Addr) (c : Nat) (w : World) (hz : t.size ≤ 4611686018427387904) (hT : TmV w (· < w.heap.size) t A c) :
    Calls Tryz.prog 18 #[tmV t A c] w fun e w' => e = .returned (.bool (rightT t)) ∧ Below w.heap.size w w' := by
  have hR := Lib.hid (right_iff t)
  have hbV : Below w.heap.size w (w.alloc (.cells #[.int .i64 t.kind, .string t.name, .int .i64 t.num, .slice A t.kids.length c] 35)) := later_alloc _ _
  have hbx : (w.alloc (.cells #[.int .i64 t.kind, .string t.name, .int .i64 t.num, .slice A t.kids.length c] 35)).heap[w.heap.size]? = some (.cells #[.int .i64 t.kind, .string t.name, .int .i64 t.num, .slice A t.kids.length c] 35 (0, 0)) := World.alloc_heap_new _ _
  have kd := Lib.hid (fun (W : World) (h : Below w.heap.size w W) => refdepth_any t.size t A c W (Nat.le_refl _) hz (hT.later h))
  have ks := Lib.hid (fun (W : World) (h : Below w.heap.size w W) => refsize_any t.size t A c W (Nat.le_refl _) hz (hT.later h))
  have kn := Lib.hid (fun (W : World) (h : Below w.heap.size w W) => refnodes_any t.size t A c W (Nat.le_refl _) hz (hT.later h))
  clear hT
  unfold tmV at kd ks kn ⊢
  obtain ⟨V, hV⟩ : ∃ V, w.alloc (.cells #[.int .i64 t.kind, .string t.name, .int .i64 t.num, .slice A t.kids.length c] 35) = V := ⟨_, rfl⟩
  rw [hV] at hbx hbV
  obtain ⟨L, hL⟩ : ∃ L, t.kids.length = L := ⟨_, rfl⟩
  rw [hL] at kd ks kn hbx hV ⊢
  obtain ⟨z, hzz⟩ : ∃ z, t.size = z := ⟨_, rfl⟩
  obtain ⟨d, hd⟩ : ∃ z, t.depth = z := ⟨_, rfl⟩
  obtain ⟨r, hr⟩ : ∃ z, nodesT t = z := ⟨_, rfl⟩
  obtain ⟨R, hRR⟩ : ∃ z, rightT t = z := ⟨_, rfl⟩
  rw [hzz] at ks
  rw [hd] at kd
  rw [hr] at kn
  rw [hRR]
  have hE : Hid (R = (decide (z ≤ 10000) && (decide (d ≤ 200) && r))) := by show _ = _; rw [← hRR, hR.out, hzz, hd, hr]
  clear hR
  have i0 := cell_of_row V w.heap.size 0 _ _ _ hbx
  have i1 := cell_of_row V w.heap.size 1 _ _ _ hbx
  have i2 := cell_of_row V w.heap.size 2 _ _ _ hbx
  have i3 := cell_of_row V w.heap.size 3 _ _ _ hbx
  have hVz := World.lt_of_get hbx
  replace hbx := Lib.hid hbx
  replace hV := Lib.hid hV
  replace hL := Lib.hid hL
  replace hzz := Lib.hid hzz
  replace hd := Lib.hid hd
  replace hr := Lib.hid hr
  replace hRR := Lib.hid hRR
  replace hbV := Lib.hid hbV
  go_enter Tryz.func18, Tryz.ntmps18
  go_wp2_with fail
  try rw [hV.out]
  go_wp2_with fail
  refine (kd.out V hbV.out).mono ?_
  rintro e w1 ⟨rfl, hb1⟩
  have hx1 := (hb1.block w.heap.size hVz).trans hbx.out
  replace hb1 := Lib.hid (hbV.out.trans (hb1.mono (by omega)))
  clear i0 i1 i2 i3 kd
  by_cases hd2 : d ≤ 200
  case neg =>
    have hF : Hid (R = false) := by show _ = _; rw [hE.out, decide_eq_false hd2]; simp
    replace hx1 := Lib.hid hx1
    have q : decide ((d : Int) ≤ 200) = false := decide_eq_false (by omega)
    go_wp2_with fail
    go_ret
    exact ⟨ret_bool hF.out.symm, hb1.out⟩
  have i0 := cell_of_row w1 w.heap.size 0 _ _ _ hx1
  have i1 := cell_of_row w1 w.heap.size 1 _ _ _ hx1
  have i2 := cell_of_row w1 w.heap.size 2 _ _ _ hx1
  have i3 := cell_of_row w1 w.heap.size 3 _ _ _ hx1
  have hz1 := World.lt_of_get hx1
  replace hx1 := Lib.hid hx1
  have q : decide ((d : Int) ≤ 200) = true := decide_eq_true (by omega)
  go_wp2_with fail
  refine (ks.out w1 hb1.out).mono ?_
  rintro e w2 ⟨rfl, hb2⟩
  have hx2 := (hb2.block w.heap.size hz1).trans hx1.out
  replace hb2 := Lib.hid (hb1.out.trans (hb2.mono (by omega)))
  clear i0 i1 i2 i3 ks
  by_cases hz2 : z ≤ 10000
  case neg =>
    have hF : Hid (R = false) := by show _ = _; rw [hE.out, decide_eq_false hz2]; rfl
    replace hx2 := Lib.hid hx2
    have q2 : decide ((z : Int) ≤ 10000) = false := decide_eq_false (by omega)
    go_wp2_with fail
    go_ret
    exact ⟨ret_bool hF.out.symm, hb2.out⟩
  have i0 := cell_of_row w2 w.heap.size 0 _ _ _ hx2
  have i1 := cell_of_row w2 w.heap.size 1 _ _ _ hx2
  have i2 := cell_of_row w2 w.heap.size 2 _ _ _ hx2
  have i3 := cell_of_row w2 w.heap.size 3 _ _ _ hx2
  have hz3 := World.lt_of_get hx2
  replace hx2 := Lib.hid hx2
  have q2 : decide ((z : Int) ≤ 10000) = true := decide_eq_true (by omega)
  have hF : Hid (R = r) := by show _ = _; rw [hE.out, decide_eq_true hz2, decide_eq_true hd2]; rfl
  go_wp2_with fail
  refine (kn.out w2 hb2.out).mono ?_
  rintro e w3 ⟨rfl, hb3⟩
  replace hb3 := Lib.hid (hb2.out.trans (hb3.mono (by omega)))
  go_wp2_with fail
  go_ret
  exact ⟨ret_bool hF.out.symm, hb3.out⟩
end Go.Proofs.YthmchdpinobbgaaGreatDoor
