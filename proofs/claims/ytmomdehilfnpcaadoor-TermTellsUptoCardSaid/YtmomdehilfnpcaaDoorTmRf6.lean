/-
  The reference's Name, Has, Keyword, Word. Conditions: a text that a machine can hold.
-/
import Derived.Test.YtmomdehilfnpcaaDoorTmWords
import Derived.Test.YtmomdehilfnpcaaDoorTmFr
import Derived.Deep.RegionHeld3
import Derived.Deep.DrawnRows
namespace Go.Proofs.YtmomdehilfnpcaaDoor
open Go.RowKit Go.Lx
attribute [local go_sem ↓] Go.wp_at_zero Go.wp_at_succ

def strOf (t : List UInt8) : ByteArray := ⟨t.toArray⟩
theorem data_strOf (t : List UInt8) : (strOf t).data.toList = t := by
  show t.toArray.toList = t; simp
/-! Name -/
def okR (s : ByteArray) (j : Nat) : Bool := isLetter (byteAt s j) || (decide (0 < j) && isDigit (byteAt s j))
theorem nameR {s : ByteArray} (h1 : 1 ≤ s.size) (h2 : s.size ≤ 16) (h : ∀ j, j < s.size → okR s j = true) : nameB s = true := by
  refine (nameB_iff s).2 ⟨h1, h2, ?_, fun j hj => ?_⟩
  · have := h 0 (by omega)
    unfold okR at this
    simpa using this
  · have := h j hj
    unfold okR at this
    unfold isAlnum
    cases hl : isLetter (byteAt s j) with
    | true => rfl
    | false => rw [hl] at this; simp at this; simp [this.2]
theorem nameR_no {s : ByteArray} {k : Nat} (hk : k < s.size) (h : okR s k = false) : nameB s = false := nameB_no fun ⟨_, _, h3, h4⟩ => by
  have h5 := h4 k hk
  unfold okR at h
  unfold isAlnum at h5
  rw [Bool.or_eq_false_iff] at h
  rw [h.1] at h5
  by_cases e : k = 0
  · subst e; rw [h.1] at h3; cases h3
  · have : decide (0 < k) = true := by simp; omega
    rw [this] at h
    simp at h h5
    rw [h.2] at h5; cases h5
theorem class_of (c : UInt8) : (isLetter c = letterI c.toNat) ∧ (isDigit c = digitI c.toNat) := ⟨(letterI_eq c).symm, (digitI_eq c).symm⟩

set_option maxRecDepth 100000 in
set_option maxHeartbeats 4000000 in
theorem refname_any (s : ByteArray) (w : World) (hs : s.size ≤ 9223372036854775807) : Calls Tryd.prog 87 #[.string s] w fun e w' => e = .returned (.bool (nameB s)) ∧ w' = w := by
  by_cases hsz : 1 ≤ s.size ∧ s.size ≤ 16
  case neg =>
    have hE : Hid (nameB s = false) := nameB_no fun h => hsz ⟨h.1, h.2.1⟩
    by_cases h1 : 1 ≤ s.size
    · have h2 : 16 < s.size := by omega
      clear hsz
      go_enter Tryd.func87, Tryd.ntmps87
      go_wp2
      go_ret
      exact ⟨ret_bool hE.out.symm, rfl⟩
    · have h2 : s.size = 0 := by omega
      clear hsz
      go_enter Tryd.func87, Tryd.ntmps87
      go_wp2
      go_ret
      exact ⟨ret_bool hE.out.symm, rfl⟩
  obtain ⟨z1, z2⟩ := hsz
  go_enter Tryd.func87, Tryd.ntmps87
  go_wp2_with fail
  go_loop [3] (fun i => ∃ k : Nat, k ≤ s.size ∧ i = .int .i64 k ∧ Hid (∀ j, j < k → okR s j = true)) (fun i => s.size - (intOf i).toNat)
  case atStart => exact ⟨0, Nat.zero_le _, rfl, fun j hj => by omega⟩
  case round =>
    obtain ⟨k, hk, rfl, hok⟩ := hrel
    by_cases hlt : k < s.size
    · have hb := get_byte s k hlt
      obtain ⟨hcl, hcd⟩ := class_of s[k]
      have hlt256 : s[k].toNat < 256 := s[k].toNat_lt
      have hy : okR s k = (letterI s[k].toNat || (decide (0 < k) && digitI s[k].toNat)) := by
        unfold okR; rw [← hb, hcl, hcd]
      replace hy := Lib.hid hy
      have hnext : Hid (okR s k = true → ∀ j, j < k + 1 → okR s j = true) := fun h j hj => by
        by_cases e : j < k
        · exact hok.out j e
        · obtain rfl : j = k := by omega
          exact h
      clear hb hcl hcd
      generalize hc : (s[k].toNat : Int) = c at hy
      have hcr := Lib.hid hc
      obtain i0 | i1 | i2 | i3 | i4 | i5 | i6 : c < 48 ∨ (48 ≤ c ∧ c ≤ 57) ∨ (58 ≤ c ∧ c ≤ 64) ∨ (65 ≤ c ∧ c ≤ 90) ∨ (91 ≤ c ∧ c ≤ 96) ∨ (97 ≤ c ∧ c ≤ 122) ∨ 122 < c := by omega
      · by_cases hk0 : k = 0
        · subst hk0
          have q0 : decide (97 ≤ c) = false := decide_eq_false (by omega)
          have q1 : decide (c ≤ 122) = true := decide_eq_true (by omega)
          have q2 : decide (65 ≤ c) = false := decide_eq_false (by omega)
          have q3 : decide (c ≤ 90) = true := decide_eq_true (by omega)
          have q4 : decide (48 ≤ c) = false := decide_eq_false (by omega)
          have q5 : decide (c ≤ 57) = true := decide_eq_true (by omega)
          have hE : Hid (nameB s = false) := nameR_no hlt (by rw [hy.out]; unfold letterI; simp; omega)
          clear hy hnext hcr
          go_wp2
          go_ret
          exact ⟨ret_bool hE.out.symm, rfl⟩
        · have hkp : 0 < k := by omega
          have hkz : ((k : Int) == 0) = false := beq_eq_false_iff_ne.2 (by omega)
          have q0 : decide (97 ≤ c) = false := decide_eq_false (by omega)
          have q1 : decide (c ≤ 122) = true := decide_eq_true (by omega)
          have q2 : decide (65 ≤ c) = false := decide_eq_false (by omega)
          have q3 : decide (c ≤ 90) = true := decide_eq_true (by omega)
          have q4 : decide (48 ≤ c) = false := decide_eq_false (by omega)
          have q5 : decide (c ≤ 57) = true := decide_eq_true (by omega)
          have hE : Hid (nameB s = false) := nameR_no hlt (by rw [hy.out]; unfold letterI digitI; simp; omega)
          clear hy hnext hcr
          go_wp2
          go_ret
          exact ⟨ret_bool hE.out.symm, rfl⟩
      · by_cases hk0 : k = 0
        · subst hk0
          have q0 : decide (97 ≤ c) = false := decide_eq_false (by omega)
          have q1 : decide (c ≤ 122) = true := decide_eq_true (by omega)
          have q2 : decide (65 ≤ c) = false := decide_eq_false (by omega)
          have q3 : decide (c ≤ 90) = true := decide_eq_true (by omega)
          have q4 : decide (48 ≤ c) = true := decide_eq_true (by omega)
          have q5 : decide (c ≤ 57) = true := decide_eq_true (by omega)
          have hE : Hid (nameB s = false) := nameR_no hlt (by rw [hy.out]; unfold letterI; simp; omega)
          clear hy hnext hcr
          go_wp2
          go_ret
          exact ⟨ret_bool hE.out.symm, rfl⟩
        · have hkp : 0 < k := by omega
          have hkz : ((k : Int) == 0) = false := beq_eq_false_iff_ne.2 (by omega)
          have q0 : decide (97 ≤ c) = false := decide_eq_false (by omega)
          have q1 : decide (c ≤ 122) = true := decide_eq_true (by omega)
          have q2 : decide (65 ≤ c) = false := decide_eq_false (by omega)
          have q3 : decide (c ≤ 90) = true := decide_eq_true (by omega)
          have q4 : decide (48 ≤ c) = true := decide_eq_true (by omega)
          have q5 : decide (c ≤ 57) = true := decide_eq_true (by omega)
          have hE := Lib.hid (hnext.out (by rw [hy.out]; unfold digitI; simp; omega))
          clear hy hnext hcr
          go_wp2
          go_round
          case rel => exact ⟨k + 1, by omega, by go_num, hE⟩
          case measure => simp [intOf]; omega
      · by_cases hk0 : k = 0
        · subst hk0
          have q0 : decide (97 ≤ c) = false := decide_eq_false (by omega)
          have q1 : decide (c ≤ 122) = true := decide_eq_true (by omega)
          have q2 : decide (65 ≤ c) = false := decide_eq_false (by omega)
          have q3 : decide (c ≤ 90) = true := decide_eq_true (by omega)
          have q4 : decide (48 ≤ c) = true := decide_eq_true (by omega)
          have q5 : decide (c ≤ 57) = false := decide_eq_false (by omega)
          have hE : Hid (nameB s = false) := nameR_no hlt (by rw [hy.out]; unfold letterI; simp; omega)
          clear hy hnext hcr
          go_wp2
          go_ret
          exact ⟨ret_bool hE.out.symm, rfl⟩
        · have hkp : 0 < k := by omega
          have hkz : ((k : Int) == 0) = false := beq_eq_false_iff_ne.2 (by omega)
          have q0 : decide (97 ≤ c) = false := decide_eq_false (by omega)
          have q1 : decide (c ≤ 122) = true := decide_eq_true (by omega)
          have q2 : decide (65 ≤ c) = false := decide_eq_false (by omega)
          have q3 : decide (c ≤ 90) = true := decide_eq_true (by omega)
          have q4 : decide (48 ≤ c) = true := decide_eq_true (by omega)
          have q5 : decide (c ≤ 57) = false := decide_eq_false (by omega)
          have hE : Hid (nameB s = false) := nameR_no hlt (by rw [hy.out]; unfold letterI digitI; simp; omega)
          clear hy hnext hcr
          go_wp2
          go_ret
          exact ⟨ret_bool hE.out.symm, rfl⟩
      · have q0 : decide (97 ≤ c) = false := decide_eq_false (by omega)
        have q1 : decide (c ≤ 122) = true := decide_eq_true (by omega)
        have q2 : decide (65 ≤ c) = true := decide_eq_true (by omega)
        have q3 : decide (c ≤ 90) = true := decide_eq_true (by omega)
        have q4 : decide (48 ≤ c) = true := decide_eq_true (by omega)
        have q5 : decide (c ≤ 57) = false := decide_eq_false (by omega)
        have hE := Lib.hid (hnext.out (by rw [hy.out]; unfold letterI; simp; omega))
        clear hy hnext hcr
        go_wp2
        go_round
        case rel => exact ⟨k + 1, by omega, by go_num, hE⟩
        case measure => simp [intOf]; omega
      · by_cases hk0 : k = 0
        · subst hk0
          have q0 : decide (97 ≤ c) = false := decide_eq_false (by omega)
          have q1 : decide (c ≤ 122) = true := decide_eq_true (by omega)
          have q2 : decide (65 ≤ c) = true := decide_eq_true (by omega)
          have q3 : decide (c ≤ 90) = false := decide_eq_false (by omega)
          have q4 : decide (48 ≤ c) = true := decide_eq_true (by omega)
          have q5 : decide (c ≤ 57) = false := decide_eq_false (by omega)
          have hE : Hid (nameB s = false) := nameR_no hlt (by rw [hy.out]; unfold letterI; simp; omega)
          clear hy hnext hcr
          go_wp2
          go_ret
          exact ⟨ret_bool hE.out.symm, rfl⟩
        · have hkp : 0 < k := by omega
          have hkz : ((k : Int) == 0) = false := beq_eq_false_iff_ne.2 (by omega)
          have q0 : decide (97 ≤ c) = false := decide_eq_false (by omega)
          have q1 : decide (c ≤ 122) = true := decide_eq_true (by omega)
          have q2 : decide (65 ≤ c) = true := decide_eq_true (by omega)
          have q3 : decide (c ≤ 90) = false := decide_eq_false (by omega)
          have q4 : decide (48 ≤ c) = true := decide_eq_true (by omega)
          have q5 : decide (c ≤ 57) = false := decide_eq_false (by omega)
          have hE : Hid (nameB s = false) := nameR_no hlt (by rw [hy.out]; unfold letterI digitI; simp; omega)
          clear hy hnext hcr
          go_wp2
          go_ret
          exact ⟨ret_bool hE.out.symm, rfl⟩
      · have q0 : decide (97 ≤ c) = true := decide_eq_true (by omega)
        have q1 : decide (c ≤ 122) = true := decide_eq_true (by omega)
        have q2 : decide (65 ≤ c) = true := decide_eq_true (by omega)
        have q3 : decide (c ≤ 90) = false := decide_eq_false (by omega)
        have q4 : decide (48 ≤ c) = true := decide_eq_true (by omega)
        have q5 : decide (c ≤ 57) = false := decide_eq_false (by omega)
        have hE := Lib.hid (hnext.out (by rw [hy.out]; unfold letterI; simp; omega))
        clear hy hnext hcr
        go_wp2
        go_round
        case rel => exact ⟨k + 1, by omega, by go_num, hE⟩
        case measure => simp [intOf]; omega
      · by_cases hk0 : k = 0
        · subst hk0
          have q0 : decide (97 ≤ c) = true := decide_eq_true (by omega)
          have q1 : decide (c ≤ 122) = false := decide_eq_false (by omega)
          have q2 : decide (65 ≤ c) = true := decide_eq_true (by omega)
          have q3 : decide (c ≤ 90) = false := decide_eq_false (by omega)
          have q4 : decide (48 ≤ c) = true := decide_eq_true (by omega)
          have q5 : decide (c ≤ 57) = false := decide_eq_false (by omega)
          have hE : Hid (nameB s = false) := nameR_no hlt (by rw [hy.out]; unfold letterI; simp; omega)
          clear hy hnext hcr
          go_wp2
          go_ret
          exact ⟨ret_bool hE.out.symm, rfl⟩
        · have hkp : 0 < k := by omega
          have hkz : ((k : Int) == 0) = false := beq_eq_false_iff_ne.2 (by omega)
          have q0 : decide (97 ≤ c) = true := decide_eq_true (by omega)
          have q1 : decide (c ≤ 122) = false := decide_eq_false (by omega)
          have q2 : decide (65 ≤ c) = true := decide_eq_true (by omega)
          have q3 : decide (c ≤ 90) = false := decide_eq_false (by omega)
          have q4 : decide (48 ≤ c) = true := decide_eq_true (by omega)
          have q5 : decide (c ≤ 57) = false := decide_eq_false (by omega)
          have hE : Hid (nameB s = false) := nameR_no hlt (by rw [hy.out]; unfold letterI digitI; simp; omega)
          clear hy hnext hcr
          go_wp2
          go_ret
          exact ⟨ret_bool hE.out.symm, rfl⟩
    · have hE : Hid (nameB s = true) := nameR z1 z2 fun j hj => hok.out j (by omega)
      go_wp2
      go_ret
      exact ⟨ret_bool hE.out.symm, rfl⟩
/-- texts behind a slice at a block's beginning -/
def Txt (w : World) (b : Nat) (xs : List (List UInt8)) : Prop := b < w.heap.size ∧ ∀ j, j < xs.length → w.cell? ⟨b, j, none⟩ = some (.string (strOf (xs.getD j [])))
theorem Txt.later {w w' : World} {b : Nat} {xs : List (List UInt8)} (h : Txt w b xs) (hb : Below w.heap.size w w') : Txt w' b xs :=
  ⟨Nat.lt_of_lt_of_le h.1 hb.size, fun j hj => (hb.cell (p := ⟨b, j, none⟩) h.1).trans (h.2 j hj)⟩
theorem Txt.new (W : World) (xs : List (List UInt8)) (t : TypeId) : Txt (W.alloc (.cells (xs.map fun x => Value.string (strOf x)).toArray t)) W.heap.size xs := by
  refine ⟨by simp, fun j hj => ?_⟩
  rw [cell_of_row _ W.heap.size j (xs.map fun x => Value.string (strOf x)).toArray t (0, 0) (by show (W.heap.push _)[W.heap.size]? = _; simp), List.getElem?_toArray, List.getElem?_map, List.getD_eq_getElem?_getD, List.getElem?_eq_getElem hj]
  rfl

def hasT (xs : List (List UInt8)) (t : List UInt8) : Bool := xs.contains t

set_option maxRecDepth 100000 in
set_option maxHeartbeats 1000000 in
theorem refhas_any (b : Nat) (xs : List (List UInt8)) (c : Nat) (s : ByteArray) (w : World) (hU : Txt w b xs) (hl : xs.length ≤ 100) :
    Calls Tryd.prog 74 #[.slice (some ⟨b, 0, none⟩) xs.length c, .string s] w fun e w' => e = .returned (.bool (hasT xs s.data.toList)) ∧ w' = w := by
  go_enter Tryd.func74, Tryd.ntmps74
  go_wp2_with fail
  go_loop [5] (fun i => ∃ k : Nat, k ≤ xs.length ∧ i = .int .i64 k ∧ Hid (∀ j, j < k → xs.getD j [] ≠ s.data.toList)) (fun i => xs.length - (intOf i).toNat)
  case atStart => exact ⟨0, Nat.zero_le _, rfl, fun j hj => by omega⟩
  case round =>
    obtain ⟨k, hk, rfl, hok⟩ := hrel
    by_cases hlt : k < xs.length
    · have hc := hU.2 k hlt
      have hy : Hid ((strOf (xs.getD k [])).data.toList = xs.getD k []) := data_strOf _
      cases hq : ((strOf (xs.getD k [])).toList == s.toList) with
      | true =>
        have hE : Hid (hasT xs s.data.toList = true) := by
          show xs.contains _ = true
          rw [toList_data, toList_data, hy.out] at hq
          have : xs.getD k [] = s.data.toList := by simpa using hq
          rw [List.contains_iff_mem, ← this, List.getD_eq_getElem?_getD, List.getElem?_eq_getElem hlt]
          exact List.getElem_mem _
        generalize strOf (xs.getD k []) = X0 at hc hq
        go_wp2_with fail
        go_ret
        exact ⟨ret_bool hE.out.symm, rfl⟩
      | false =>
        have hE : Hid (∀ j, j < k + 1 → xs.getD j [] ≠ s.data.toList) := fun j hj => by
          by_cases e : j < k
          · exact hok.out j e
          · obtain rfl : j = k := by omega
            rw [toList_data, toList_data, hy.out] at hq
            simpa using hq
        generalize strOf (xs.getD k []) = X0 at hc hq
        go_wp2_with fail
        go_round
        case rel => exact ⟨k + 1, by omega, by go_num, hE⟩
        case measure => simp [intOf]; omega
    · have hE : Hid (hasT xs s.data.toList = false) := by
        show xs.contains _ = false
        cases hc : xs.contains s.data.toList with
        | false => rfl
        | true =>
          rw [List.contains_iff_mem] at hc
          obtain ⟨j, hj, e⟩ := List.getElem_of_mem hc
          have := hok.out j (by omega)
          rw [List.getD_eq_getElem?_getD, List.getElem?_eq_getElem hj] at this
          exact absurd e this
      go_wp2_with fail
      go_ret
      exact ⟨ret_bool hE.out.symm, rfl⟩
theorem contains_key (t : List UInt8) : hasT keys t = isKey t := by
  unfold isKey hasT
  rw [Bool.eq_iff_iff, List.contains_iff_mem, List.any_eq_true]
  exact ⟨fun h => ⟨t, h, by simp⟩, fun ⟨k, hk, e⟩ => by have : k = t := by simpa using e
                                                        subst this; exact hk⟩

set_option maxRecDepth 100000 in
set_option maxHeartbeats 1000000 in
theorem refkeyword_any (s : ByteArray) (w : World) : Calls Tryd.prog 88 #[.string s] w fun e w' => e = .returned (.bool (isKey s.data.toList)) ∧ Below w.heap.size w w' := by
  have hT : Hid (Txt (w.alloc (.cells #[.string ⟨#[102, 117, 110]⟩, .string ⟨#[108, 101, 116]⟩, .string ⟨#[105, 110]⟩, .string ⟨#[105, 102]⟩, .string ⟨#[116, 104, 101, 110]⟩, .string ⟨#[101, 108, 115, 101]⟩, .string ⟨#[119, 104, 105, 108, 101]⟩, .string ⟨#[100, 111]⟩, .string ⟨#[114, 97, 105, 115, 101]⟩, .string ⟨#[116, 114, 121]⟩, .string ⟨#[119, 105, 116, 104]⟩, .string ⟨#[105, 110, 112, 117, 116]⟩, .string ⟨#[99, 101, 108, 108]⟩, .string ⟨#[100, 101, 102]⟩] 9)) w.heap.size keys) := Txt.new w keys 9
  have hb : Hid (Below w.heap.size w (w.alloc (.cells #[.string ⟨#[102, 117, 110]⟩, .string ⟨#[108, 101, 116]⟩, .string ⟨#[105, 110]⟩, .string ⟨#[105, 102]⟩, .string ⟨#[116, 104, 101, 110]⟩, .string ⟨#[101, 108, 115, 101]⟩, .string ⟨#[119, 104, 105, 108, 101]⟩, .string ⟨#[100, 111]⟩, .string ⟨#[114, 97, 105, 115, 101]⟩, .string ⟨#[116, 114, 121]⟩, .string ⟨#[119, 105, 116, 104]⟩, .string ⟨#[105, 110, 112, 117, 116]⟩, .string ⟨#[99, 101, 108, 108]⟩, .string ⟨#[100, 101, 102]⟩] 9))) := later_alloc w _
  go_enter Tryd.func88, Tryd.ntmps88
  go_wp2_with fail
  generalize w.alloc (.cells #[.string ⟨#[102, 117, 110]⟩, .string ⟨#[108, 101, 116]⟩, .string ⟨#[105, 110]⟩, .string ⟨#[105, 102]⟩, .string ⟨#[116, 104, 101, 110]⟩, .string ⟨#[101, 108, 115, 101]⟩, .string ⟨#[119, 104, 105, 108, 101]⟩, .string ⟨#[100, 111]⟩, .string ⟨#[114, 97, 105, 115, 101]⟩, .string ⟨#[116, 114, 121]⟩, .string ⟨#[119, 105, 116, 104]⟩, .string ⟨#[105, 110, 112, 117, 116]⟩, .string ⟨#[99, 101, 108, 108]⟩, .string ⟨#[100, 101, 102]⟩] 9) = W0 at hT hb ⊢
  refine (refhas_any w.heap.size keys 14 s W0 hT.out (by decide)).mono ?_
  rintro e w' ⟨rfl, rfl⟩
  rw [contains_key]
  go_wp2_with fail
  go_ret
  exact ⟨rfl, hb.out⟩


set_option maxRecDepth 100000 in
set_option maxHeartbeats 1000000 in
theorem refword_any (s : ByteArray) (w : World) (hs : s.size ≤ 9223372036854775807) : Calls Tryd.prog 75 #[.string s] w fun e w' => e = .returned (.bool (nameB s && !isKey s.data.toList)) ∧ Below w.heap.size w w' := by
  have k1 := Lib.hid (refname_any s w hs)
  cases h1 : nameB s with
  | false =>
    rw [h1] at k1
    go_enter Tryd.func75, Tryd.ntmps75
    go_wp2_with fail
    refine k1.out.mono ?_
    rintro e w' ⟨rfl, rfl⟩
    go_wp2_with fail
    go_ret
    exact ⟨rfl, Below.refl _ _⟩
  | true =>
    rw [h1] at k1
    have k2 := Lib.hid (refkeyword_any s w)
    cases h2 : isKey s.data.toList with
    | false =>
      rw [h2] at k2
      go_enter Tryd.func75, Tryd.ntmps75
      go_wp2_with fail
      refine k1.out.mono ?_
      rintro e w' ⟨rfl, rfl⟩
      go_wp2_with fail
      refine k2.out.mono ?_
      rintro e w' ⟨rfl, hb⟩
      replace hb := Lib.hid hb
      go_wp2_with fail
      go_ret
      exact ⟨rfl, hb.out⟩
    | true =>
      rw [h2] at k2
      go_enter Tryd.func75, Tryd.ntmps75
      go_wp2_with fail
      refine k1.out.mono ?_
      rintro e w' ⟨rfl, rfl⟩
      go_wp2_with fail
      refine k2.out.mono ?_
      rintro e w' ⟨rfl, hb⟩
      replace hb := Lib.hid hb
      go_wp2_with fail
      go_ret
      exact ⟨rfl, hb.out⟩
end Go.Proofs.YtmomdehilfnpcaaDoor
