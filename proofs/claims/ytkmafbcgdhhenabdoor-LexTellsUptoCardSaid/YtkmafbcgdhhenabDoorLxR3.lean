/-
  The walks of the reference's Has, Keyword, marks, mark, word. Conditions: texts shorter than 2^47 bytes.
-/
import Derived.Test.YtkmafbcgdhhenabDoorLxR1
import Derived.Test.YtkmafbcgdhhenabDoorLxR2
import Derived.Deep.RegionHeld3
import Derived.Deep.DrawnRows
namespace Go.Proofs.YtkmafbcgdhhenabDoor
open Go.RowKit Go.Lx
attribute [local go_sem ↓] Go.wp_at_zero Go.wp_at_succ

/-- texts behind a slice at a block's beginning -/
def Txt (w : World) (b : Nat) (xs : List (List UInt8)) : Prop := b < w.heap.size ∧ ∀ j, j < xs.length → w.cell? ⟨b, j, none⟩ = some (.string (strOf (xs.getD j [])))
theorem Txt.later {w w' : World} {b : Nat} {xs : List (List UInt8)} (h : Txt w b xs) (hb : Below w.heap.size w w') : Txt w' b xs :=
  ⟨Nat.lt_of_lt_of_le h.1 hb.size, fun j hj => (hb.cell (p := ⟨b, j, none⟩) h.1).trans (h.2 j hj)⟩
theorem Txt.new (W : World) (xs : List (List UInt8)) (t : TypeId) : Txt (W.alloc (.cells (xs.map fun x => Value.string (strOf x)).toArray t)) W.heap.size xs := by
  refine ⟨by simp, fun j hj => ?_⟩
  rw [cell_of_row _ W.heap.size j (xs.map fun x => Value.string (strOf x)).toArray t (0, 0) (by show (W.heap.push _)[W.heap.size]? = _; simp), List.getElem?_toArray, List.getElem?_map, List.getD_eq_getElem?_getD, List.getElem?_eq_getElem hj]
  rfl

def hasT (xs : List (List UInt8)) (t : List UInt8) : Bool := xs.contains t

set_option maxRecDepth 100000 in
set_option maxHeartbeats 1000000 in
theorem has_any (b : Nat) (xs : List (List UInt8)) (c : Nat) (s : ByteArray) (w : World) (hU : Txt w b xs) (hl : xs.length ≤ 100) :
    Calls Tryd.prog 33 #[.slice (some ⟨b, 0, none⟩) xs.length c, .string s] w fun e w' => e = .returned (.bool (hasT xs s.data.toList)) ∧ w' = w := by
  go_enter Tryd.func33, Tryd.ntmps33
  go_wp2_with fail
  go_loop [5] (fun i => ∃ k : Nat, k ≤ xs.length ∧ i = .int .i64 k ∧ Hid (∀ j, j < k → xs.getD j [] ≠ s.data.toList)) (fun i => xs.length - (intOf i).toNat)
  case atStart => exact ⟨0, Nat.zero_le _, rfl, fun j hj => by omega⟩
  case round =>
    obtain ⟨k, hk, rfl, hok⟩ := hrel
    by_cases hlt : k < xs.length
    · have hc := hU.2 k hlt
      have hy : Hid ((strOf (xs.getD k [])).data.toList = xs.getD k []) := data_strOf _
      cases hq : ((strOf (xs.getD k [])).toList == s.toList) with
      | true =>
        have hE : Hid (hasT xs s.data.toList = true) := by
          show xs.contains _ = true
          rw [toList_data, toList_data, hy.out] at hq
          have : xs.getD k [] = s.data.toList := by simpa using hq
          rw [List.contains_iff_mem, ← this, List.getD_eq_getElem?_getD, List.getElem?_eq_getElem hlt]
          exact List.getElem_mem _
        generalize strOf (xs.getD k []) = X0 at hc hq
        go_wp2_with fail
        go_ret
        exact ⟨ret_bool hE.out.symm, rfl⟩
      | false =>
        have hE : Hid (∀ j, j < k + 1 → xs.getD j [] ≠ s.data.toList) := fun j hj => by
          by_cases e : j < k
          · exact hok.out j e
          · obtain rfl : j = k := by omega
            rw [toList_data, toList_data, hy.out] at hq
            simpa using hq
        generalize strOf (xs.getD k []) = X0 at hc hq
        go_wp2_with fail
        go_round
        case rel => exact ⟨k + 1, by omega, by go_num, hE⟩
        case measure => simp [intOf]; omega
    · have hE : Hid (hasT xs s.data.toList = false) := by
        show xs.contains _ = false
        cases hc : xs.contains s.data.toList with
        | false => rfl
        | true =>
          rw [List.contains_iff_mem] at hc
          obtain ⟨j, hj, e⟩ := List.getElem_of_mem hc
          have := hok.out j (by omega)
          rw [List.getD_eq_getElem?_getD, List.getElem?_eq_getElem hj] at this
          exact absurd e this
      go_wp2_with fail
      go_ret
      exact ⟨ret_bool hE.out.symm, rfl⟩
theorem contains_key (t : List UInt8) : hasT keys t = isKey t := by
  unfold isKey hasT
  rw [Bool.eq_iff_iff, List.contains_iff_mem, List.any_eq_true]
  exact ⟨fun h => ⟨t, h, by simp⟩, fun ⟨k, hk, e⟩ => by have : k = t := by simpa using e
                                                        subst this; exact hk⟩

set_option maxRecDepth 100000 in
set_option maxHeartbeats 1000000 in
theorem refkeyword_any (s : ByteArray) (w : World) : Calls Tryd.prog 19 #[.string s] w fun e w' => e = .returned (.bool (isKey s.data.toList)) ∧ Below w.heap.size w w' := by
  have hT : Hid (Txt (w.alloc (.cells #[.string ⟨#[102, 117, 110]⟩, .string ⟨#[108, 101, 116]⟩, .string ⟨#[105, 110]⟩, .string ⟨#[105, 102]⟩, .string ⟨#[116, 104, 101, 110]⟩, .string ⟨#[101, 108, 115, 101]⟩, .string ⟨#[119, 104, 105, 108, 101]⟩, .string ⟨#[100, 111]⟩, .string ⟨#[114, 97, 105, 115, 101]⟩, .string ⟨#[116, 114, 121]⟩, .string ⟨#[119, 105, 116, 104]⟩, .string ⟨#[105, 110, 112, 117, 116]⟩, .string ⟨#[99, 101, 108, 108]⟩, .string ⟨#[100, 101, 102]⟩] 9)) w.heap.size keys) := Txt.new w keys 9
  have hb : Hid (Below w.heap.size w (w.alloc (.cells #[.string ⟨#[102, 117, 110]⟩, .string ⟨#[108, 101, 116]⟩, .string ⟨#[105, 110]⟩, .string ⟨#[105, 102]⟩, .string ⟨#[116, 104, 101, 110]⟩, .string ⟨#[101, 108, 115, 101]⟩, .string ⟨#[119, 104, 105, 108, 101]⟩, .string ⟨#[100, 111]⟩, .string ⟨#[114, 97, 105, 115, 101]⟩, .string ⟨#[116, 114, 121]⟩, .string ⟨#[119, 105, 116, 104]⟩, .string ⟨#[105, 110, 112, 117, 116]⟩, .string ⟨#[99, 101, 108, 108]⟩, .string ⟨#[100, 101, 102]⟩] 9))) := later_alloc w _
  go_enter Tryd.func19, Tryd.ntmps19
  go_wp2_with fail
  generalize w.alloc (.cells #[.string ⟨#[102, 117, 110]⟩, .string ⟨#[108, 101, 116]⟩, .string ⟨#[105, 110]⟩, .string ⟨#[105, 102]⟩, .string ⟨#[116, 104, 101, 110]⟩, .string ⟨#[101, 108, 115, 101]⟩, .string ⟨#[119, 104, 105, 108, 101]⟩, .string ⟨#[100, 111]⟩, .string ⟨#[114, 97, 105, 115, 101]⟩, .string ⟨#[116, 114, 121]⟩, .string ⟨#[119, 105, 116, 104]⟩, .string ⟨#[105, 110, 112, 117, 116]⟩, .string ⟨#[99, 101, 108, 108]⟩, .string ⟨#[100, 101, 102]⟩] 9) = W0 at hT hb ⊢
  refine (has_any w.heap.size keys 14 s W0 hT.out (by decide)).mono ?_
  rintro e w' ⟨rfl, rfl⟩
  rw [contains_key]
  go_wp2_with fail
  go_ret
  exact ⟨rfl, hb.out⟩

set_option maxRecDepth 100000 in
theorem marks_any (w : World) : Calls Tryd.prog 46 #[] w fun e w' => e = .returned (.slice (some ⟨w.heap.size, 0, none⟩) 13 13) ∧ Below w.heap.size w w' ∧ Txt w' w.heap.size marksL := by
  have hT : Hid (Txt (w.alloc (.cells #[.string ⟨#[61, 62]⟩, .string ⟨#[58, 61]⟩, .string ⟨#[40]⟩, .string ⟨#[41]⟩, .string ⟨#[59]⟩, .string ⟨#[58]⟩, .string ⟨#[61]⟩, .string ⟨#[33]⟩, .string ⟨#[43]⟩, .string ⟨#[45]⟩, .string ⟨#[42]⟩, .string ⟨#[60]⟩, .string ⟨#[46]⟩] 9)) w.heap.size marksL) := Txt.new w marksL 9
  have hb : Hid (Below w.heap.size w (w.alloc (.cells #[.string ⟨#[61, 62]⟩, .string ⟨#[58, 61]⟩, .string ⟨#[40]⟩, .string ⟨#[41]⟩, .string ⟨#[59]⟩, .string ⟨#[58]⟩, .string ⟨#[61]⟩, .string ⟨#[33]⟩, .string ⟨#[43]⟩, .string ⟨#[45]⟩, .string ⟨#[42]⟩, .string ⟨#[60]⟩, .string ⟨#[46]⟩] 9))) := later_alloc w _
  go_enter Tryd.func46, Tryd.ntmps46
  go_wp2_with fail
  go_ret
  exact ⟨rfl, hb.out, hT.out⟩

theorem pref_iff (m l : List UInt8) : m.isPrefixOf l = true ↔ m.length ≤ l.length ∧ l.take m.length = m := by
  rw [List.isPrefixOf_iff_prefix]
  exact ⟨fun h => ⟨h.length_le, (List.prefix_iff_eq_take.1 h).symm⟩, fun h => List.prefix_iff_eq_take.2 h.2.symm⟩
theorem mark_at {l : List UInt8} {k : Nat} (hk : k < marksL.length) (h : ∀ j, j < k → (marksL.getD j []).isPrefixOf l = false) (h2 : (marksL.getD k []).isPrefixOf l = true) : markL l = marksL.getD k [] := by
  unfold markL
  have : marksL.find? (fun m => m.isPrefixOf l) = some (marksL.getD k []) := by
    rw [List.find?_eq_some_iff_getElem]
    refine ⟨h2, k, hk, ?_, fun j hj => ?_⟩
    · rw [List.getD_eq_getElem?_getD, List.getElem?_eq_getElem hk]; rfl
    · have := h j hj
      rw [List.getD_eq_getElem?_getD, List.getElem?_eq_getElem (by omega)] at this
      simpa using this
  rw [this]; rfl
theorem mark_none {l : List UInt8} (h : ∀ j, j < marksL.length → (marksL.getD j []).isPrefixOf l = false) : markL l = [] := by
  unfold markL
  have : marksL.find? (fun m => m.isPrefixOf l) = none := by
    rw [List.find?_eq_none]
    intro m hm
    obtain ⟨j, hj, rfl⟩ := List.getElem_of_mem hm
    have := h j hj
    rw [List.getD_eq_getElem?_getD, List.getElem?_eq_getElem hj] at this
    have h2 : marksL[j].isPrefixOf l = false := this
    rw [h2]; simp
  rw [this]; rfl

end Go.Proofs.YtkmafbcgdhhenabDoor
