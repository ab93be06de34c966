/-
  The walk of lex.Keyword. Condition: the table of keywords lies as laid.
-/
import Derived.Test.YthmchdpinobbgaaGreatDoorLxBase
namespace Go.Proofs.YthmchdpinobbgaaGreatDoor.X
open Go.RowKit Go.Lx

theorem idx_key (arr : Array Value) (i : Int) (w : World) (h0 : 0 ≤ i) (hi : i < 14) (hs : arr.size = 14) : (Instr.index 110 (.agg arr) (.int .i64 i)).run Tryz.prog w = .ok (arr[i.toNat]?.getD undef) w := by
  have h := Tryz.underlying110
  have h9 := Tryz.sizeOf9
  obtain ⟨k, rfl⟩ := Int.eq_ofNat_of_zero_le h0
  have hk : k < arr.size := by omega
  have ha : arr[k]? = some arr[k] := Array.getElem?_eq_getElem hk
  simp [Instr.index, run_underlying h, asIntOf, go_sem, ha, h9]
  intro hh; omega
attribute [local go_sem] idx_key
theorem key_at {l : List UInt8} {k : Nat} (hk : k < 14) (h : keys.getD k [] = l) : isKey l = true := by
  unfold isKey
  rw [List.any_eq_true]
  refine ⟨keys.getD k [], ?_, beq_iff_eq.2 h⟩
  rw [List.getD_eq_getElem?_getD, List.getElem?_eq_getElem (show k < keys.length from hk)]
  exact List.getElem_mem _
theorem key_none {l : List UInt8} (h : ∀ j, j < 14 → keys.getD j [] ≠ l) : isKey l = false := by
  unfold isKey
  rw [List.any_eq_false]
  intro x hx
  obtain ⟨j, hj, rfl⟩ := List.getElem_of_mem hx
  have := h j hj
  rw [List.getD_eq_getElem?_getD, List.getElem?_eq_getElem hj] at this
  simpa using this
theorem toList_data (s : ByteArray) : s.toList = s.data.toList := ByteArray.toList_eq s

set_option maxRecDepth 100000 in
set_option maxHeartbeats 400000 in
theorem keyword_any (s : ByteArray) (w : World) (hE : Env w) : Calls Tryz.prog 47 #[.string s] w fun e w' => e = .returned (.bool (isKey s.data.toList)) ∧ w = w' := by
  obtain ⟨b0, e0, h0⟩ : ∃ b : ByteArray, Hid (b.data.toList = keys.getD 0 []) ∧ w.cell? ⟨1, 0, none⟩ = some (.string b) := ⟨_, by show (List.toArray _).toList = _; simp, hE.keys 0 (by decide)⟩
  obtain ⟨b1, e1, h1⟩ : ∃ b : ByteArray, Hid (b.data.toList = keys.getD 1 []) ∧ w.cell? ⟨1, 1, none⟩ = some (.string b) := ⟨_, by show (List.toArray _).toList = _; simp, hE.keys 1 (by decide)⟩
  obtain ⟨b2, e2, h2⟩ : ∃ b : ByteArray, Hid (b.data.toList = keys.getD 2 []) ∧ w.cell? ⟨1, 2, none⟩ = some (.string b) := ⟨_, by show (List.toArray _).toList = _; simp, hE.keys 2 (by decide)⟩
  obtain ⟨b3, e3, h3⟩ : ∃ b : ByteArray, Hid (b.data.toList = keys.getD 3 []) ∧ w.cell? ⟨1, 3, none⟩ = some (.string b) := ⟨_, by show (List.toArray _).toList = _; simp, hE.keys 3 (by decide)⟩
  obtain ⟨b4, e4, h4⟩ : ∃ b : ByteArray, Hid (b.data.toList = keys.getD 4 []) ∧ w.cell? ⟨1, 4, none⟩ = some (.string b) := ⟨_, by show (List.toArray _).toList = _; simp, hE.keys 4 (by decide)⟩
  obtain ⟨b5, e5, h5⟩ : ∃ b : ByteArray, Hid (b.data.toList = keys.getD 5 []) ∧ w.cell? ⟨1, 5, none⟩ = some (.string b) := ⟨_, by show (List.toArray _).toList = _; simp, hE.keys 5 (by decide)⟩
  obtain ⟨b6, e6, h6⟩ : ∃ b : ByteArray, Hid (b.data.toList = keys.getD 6 []) ∧ w.cell? ⟨1, 6, none⟩ = some (.string b) := ⟨_, by show (List.toArray _).toList = _; simp, hE.keys 6 (by decide)⟩
  obtain ⟨b7, e7, h7⟩ : ∃ b : ByteArray, Hid (b.data.toList = keys.getD 7 []) ∧ w.cell? ⟨1, 7, none⟩ = some (.string b) := ⟨_, by show (List.toArray _).toList = _; simp, hE.keys 7 (by decide)⟩
  obtain ⟨b8, e8, h8⟩ : ∃ b : ByteArray, Hid (b.data.toList = keys.getD 8 []) ∧ w.cell? ⟨1, 8, none⟩ = some (.string b) := ⟨_, by show (List.toArray _).toList = _; simp, hE.keys 8 (by decide)⟩
  obtain ⟨b9, e9, h9⟩ : ∃ b : ByteArray, Hid (b.data.toList = keys.getD 9 []) ∧ w.cell? ⟨1, 9, none⟩ = some (.string b) := ⟨_, by show (List.toArray _).toList = _; simp, hE.keys 9 (by decide)⟩
  obtain ⟨b10, e10, h10⟩ : ∃ b : ByteArray, Hid (b.data.toList = keys.getD 10 []) ∧ w.cell? ⟨1, 10, none⟩ = some (.string b) := ⟨_, by show (List.toArray _).toList = _; simp, hE.keys 10 (by decide)⟩
  obtain ⟨b11, e11, h11⟩ : ∃ b : ByteArray, Hid (b.data.toList = keys.getD 11 []) ∧ w.cell? ⟨1, 11, none⟩ = some (.string b) := ⟨_, by show (List.toArray _).toList = _; simp, hE.keys 11 (by decide)⟩
  obtain ⟨b12, e12, h12⟩ : ∃ b : ByteArray, Hid (b.data.toList = keys.getD 12 []) ∧ w.cell? ⟨1, 12, none⟩ = some (.string b) := ⟨_, by show (List.toArray _).toList = _; simp, hE.keys 12 (by decide)⟩
  obtain ⟨b13, e13, h13⟩ : ∃ b : ByteArray, Hid (b.data.toList = keys.getD 13 []) ∧ w.cell? ⟨1, 13, none⟩ = some (.string b) := ⟨_, by show (List.toArray _).toList = _; simp, hE.keys 13 (by decide)⟩
  go_enter Tryz.func47, Tryz.ntmps47
  go_wp2
  clear h0 h1 h2 h3 h4 h5 h6 h7 h8 h9 h10 h11 h12 h13
  go_loop [6] (fun i => ∃ k : Nat, k ≤ 14 ∧ i = .int .i64 k ∧ Hid (∀ j, j < k → keys.getD j [] ≠ s.data.toList)) (fun i => 14 - (intOf i).toNat)
  case atStart => exact ⟨0, Nat.zero_le _, rfl, fun j hj => by omega⟩
  case round =>
    obtain ⟨k, hk, rfl, hok⟩ := hrel
    obtain rfl | rfl | rfl | rfl | rfl | rfl | rfl | rfl | rfl | rfl | rfl | rfl | rfl | rfl | rfl : k = 0 ∨ k = 1 ∨ k = 2 ∨ k = 3 ∨ k = 4 ∨ k = 5 ∨ k = 6 ∨ k = 7 ∨ k = 8 ∨ k = 9 ∨ k = 10 ∨ k = 11 ∨ k = 12 ∨ k = 13 ∨ k = 14 := by omega
    · cases hq : (b0.toList == s.toList) with
      | true =>
        have g : Hid (isKey s.data.toList = true) := key_at (k := 0) (by decide) (by rw [← e0.out, ← toList_data, ← toList_data]; simpa using hq)
        go_wp2
        go_ret
        exact ⟨ret_bool g.out.symm, rfl⟩
      | false =>
        have g : Hid (∀ j, j < 0 + 1 → keys.getD j [] ≠ s.data.toList) := fun j hj => by
          by_cases e : j < 0
          · exact hok.out j e
          · obtain rfl : j = 0 := by omega
            rw [← e0.out, ← toList_data, ← toList_data]; simpa using hq
        go_wp2
        go_round
        case rel => exact ⟨0 + 1, by omega, by go_num, g⟩
        case measure => simp [intOf]
    · cases hq : (b1.toList == s.toList) with
      | true =>
        have g : Hid (isKey s.data.toList = true) := key_at (k := 1) (by decide) (by rw [← e1.out, ← toList_data, ← toList_data]; simpa using hq)
        go_wp2
        go_ret
        exact ⟨ret_bool g.out.symm, rfl⟩
      | false =>
        have g : Hid (∀ j, j < 1 + 1 → keys.getD j [] ≠ s.data.toList) := fun j hj => by
          by_cases e : j < 1
          · exact hok.out j e
          · obtain rfl : j = 1 := by omega
            rw [← e1.out, ← toList_data, ← toList_data]; simpa using hq
        go_wp2
        go_round
        case rel => exact ⟨1 + 1, by omega, by go_num, g⟩
        case measure => simp [intOf]
    · cases hq : (b2.toList == s.toList) with
      | true =>
        have g : Hid (isKey s.data.toList = true) := key_at (k := 2) (by decide) (by rw [← e2.out, ← toList_data, ← toList_data]; simpa using hq)
        go_wp2
        go_ret
        exact ⟨ret_bool g.out.symm, rfl⟩
      | false =>
        have g : Hid (∀ j, j < 2 + 1 → keys.getD j [] ≠ s.data.toList) := fun j hj => by
          by_cases e : j < 2
          · exact hok.out j e
          · obtain rfl : j = 2 := by omega
            rw [← e2.out, ← toList_data, ← toList_data]; simpa using hq
        go_wp2
        go_round
        case rel => exact ⟨2 + 1, by omega, by go_num, g⟩
        case measure => simp [intOf]
    · cases hq : (b3.toList == s.toList) with
      | true =>
        have g : Hid (isKey s.data.toList = true) := key_at (k := 3) (by decide) (by rw [← e3.out, ← toList_data, ← toList_data]; simpa using hq)
        go_wp2
        go_ret
        exact ⟨ret_bool g.out.symm, rfl⟩
      | false =>
        have g : Hid (∀ j, j < 3 + 1 → keys.getD j [] ≠ s.data.toList) := fun j hj => by
          by_cases e : j < 3
          · exact hok.out j e
          · obtain rfl : j = 3 := by omega
            rw [← e3.out, ← toList_data, ← toList_data]; simpa using hq
        go_wp2
        go_round
        case rel => exact ⟨3 + 1, by omega, by go_num, g⟩
        case measure => simp [intOf]
    · cases hq : (b4.toList == s.toList) with
      | true =>
        have g : Hid (isKey s.data.toList = true) := key_at (k := 4) (by decide) (by rw [← e4.out, ← toList_data, ← toList_data]; simpa using hq)
        go_wp2
        go_ret
        exact ⟨ret_bool g.out.symm, rfl⟩
      | false =>
        have g : Hid (∀ j, j < 4 + 1 → keys.getD j [] ≠ s.data.toList) := fun j hj => by
          by_cases e : j < 4
          · exact hok.out j e
          · obtain rfl : j = 4 := by omega
            rw [← e4.out, ← toList_data, ← toList_data]; simpa using hq
        go_wp2
        go_round
        case rel => exact ⟨4 + 1, by omega, by go_num, g⟩
        case measure => simp [intOf]
    · cases hq : (b5.toList == s.toList) with
      | true =>
        have g : Hid (isKey s.data.toList = true) := key_at (k := 5) (by decide) (by rw [← e5.out, ← toList_data, ← toList_data]; simpa using hq)
        go_wp2
        go_ret
        exact ⟨ret_bool g.out.symm, rfl⟩
      | false =>
        have g : Hid (∀ j, j < 5 + 1 → keys.getD j [] ≠ s.data.toList) := fun j hj => by
          by_cases e : j < 5
          · exact hok.out j e
          · obtain rfl : j = 5 := by omega
            rw [← e5.out, ← toList_data, ← toList_data]; simpa using hq
        go_wp2
        go_round
        case rel => exact ⟨5 + 1, by omega, by go_num, g⟩
        case measure => simp [intOf]
    · cases hq : (b6.toList == s.toList) with
      | true =>
        have g : Hid (isKey s.data.toList = true) := key_at (k := 6) (by decide) (by rw [← e6.out, ← toList_data, ← toList_data]; simpa using hq)
        go_wp2
        go_ret
        exact ⟨ret_bool g.out.symm, rfl⟩
      | false =>
        have g : Hid (∀ j, j < 6 + 1 → keys.getD j [] ≠ s.data.toList) := fun j hj => by
          by_cases e : j < 6
          · exact hok.out j e
          · obtain rfl : j = 6 := by omega
            rw [← e6.out, ← toList_data, ← toList_data]; simpa using hq
        go_wp2
        go_round
        case rel => exact ⟨6 + 1, by omega, by go_num, g⟩
        case measure => simp [intOf]
    · cases hq : (b7.toList == s.toList) with
      | true =>
        have g : Hid (isKey s.data.toList = true) := key_at (k := 7) (by decide) (by rw [← e7.out, ← toList_data, ← toList_data]; simpa using hq)
        go_wp2
        go_ret
        exact ⟨ret_bool g.out.symm, rfl⟩
      | false =>
        have g : Hid (∀ j, j < 7 + 1 → keys.getD j [] ≠ s.data.toList) := fun j hj => by
          by_cases e : j < 7
          · exact hok.out j e
          · obtain rfl : j = 7 := by omega
            rw [← e7.out, ← toList_data, ← toList_data]; simpa using hq
        go_wp2
        go_round
        case rel => exact ⟨7 + 1, by omega, by go_num, g⟩
        case measure => simp [intOf]
    · cases hq : (b8.toList == s.toList) with
      | true =>
        have g : Hid (isKey s.data.toList = true) := key_at (k := 8) (by decide) (by rw [← e8.out, ← toList_data, ← toList_data]; simpa using hq)
        go_wp2
        go_ret
        exact ⟨ret_bool g.out.symm, rfl⟩
      | false =>
        have g : Hid (∀ j, j < 8 + 1 → keys.getD j [] ≠ s.data.toList) := fun j hj => by
          by_cases e : j < 8
          · exact hok.out j e
          · obtain rfl : j = 8 := by omega
            rw [← e8.out, ← toList_data, ← toList_data]; simpa using hq
        go_wp2
        go_round
        case rel => exact ⟨8 + 1, by omega, by go_num, g⟩
        case measure => simp [intOf]
    · cases hq : (b9.toList == s.toList) with
      | true =>
        have g : Hid (isKey s.data.toList = true) := key_at (k := 9) (by decide) (by rw [← e9.out, ← toList_data, ← toList_data]; simpa using hq)
        go_wp2
        go_ret
        exact ⟨ret_bool g.out.symm, rfl⟩
      | false =>
        have g : Hid (∀ j, j < 9 + 1 → keys.getD j [] ≠ s.data.toList) := fun j hj => by
          by_cases e : j < 9
          · exact hok.out j e
          · obtain rfl : j = 9 := by omega
            rw [← e9.out, ← toList_data, ← toList_data]; simpa using hq
        go_wp2
        go_round
        case rel => exact ⟨9 + 1, by omega, by go_num, g⟩
        case measure => simp [intOf]
    · cases hq : (b10.toList == s.toList) with
      | true =>
        have g : Hid (isKey s.data.toList = true) := key_at (k := 10) (by decide) (by rw [← e10.out, ← toList_data, ← toList_data]; simpa using hq)
        go_wp2
        go_ret
        exact ⟨ret_bool g.out.symm, rfl⟩
      | false =>
        have g : Hid (∀ j, j < 10 + 1 → keys.getD j [] ≠ s.data.toList) := fun j hj => by
          by_cases e : j < 10
          · exact hok.out j e
          · obtain rfl : j = 10 := by omega
            rw [← e10.out, ← toList_data, ← toList_data]; simpa using hq
        go_wp2
        go_round
        case rel => exact ⟨10 + 1, by omega, by go_num, g⟩
        case measure => simp [intOf]
    · cases hq : (b11.toList == s.toList) with
      | true =>
        have g : Hid (isKey s.data.toList = true) := key_at (k := 11) (by decide) (by rw [← e11.out, ← toList_data, ← toList_data]; simpa using hq)
        go_wp2
        go_ret
        exact ⟨ret_bool g.out.symm, rfl⟩
      | false =>
        have g : Hid (∀ j, j < 11 + 1 → keys.getD j [] ≠ s.data.toList) := fun j hj => by
          by_cases e : j < 11
          · exact hok.out j e
          · obtain rfl : j = 11 := by omega
            rw [← e11.out, ← toList_data, ← toList_data]; simpa using hq
        go_wp2
        go_round
        case rel => exact ⟨11 + 1, by omega, by go_num, g⟩
        case measure => simp [intOf]
    · cases hq : (b12.toList == s.toList) with
      | true =>
        have g : Hid (isKey s.data.toList = true) := key_at (k := 12) (by decide) (by rw [← e12.out, ← toList_data, ← toList_data]; simpa using hq)
        go_wp2
        go_ret
        exact ⟨ret_bool g.out.symm, rfl⟩
      | false =>
        have g : Hid (∀ j, j < 12 + 1 → keys.getD j [] ≠ s.data.toList) := fun j hj => by
          by_cases e : j < 12
          · exact hok.out j e
          · obtain rfl : j = 12 := by omega
            rw [← e12.out, ← toList_data, ← toList_data]; simpa using hq
        go_wp2
        go_round
        case rel => exact ⟨12 + 1, by omega, by go_num, g⟩
        case measure => simp [intOf]
    · cases hq : (b13.toList == s.toList) with
      | true =>
        have g : Hid (isKey s.data.toList = true) := key_at (k := 13) (by decide) (by rw [← e13.out, ← toList_data, ← toList_data]; simpa using hq)
        go_wp2
        go_ret
        exact ⟨ret_bool g.out.symm, rfl⟩
      | false =>
        have g : Hid (∀ j, j < 13 + 1 → keys.getD j [] ≠ s.data.toList) := fun j hj => by
          by_cases e : j < 13
          · exact hok.out j e
          · obtain rfl : j = 13 := by omega
            rw [← e13.out, ← toList_data, ← toList_data]; simpa using hq
        go_wp2
        go_round
        case rel => exact ⟨13 + 1, by omega, by go_num, g⟩
        case measure => simp [intOf]
    · have g : Hid (isKey s.data.toList = false) := key_none hok.out
      go_wp2
      go_ret
      exact ⟨ret_bool g.out.symm, rfl⟩
end Go.Proofs.YthmchdpinobbgaaGreatDoor.X
