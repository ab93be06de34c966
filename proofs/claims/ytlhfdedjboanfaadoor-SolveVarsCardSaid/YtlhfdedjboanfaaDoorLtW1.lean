/-
  The walks of lat.letter, lat.digit, lat.all, lat.Name: what each returns; nothing is written. No condition but the arguments' ranges.
-/
import Derived.Test.YtlhfdedjboanfaaDoorLtBase
import Derived.Lib.Hide
namespace Go.Proofs.YtlhfdedjboanfaaDoor.L
open Go.RowKit Go.Shelf Go.Lt

def letterI (c : Int) : Bool := decide (97 ≤ c ∧ c ≤ 122 ∨ 65 ≤ c ∧ c ≤ 90)
def digitI (c : Int) : Bool := decide (48 ≤ c ∧ c ≤ 57)

theorem ret_bool {a b : Bool} (h : a = b) : Ending.returned (.bool a) = .returned (.bool b) := by rw [h]
theorem ret_int {k : IntKind} {a b : Int} (h : a = b) : Ending.returned (.int k a) = .returned (.int k b) := by rw [h]

theorem letter_any (c : Int) (w : World) : Calls Tryd.prog 87 #[.int .u8 c] w fun e w' => e = .returned (.bool (letterI c)) ∧ w = w' := by
  by_cases h1 : 97 ≤ c <;> by_cases h2 : c ≤ 122 <;> by_cases h3 : 65 ≤ c <;> by_cases h4 : c ≤ 90
  all_goals first
    | omega
    | (go_enter Tryd.func87, Tryd.ntmps87
       go_wp2
       go_ret
       exact ⟨ret_bool (by unfold letterI; simp; omega), rfl⟩)
theorem digit_any (c : Int) (w : World) : Calls Tryd.prog 88 #[.int .u8 c] w fun e w' => e = .returned (.bool (digitI c)) ∧ w = w' := by
  by_cases h1 : 48 ≤ c <;> by_cases h2 : c ≤ 57
  all_goals first
    | omega
    | (go_enter Tryd.func88, Tryd.ntmps88
       go_wp2
       go_ret
       exact ⟨ret_bool (by unfold digitI; simp; omega), rfl⟩)

theorem all_any (n : Nat) (hn : n ≤ 64) (w : World) : Calls Tryd.prog 56 #[.int .i64 n] w fun e w' => e = .returned (.int .u64 (Lt.all n : Nat)) ∧ w = w' := by
  go_enter Tryd.func56, Tryd.ntmps56
  go_wp2
  go_ret
  refine ⟨ret_int ?_, rfl⟩
  have h1 : (2 : Int) ^ n = ((2 ^ n : Nat) : Int) := by simp
  have h2 := Nat.two_pow_pos n
  have h3 := Nat.pow_le_pow_right (n := 2) (by omega) hn
  rw [IntKind.wrap_u64, IntKind.wrap_u64, h1]
  unfold Lt.all
  generalize 2 ^ n = p at h2 h3 ⊢
  omega

/-- a letter or a digit, at a place of a string -/
def okAt (s : ByteArray) (j : Nat) : Bool := letterI (s.data.toList.getD j 0).toNat || digitI (s.data.toList.getD j 0).toNat
def nameB (s : ByteArray) : Bool := decide (1 ≤ s.size) && decide (s.size ≤ 16) && letterI (s.data.toList.getD 0 0).toNat && (List.range s.size).all (okAt s)
theorem get_byte (s : ByteArray) (k : Nat) (h : k < s.size) : s.data.toList.getD k 0 = s[k] := by
  have h' : k < s.data.toList.length := by simpa using h
  rw [List.getD_eq_getElem?_getD, List.getElem?_eq_getElem h']
  rfl

set_option maxHeartbeats 400000 in
theorem name_any (s : ByteArray) (w : World) (hs : s.size ≤ 9223372036854775807) : Calls Tryd.prog 77 #[.string s] w fun e w' => e = .returned (.bool (nameB s)) ∧ w = w' := by
  by_cases h0 : s.size = 0
  · have hE : Hid (nameB s = false) := by
      show nameB s = false
      simp [nameB, h0]
    have h0' : ((s.size : Int) == 0) = true := by simp [h0]
    clear h0
    go_enter Tryd.func77, Tryd.ntmps77
    go_wp2
    go_ret
    exact ⟨ret_bool hE.out.symm, rfl⟩
  have h0' : ((s.size : Int) == 0) = false := beq_eq_false_iff_ne.2 (by omega)
  have hpos : 0 < s.size := by omega
  clear h0
  by_cases h1 : 16 < s.size
  · have hE : Hid (nameB s = false) := by
      show nameB s = false
      have : decide (s.size ≤ 16) = false := by simp; omega
      simp [nameB, this]
    go_enter Tryd.func77, Tryd.ntmps77
    go_wp2
    go_ret
    exact ⟨ret_bool hE.out.symm, rfl⟩
  by_cases h2 : letterI (s[0].toNat : Int) = true
  · have hN : Hid (nameB s = (List.range s.size).all (okAt s)) := by
      show nameB s = _
      have e1 : decide (1 ≤ s.size) = true := by simp; omega
      have e2 : decide (s.size ≤ 16) = true := by simp; omega
      rw [nameB, e1, e2, get_byte s 0 hpos, h2]
      simp
    have h2' : letterI (s[0].toNat : Int) = true := h2
    clear h2
    go_enter Tryd.func77, Tryd.ntmps77
    go_wp2_with (go_at_call 87; refine (letter_any _ _).mono ?_; rintro e w' ⟨rfl, rfl⟩)
    go_loop [20] (fun i => ∃ k : Nat, k ≤ s.size ∧ i = .int .i64 k ∧ Hid (∀ j, j < k → okAt s j = true)) (fun i => s.size - (intOf i).toNat)
    case atStart => exact ⟨0, Nat.zero_le _, rfl, fun j hj => by omega⟩
    case round =>
      obtain ⟨k, hk, rfl, hok⟩ := hrel
      by_cases hlt : k < s.size
      · by_cases g1 : letterI (s[k].toNat : Int) = true
        · have g3 : Hid (∀ j, j < k + 1 → okAt s j = true) := fun j hj => by
            by_cases e : j < k
            · exact hok.out j e
            · obtain rfl : j = k := by omega
              unfold okAt
              rw [get_byte s j hlt, g1]; rfl
          go_wp2_with (go_at_call 87; refine (letter_any _ _).mono ?_; rintro e w' ⟨rfl, rfl⟩)
          go_round
          case rel => exact ⟨k + 1, by omega, by go_num, g3⟩
          case measure => simp [intOf]; omega
        · have g1 : letterI (s[k].toNat : Int) = false := by simpa using g1
          by_cases g2 : digitI (s[k].toNat : Int) = true
          · have g3 : Hid (∀ j, j < k + 1 → okAt s j = true) := fun j hj => by
              by_cases e : j < k
              · exact hok.out j e
              · obtain rfl : j = k := by omega
                unfold okAt
                rw [get_byte s j hlt, g2]; simp
            go_wp2_with (first | (go_at_call 87; refine (letter_any _ _).mono ?_; rintro e w' ⟨rfl, rfl⟩) | (go_at_call 88; refine (digit_any _ _).mono ?_; rintro e w' ⟨rfl, rfl⟩))
            go_round
            case rel => exact ⟨k + 1, by omega, by go_num, g3⟩
            case measure => simp [intOf]; omega
          · have g2 : digitI (s[k].toNat : Int) = false := by simpa using g2
            have g3 : Hid (nameB s = false) := by
              show nameB s = false
              rw [hN.out, List.all_eq_false]
              refine ⟨k, by simpa using hlt, ?_⟩
              unfold okAt
              rw [get_byte s k hlt, g1, g2]; simp
            go_wp2_with (first | (go_at_call 87; refine (letter_any _ _).mono ?_; rintro e w' ⟨rfl, rfl⟩) | (go_at_call 88; refine (digit_any _ _).mono ?_; rintro e w' ⟨rfl, rfl⟩))
            go_ret
            exact ⟨ret_bool g3.out.symm, rfl⟩
      · have g3 : Hid (nameB s = true) := by
          show nameB s = true
          rw [hN.out, List.all_eq_true]
          intro j hj
          exact hok.out j (by have := List.mem_range.1 hj; omega)
        go_wp2
        go_ret
        exact ⟨ret_bool g3.out.symm, rfl⟩
  · have h2' : letterI (s[0].toNat : Int) = false := by simpa using h2
    have hE : Hid (nameB s = false) := by
      show nameB s = false
      rw [nameB, get_byte s 0 hpos, h2']
      simp
    clear h2
    go_enter Tryd.func77, Tryd.ntmps77
    go_wp2_with (go_at_call 87; refine (letter_any _ _).mono ?_; rintro e w' ⟨rfl, rfl⟩)
    go_ret
    exact ⟨ret_bool hE.out.symm, rfl⟩
end Go.Proofs.YtlhfdedjboanfaaDoor.L
