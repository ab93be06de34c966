/-
  lat.readRow, lat.readRows: noughts and ones read as rows. Conditions: a line of at most 64, a text that a machine can hold.
-/
import Derived.Test.YtieamjpfmjkchaaDoorLtTurn
import Derived.Lib.Strings
import Derived.WalkSpells
namespace Go.Proofs.YtieamjpfmjkchaaDoor
open Go.RowKit Go.Shelf Go.Lt

def byteAt (s : ByteArray) (i : Nat) : UInt8 := s.data.toList.getD i 0
/-- the set of the first k bytes behind place i that are a one -/
def lineBits (s : ByteArray) (i : Nat) : Nat → Nat
  | 0 => 0
  | k + 1 => if byteAt s (i + k) = 49 then lineBits s i k ||| 2 ^ k else lineBits s i k
def bitOk (s : ByteArray) (i j : Nat) : Bool := byteAt s (i + j) == 48 || byteAt s (i + j) == 49
def lineOk (s : ByteArray) (i n : Nat) : Bool := (List.range n).all (bitOk s i)
theorem lineBits_bit (s : ByteArray) (i b : Nat) : ∀ k, (lineBits s i k).testBit b = (decide (b < k) && byteAt s (i + b) == 49)
  | 0 => by simp [lineBits]
  | k + 1 => by
    unfold lineBits
    by_cases h : byteAt s (i + k) = 49
    · rw [if_pos h, Nat.testBit_or, lineBits_bit s i b k, Nat.testBit_two_pow]
      by_cases e : b = k
      · subst e; simp [h]
      · have : decide (k = b) = false := by simp; omega
        rw [this]
        by_cases g : b < k
        · have : b < k + 1 := by omega
          simp [g, this]
        · have : ¬ b < k + 1 := by omega
          simp [g, this]
    · rw [if_neg h, lineBits_bit s i b k]
      by_cases e : b = k
      · subst e; simp [h]
      · by_cases g : b < k
        · have : b < k + 1 := by omega
          simp [g, this]
        · have : ¬ b < k + 1 := by omega
          simp [g, this]
theorem lineBits_lt (s : ByteArray) (i k : Nat) : lineBits s i k < 2 ^ k := lt_of_bits fun b hb => by rw [lineBits_bit]; simp; omega

theorem byte_get (s : ByteArray) (k : Nat) (h : k < s.size) : byteAt s k = s[k] := get_byte s k h

def lineVal (s : ByteArray) : Nat := if lineOk s 0 s.size then lineBits s 0 s.size else 0
theorem ret_two {u v : Nat} {a b : Bool} (h : u = v) (k : a = b) : Ending.returned (.tuple #[.int .u64 (u : Int), .bool a]) = .returned (.tuple #[.int .u64 (v : Int), .bool b]) := by rw [h, k]

set_option maxHeartbeats 1000000 in
theorem readRow_any (s : ByteArray) (w : World) (hs : s.size ≤ 64) : Calls Tryd.prog 66 #[.string s] w fun e w' =>
    e = .returned (.tuple #[.int .u64 (lineVal s : Nat), .bool (lineOk s 0 s.size)]) ∧ w = w' := by
  go_enter Tryd.func66, Tryd.ntmps66
  go_wp2
  go_loop [4, 8] (fun r i => ∃ k : Nat, k ≤ s.size ∧ i = .int .i64 k ∧ r = .int .u64 (lineBits s 0 k : Nat) ∧ Hid (∀ j, j < k → bitOk s 0 j = true)) (fun _ i => s.size - (intOf i).toNat)
  case atStart => exact ⟨0, Nat.zero_le _, rfl, rfl, fun j hj => by omega⟩
  case round =>
    obtain ⟨k, hk, rfl, rfl, hok⟩ := hrel
    by_cases hlt : k < s.size
    · have hb := byte_get s k hlt
      by_cases h0 : s[k] = 48
      · have hz : ((s[k].toNat : Int) == 48) = true := by rw [h0]; rfl
        have hn : lineBits s 0 (k + 1) = lineBits s 0 k := by
          rw [lineBits, Nat.zero_add, hb, h0]; rfl
        have hok2 : Hid (∀ j, j < k + 1 → bitOk s 0 j = true) := fun j hj => by
          by_cases e : j < k
          · exact hok.out j e
          · obtain rfl : j = k := by omega
            unfold bitOk; rw [Nat.zero_add, hb, h0]; rfl
        have HN := Lib.hid hn
        clear hn hb h0
        go_wp2
        go_round
        case rel => exact ⟨k + 1, by omega, by go_num, by rw [HN.out], hok2⟩
        case measure => simp [intOf]; omega
      · have hz : ((s[k].toNat : Int) == 48) = false := by
          rw [beq_eq_false_iff_ne]; intro e
          exact h0 (UInt8.toNat_inj.1 (by show s[k].toNat = 48; omega))
        by_cases h1 : s[k] = 49
        · have hz1 : ((s[k].toNat : Int) == 49) = true := by rw [h1]; rfl
          have hn : lineBits s 0 (k + 1) = lineBits s 0 k ||| 2 ^ k := by
            rw [lineBits, Nat.zero_add, hb, h1]; rfl
          have hok2 : Hid (∀ j, j < k + 1 → bitOk s 0 j = true) := fun j hj => by
            by_cases e : j < k
            · exact hok.out j e
            · obtain rfl : j = k := by omega
              unfold bitOk; rw [Nat.zero_add, hb, h1]; rfl
          have HN := Lib.hid hn
          have hlb : lineBits s 0 k < 18446744073709551616 := by
            have h5 := lineBits_lt s 0 k
            have h6 : 2 ^ k ≤ 2 ^ 64 := Nat.pow_le_pow_right (by omega) (by omega)
            have h7 : (2 : Nat) ^ 64 = 18446744073709551616 := by decide
            omega
          have hk64 : k < 64 := by omega
          clear hn hb h0 h1
          go_wp2
          go_round
          case rel => exact ⟨k + 1, by omega, by go_num, by rw [HN.out, or_pow _ _ hlb hk64], hok2⟩
          case measure => simp [intOf]; omega
        · have hz1 : ((s[k].toNat : Int) == 49) = false := by
            rw [beq_eq_false_iff_ne]; intro e
            exact h1 (UInt8.toNat_inj.1 (by show s[k].toNat = 49; omega))
          have hE9 : Hid (lineOk s 0 s.size = false) := by
            show lineOk s 0 s.size = false
            unfold lineOk
            rw [List.all_eq_false]
            refine ⟨k, List.mem_range.2 hlt, ?_⟩
            unfold bitOk; rw [Nat.zero_add, hb]; simp [h0, h1]
          clear hb h0 h1
          go_wp2
          go_ret2
          exact ⟨ret_two (u := 0) (by unfold lineVal; rw [hE9.out]; rfl) hE9.out.symm, rfl⟩
    · obtain rfl : k = s.size := by omega
      have hE9 : Hid (lineOk s 0 s.size = true) := by
        show lineOk s 0 s.size = true
        unfold lineOk
        rw [List.all_eq_true]
        intro j hj
        exact hok.out j (by have := List.mem_range.1 hj; omega)
      go_wp2
      go_ret2
      exact ⟨ret_two (by unfold lineVal; rw [hE9.out]; rfl) hE9.out.symm, rfl⟩

/-- line a of n signs and a line feed -/
def rowOk (s : ByteArray) (n a : Nat) : Bool := lineOk s (a * (n + 1)) n && byteAt s (a * (n + 1) + n) == 10
def rowsOk (s : ByteArray) (n : Nat) : Bool := s.size == n * (n + 1) && (List.range n).all (rowOk s n)
def rowsL (s : ByteArray) (n : Nat) : List Nat := (List.range n).map fun a => lineBits s (a * (n + 1)) n
theorem rowsL_length (s : ByteArray) (n : Nat) : (rowsL s n).length = n := by simp [rowsL]
theorem row_rowsL (s : ByteArray) (n a : Nat) (h : a < n) : row (rowsL s n) a = lineBits s (a * (n + 1)) n := by
  unfold row rowsL
  rw [List.getD_eq_getElem?_getD, List.getElem?_map, List.getElem?_range h]
  rfl
theorem mul_lt {a n : Nat} (h : a < n) : a * (n + 1) + n + 1 ≤ n * (n + 1) := by
  have h1 : (a + 1) * (n + 1) ≤ n * (n + 1) := Nat.mul_le_mul_right _ h
  have h2 : (a + 1) * (n + 1) = a * (n + 1) + (n + 1) := Nat.succ_mul a (n + 1)
  omega
theorem mul_small {n : Nat} (h : n ≤ 64) : n * (n + 1) ≤ 4160 := Nat.mul_le_mul h (by omega : n + 1 ≤ 65)

/-- the signs of a line, cut out -/
def cutLine (s : ByteArray) (i n : Nat) : ByteArray := (s.extract i s.size).extract 0 n
theorem cutLine_size (s : ByteArray) (i n : Nat) (h : i + n ≤ s.size) : (cutLine s i n).size = n := by
  unfold cutLine
  simp [ByteArray.size_extract]; omega
theorem cutLine_byte (s : ByteArray) (i n j : Nat) (_h : i + n ≤ s.size) (hj : j < n) : byteAt (cutLine s i n) j = byteAt s (i + j) := by
  unfold byteAt cutLine
  rw [List.getD_eq_getElem?_getD, List.getD_eq_getElem?_getD, Lib.extract_data, Lib.extract_to_end]
  rw [List.getElem?_take, if_pos (by omega), List.getElem?_drop, List.getElem?_drop, Nat.zero_add]
theorem tail_byte (s : ByteArray) (i n : Nat) : byteAt (s.extract i s.size) n = byteAt s (i + n) := by
  unfold byteAt
  rw [List.getD_eq_getElem?_getD, List.getD_eq_getElem?_getD, Lib.extract_to_end, List.getElem?_drop]

theorem cutLine_ok (s : ByteArray) (i n : Nat) (h : i + n ≤ s.size) : lineOk (cutLine s i n) 0 n = lineOk s i n := by
  unfold lineOk
  refine Bool.eq_iff_iff.2 ?_
  simp only [List.all_eq_true, List.mem_range]
  refine forall_congr' fun j => ?_
  refine imp_congr_right fun hj => ?_
  unfold bitOk
  rw [Nat.zero_add, cutLine_byte _ _ _ _ h hj]
theorem cutLine_bits (s : ByteArray) (i n : Nat) (h : i + n ≤ s.size) : lineBits (cutLine s i n) 0 n = lineBits s i n := by
  apply Nat.eq_of_testBit_eq
  intro b
  rw [lineBits_bit, lineBits_bit]
  by_cases hb : b < n
  · rw [Nat.zero_add, cutLine_byte _ _ _ _ h hb]
  · simp [hb]
theorem rowsOk_row {s : ByteArray} {n a : Nat} (h : rowsOk s n = true) (ha : a < n) : rowOk s n a = true := by
  unfold rowsOk at h
  rw [Bool.and_eq_true] at h
  exact List.all_eq_true.1 h.2 a (List.mem_range.2 ha)
theorem rowOk_parts {s : ByteArray} {n a : Nat} (h : rowOk s n a = true) : lineOk s (a * (n + 1)) n = true ∧ byteAt s (a * (n + 1) + n) = 10 := by
  unfold rowOk at h
  rw [Bool.and_eq_true] at h
  exact ⟨h.1, beq_iff_eq.1 h.2⟩
/-- the rows behind the first k lines -/
def upRow (s : ByteArray) (n k j : Nat) : Nat := if j < k then lineBits s (j * (n + 1)) n else 0
def RowsPost (s : ByteArray) (n : Nat) (w : World) (e : Ending) (w' : World) : Prop :=
  (rowsOk s n = true ∧ e = .returned (.tuple #[.slice (some ⟨w.heap.size, 0, none⟩) n n, .bool true]) ∧ Words w' w'.heap.size (some ⟨w.heap.size, 0, none⟩) (rowsL s n) ∧ Below w.heap.size w w') ∨
  (rowsOk s n = false ∧ e = .returned (.tuple #[.slice none 0 0, .bool false]) ∧ Below w.heap.size w w')
theorem rowsOk_false {s : ByteArray} {n k : Nat} (hk : k < n) (h : rowOk s n k = false) : rowsOk s n = false := by
  unfold rowsOk
  have : (List.range n).all (rowOk s n) = false := by
    rw [List.all_eq_false]
    exact ⟨k, List.mem_range.2 hk, by simp [h]⟩
  rw [this]; simp
theorem upRow_next {s : ByteArray} {n k j : Nat} : upRow s n (k + 1) j = if j = k then lineBits s (k * (n + 1)) n else upRow s n k j := by
  unfold upRow
  by_cases e : j = k
  · subst e; rw [if_pos (by omega), if_pos rfl]
  · rw [if_neg e]
    by_cases g : j < k
    · rw [if_pos (by omega), if_pos g]
    · rw [if_neg (by omega), if_neg g]

set_option maxHeartbeats 4000000 in
theorem readRows_any (s : ByteArray) (n : Nat) (w : World) (hn : n ≤ 64) (h1 : 1 ≤ n) (hs : s.size ≤ 9223372036854775807) : Calls Tryd.prog 38 #[.string s, .int .i64 n] w (RowsPost s n w) := by
  have hm := mul_small hn
  have hci : (n : Int) * ((n : Int) + 1) = ((n * (n + 1) : Nat) : Int) := by simp
  have hb1 : 0 ≤ (n : Int) * ((n : Int) + 1) := by rw [hci]; omega
  have hb2 : (n : Int) * ((n : Int) + 1) ≤ 4160 := by rw [hci]; omega
  by_cases hsz : s.size = n * (n + 1)
  case neg =>
    have hlen : ((s.size : Int) != (n : Int) * ((n : Int) + 1)) = true := by rw [hci, bne_iff_ne]; omega
    have hE9 : Hid (rowsOk s n = false) := by
      show rowsOk s n = false
      unfold rowsOk
      rw [beq_eq_false_iff_ne.2 hsz]; rfl
    clear hci hm hsz
    go_enter Tryd.func38, Tryd.ntmps38
    go_wp2
    go_ret2
    exact .inr ⟨hE9.out, rfl, Below.refl _ _⟩
  have hlen : ((s.size : Int) != (n : Int) * ((n : Int) + 1)) = false := by rw [hci]; simp only [bne_eq_false_iff_eq]; omega
  have HSZ := Lib.hid hsz
  clear hci hsz hm
  have hmk := run_make_row' (P := Tryd.prog) 23 50 (.int .u64 0) 8 Tryd.underlying23 info_u64 rfl .i64 .i64 n (by omega) (by omega)
  go_enter Tryd.func38, Tryd.ntmps38
  go_wp2_with fail
  clear hmk
  go_loopw [21] (fun i wr => ∃ k : Nat, k ≤ n ∧ i = .int .i64 k ∧ wr.rowIs w.heap.size 50 n (fun j => .int .u64 (upRow s n k j : Nat)) ∧ Below w.heap.size w wr ∧ Hid (∀ j, j < k → rowOk s n j = true)) (fun i _ => n - (intOf i).toNat)
  case atStart => exact ⟨0, Nat.zero_le _, rfl, World.rowIs_made w _ _ _, (Below.refl _ _).alloc (Nat.le_refl _) _, fun j hj => by omega⟩
  case round =>
    obtain ⟨k, hk, rfl, hrow, hB, hok⟩ := hrel
    by_cases hlt : k < n
    · have hmk := mul_lt hlt
      have hsz := HSZ.out
      have hki : (k : Int) * ((n : Int) + 1) = ((k * (n + 1) : Nat) : Int) := by simp
      have g1 : 0 ≤ (k : Int) * ((n : Int) + 1) := by rw [hki]; omega
      have g2 : (k : Int) * ((n : Int) + 1) ≤ (s.size : Int) := by rw [hki]; omega
      have g3 : (k : Int) * ((n : Int) + 1) ≤ 4160 := by have := mul_small hn; rw [hki]; omega
      have g4 : ((k : Int) * ((n : Int) + 1)).toNat = k * (n + 1) := by rw [hki]; omega
      have g5 : n ≤ s.size - k * (n + 1) := by omega
      have g6 : n < s.size - k * (n + 1) := by omega
      have hend : k * (n + 1) + n ≤ s.size := by omega
      have hx : n < (s.extract (k * (n + 1)) s.size).size := by rw [ByteArray.size_extract]; omega
      have hbyte : (s.extract (k * (n + 1)) s.size)[n] = byteAt s (k * (n + 1) + n) := by rw [← byte_get _ _ hx, tail_byte]
      have hxc := hrow.cell hlt
      have hxf := hrow.frozen k
      clear hki hmk hsz
      by_cases hl : lineOk s (k * (n + 1)) n = true
      · have krr : Calls Tryd.prog 66 #[.string ((s.extract (k * (n + 1)) s.size).extract 0 n)] wr fun e w' => e = .returned (.tuple #[.int .u64 (lineBits s (k * (n + 1)) n : Nat), .bool true]) ∧ wr = w' :=
          (readRow_any (cutLine s (k * (n + 1)) n) wr (by rw [cutLine_size _ _ _ hend]; exact hn)).mono fun e w' ⟨h2, h3⟩ => ⟨by
            rw [h2]
            refine ret_two ?_ ?_
            · unfold lineVal
              rw [cutLine_size _ _ _ hend, cutLine_ok _ _ _ hend, hl, cutLine_bits _ _ _ hend]
              rfl
            · rw [cutLine_size _ _ _ hend, cutLine_ok _ _ _ hend, hl], h3⟩
        have KRR := Lib.hid krr
        have HL := Lib.hid hl
        clear krr hl
        by_cases hf : byteAt s (k * (n + 1) + n) = 10
        · have hz : (((s.extract (k * (n + 1)) s.size)[n].toNat : Int) != 10) = false := by rw [hbyte, hf]; rfl
          have hok2 : Hid (∀ j, j < k + 1 → rowOk s n j = true) := fun j hj => by
            by_cases e : j < k
            · exact hok.out j e
            · obtain rfl : j = k := by omega
              unfold rowOk; rw [HL.out, hf]; rfl
          clear hbyte hf
          go_wp2_with (go_at_call 66; refine KRR.out.mono ?_; rintro e w' ⟨rfl, rfl⟩)
          go_roundw
          case rel =>
            refine ⟨k + 1, by omega, by go_num, (hrow.set k _).congr fun j _ => ?_, hB.setCell (p := ⟨w.heap.size, k, none⟩) (Nat.le_refl _) _, hok2⟩
            rw [upRow_next]
            by_cases e : j = k
            · rw [if_pos e, if_pos e]
            · rw [if_neg e, if_neg e]
          case measure => simp [intOf]; omega
        · have hz : (((s.extract (k * (n + 1)) s.size)[n].toNat : Int) != 10) = true := by
            rw [hbyte, bne_iff_ne]; intro e
            exact hf (UInt8.toNat_inj.1 (by show _ = 10; omega))
          have hE9 : Hid (rowsOk s n = false) := rowsOk_false hlt (by unfold rowOk; rw [beq_eq_false_iff_ne.2 hf]; simp)
          clear hbyte hf
          go_wp2_with (go_at_call 66; refine KRR.out.mono ?_; rintro e w' ⟨rfl, rfl⟩)
          go_ret2
          exact .inr ⟨hE9.out, rfl, hB⟩
      · have hl : lineOk s (k * (n + 1)) n = false := by simpa using hl
        have krr : Calls Tryd.prog 66 #[.string ((s.extract (k * (n + 1)) s.size).extract 0 n)] wr fun e w' => e = .returned (.tuple #[.int .u64 0, .bool false]) ∧ wr = w' :=
          (readRow_any (cutLine s (k * (n + 1)) n) wr (by rw [cutLine_size _ _ _ hend]; exact hn)).mono fun e w' ⟨h2, h3⟩ => ⟨by
            rw [h2]
            refine ret_two (v := 0) ?_ ?_
            · unfold lineVal
              rw [cutLine_size _ _ _ hend, cutLine_ok _ _ _ hend, hl]
              rfl
            · rw [cutLine_size _ _ _ hend, cutLine_ok _ _ _ hend, hl], h3⟩
        have KRR := Lib.hid krr
        have hE9 : Hid (rowsOk s n = false) := rowsOk_false hlt (by unfold rowOk; rw [hl]; rfl)
        clear krr hl hbyte
        go_wp2_with (go_at_call 66; refine KRR.out.mono ?_; rintro e w' ⟨rfl, rfl⟩)
        go_ret2
        exact .inr ⟨hE9.out, rfl, hB⟩
    · obtain rfl : k = n := by omega
      have hE9 : Hid (rowsOk s k = true) := by
        show rowsOk s k = true
        unfold rowsOk
        rw [beq_iff_eq.2 HSZ.out, Bool.true_and, List.all_eq_true]
        intro j hj
        exact hok.out j (List.mem_range.1 hj)
      go_wp2
      go_ret2
      refine .inl ⟨hE9.out, rfl, row_words ?_ hrow.lt, hB⟩
      rw [rowsL_length]
      refine hrow.congr fun j hj => ?_
      rw [row_rowsL _ _ _ hj]
      unfold upRow
      rw [if_pos hj]
end Go.Proofs.YtieamjpfmjkchaaDoor
