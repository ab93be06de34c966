/-
  The walks of the reference's Digits and Number. Conditions: texts shorter than 2^47 bytes, a number from nought to 2^31.
-/
import Derived.Test.YtkmafbcgdhhenabDoorLxSame
import Derived.Test.YtkmafbcgdhhenabDoorLxRef
import Derived.Laws.IdiomStrings
namespace Go.Proofs.YtkmafbcgdhhenabDoor
open Go.RowKit Go.Lx

theorem dec_step {m : Nat} (h : 9 < m) : Lib.decDigits m = Lib.decDigits (m / 10) ++ [UInt8.ofNat (48 + m % 10)] := by
  rw [Lib.decDigits, dif_neg (by omega)]
theorem conv_one (w : World) (x : Nat) (hx : x < 256) : (convert 38 9 (.slice (some ⟨w.heap.size, 0, none⟩) 1 1)).run Tryd.prog (w.alloc (.cells #[.int .u8 (x : Int)] 5)) = .ok (.string (strOf [UInt8.ofNat x])) (w.alloc (.cells #[.int .u8 (x : Int)] 5)) := by
  have h := run_convert_bytes_back (P := Tryd.prog) (w.alloc (.cells #[.int .u8 (x : Int)] 5)) 38 9 5 ⟨w.heap.size, 0, none⟩ 1 [UInt8.ofNat x] Tryd.underlying38 Tryd.underlying5 Tryd.underlying9 (fun j hj => by
    obtain rfl : j = 0 := by simp at hj; omega
    have e : (⟨w.heap.size, 0, none⟩ : Addr).add 0 = ⟨w.heap.size, 0, none⟩ := rfl
    rw [e, cell_of_row _ w.heap.size 0 #[.int .u8 (x : Int)] 5 (0, 0) (by show (w.heap.push _)[w.heap.size]? = _; simp)]
    have e2 : (UInt8.ofNat x).toNat = x := by rw [UInt8.toNat_ofNat']; omega
    show _ = some (Value.int .u8 ((UInt8.ofNat x).toNat : Int))
    rw [e2]
    rfl)
  exact h
theorem strOf_cons (b : UInt8) (P : List UInt8) : strOf [b] ++ strOf P = strOf (b :: P) := by
  have h : (strOf [b] ++ strOf P).data.toList = (strOf (b :: P)).data.toList := by
    rw [ByteArray.data_append, Array.toList_append, data_strOf, data_strOf, data_strOf]; rfl
  rw [← strOf_data (strOf [b] ++ strOf P), h, strOf_data]

set_option maxRecDepth 100000 in
set_option maxHeartbeats 1000000 in
theorem digits_any (n : Nat) (hn : n < 2147483648) (w : World) : Calls Tryd.prog 54 #[.int .i64 (n : Int)] w fun e w' => e = .returned (.string (strOf (Lib.decDigits n))) ∧ Below w.heap.size w w' := by
  have hlen : (Lib.decDigits n).length ≤ 10 := by rw [Lib.decDigits_length]; exact nDigits_le 9 _ (by omega)
  replace hlen := Lib.hid hlen
  go_enter Tryd.func54, Tryd.ntmps54
  go_wp2_with fail
  go_loopw [0, 3] (fun a v wr => ∃ (m : Nat) (P : List UInt8), a = .int .i64 m ∧ v = .string (strOf P) ∧ m ≤ n ∧ Hid (Lib.decDigits m ++ P = Lib.decDigits n) ∧ Hid (Below w.heap.size w wr)) (fun a _ _ => (intOf a).toNat)
  case atStart => exact ⟨n, [], rfl, rfl, Nat.le_refl _, by show _ ++ [] = _; rw [List.append_nil], Below.refl _ _⟩
  case round =>
    obtain ⟨m, P, rfl, rfl, hm, hdec, hB⟩ := hrel
    have hP : (strOf P).size ≤ 10 := by
      rw [size_strOf]
      have h1 := congrArg List.length hdec.out
      rw [List.length_append] at h1
      have := hlen.out
      omega
    by_cases h9 : 9 < m
    · have hst : Hid (Lib.decDigits (m / 10) ++ (UInt8.ofNat (48 + m % 10) :: P) = Lib.decDigits n) := by
        show _ = _
        rw [← hdec.out, dec_step h9]; simp
      have hx := Lib.hid (strOf_cons (UInt8.ofNat (48 + m % 10)) P)
      have hcv := conv_one wr (48 + m % 10) (by omega)
      have hb9 : Hid (Below w.heap.size w (wr.alloc (.cells #[.int .u8 ((48 + m % 10 : Nat) : Int)] 5))) := hB.out.alloc hB.out.size _
      have e1 : ((48 + m % 10 : Nat) : Int) = 48 + (m : Int) % 10 := by omega
      rw [e1] at hcv hb9
      have e2 : IntKind.u8.wrap (48 + (m : Int) % 10) = 48 + (m : Int) % 10 := by
        rw [IntKind.wrap_u8]; omega
      have hsz : (strOf [UInt8.ofNat (48 + m % 10)]).size ≤ 1 := by rw [size_strOf]; exact Nat.le_refl _
      generalize strOf [UInt8.ofNat (48 + m % 10)] = D0 at hx hcv hsz
      clear hdec e1
      go_wp2_with fail
      go_roundw
      case rel => exact ⟨m / 10, _, by go_num, by rw [hx.out], by omega, hst, hb9⟩
      case measure => simp [intOf]; omega
    · have hst : Hid (strOf [UInt8.ofNat (48 + m)] ++ strOf P = strOf (Lib.decDigits n)) := by
        show _ = _
        rw [strOf_cons, ← hdec.out, Lib.decDigits_one (by omega)]; rfl
      have hcv := conv_one wr (48 + m) (by omega)
      have hb9 : Hid (Below w.heap.size w (wr.alloc (.cells #[.int .u8 ((48 + m : Nat) : Int)] 5))) := hB.out.alloc hB.out.size _
      have e1 : ((48 + m : Nat) : Int) = 48 + (m : Int) := by omega
      rw [e1] at hcv hb9
      have e2 : IntKind.u8.wrap (48 + (m : Int)) = 48 + (m : Int) := by
        rw [IntKind.wrap_u8]; omega
      have hsz : (strOf [UInt8.ofNat (48 + m)]).size ≤ 1 := by rw [size_strOf]; exact Nat.le_refl _
      generalize strOf [UInt8.ofNat (48 + m)] = D0 at hst hcv hsz
      clear hdec e1
      go_wp2_with fail
      go_ret
      exact ⟨by rw [← hst.out]; rfl, hb9.out⟩

theorem valL_snoc : ∀ (l : List UInt8) (acc : Nat) (c : UInt8), valL acc (l ++ [c]) = valL acc l * 10 + (c.toNat - 48)
  | [], _, _ => rfl
  | d :: l, acc, c => valL_snoc l (acc * 10 + (d.toNat - 48)) c
theorem valL_lt : ∀ (l : List UInt8) (acc : Nat), l.all isDigit = true → valL acc l < (acc + 1) * 10 ^ l.length
  | [], acc, _ => by show acc < (acc + 1) * 1; omega
  | c :: r, acc, hd => by
    rw [List.all_cons, Bool.and_eq_true] at hd
    have hc := isDigit_iff.1 hd.1
    have ih := valL_lt r (acc * 10 + (c.toNat - 48)) hd.2
    have h1 : acc * 10 + (c.toNat - 48) + 1 ≤ (acc + 1) * 10 := by omega
    have h2 := Nat.mul_le_mul_right (10 ^ r.length) h1
    have e : (acc + 1) * 10 ^ (c :: r).length = (acc + 1) * 10 * 10 ^ r.length := by
      rw [List.length_cons, Nat.pow_succ, Nat.mul_comm (10 ^ r.length) 10, Nat.mul_assoc]
    rw [e]
    exact Nat.lt_of_lt_of_le ih h2
theorem take_all (s : ByteArray) (k : Nat) (hk : k ≤ s.size) (h : ∀ j, j < k → isDigit (byteAt s j) = true) : (s.data.toList.take k).all isDigit = true := by
  apply all_at
  intro j hj
  rw [List.length_take, size_data] at hj
  have := h j (by omega)
  unfold byteAt at this
  rw [List.getD_eq_getElem?_getD] at this ⊢
  rw [List.getElem?_take_of_lt (by omega)]
  exact this
theorem take_snoc (s : ByteArray) (k : Nat) (hk : k < s.size) : s.data.toList.take (k + 1) = s.data.toList.take k ++ [s[k]] := by
  have hk2 : k < s.data.toList.length := by rw [size_data]; exact hk
  rw [List.take_succ_eq_append_getElem hk2]; rfl
def numV : Option Nat → Value
  | none => .tuple #[.int .i64 0, .bool false]
  | some n => .tuple #[.int .i64 (n : Int), .bool true]

set_option maxRecDepth 100000 in
set_option maxHeartbeats 2000000 in
theorem refnumber_any (s : ByteArray) (w : World) (hs : s.size ≤ 140737488355328) : Calls Tryd.prog 45 #[.string s] w fun e w' => e = .returned (numV (refNum s.data.toList)) ∧ Below w.heap.size w w' := by
  by_cases hsz : 1 ≤ s.size ∧ s.size ≤ 10
  case neg =>
    have hE : Hid (refNum s.data.toList = none) := by
      show refNum _ = none
      unfold refNum
      rw [size_data, if_neg (fun h => hsz ⟨h.1, h.2.1⟩)]
    by_cases h1 : 1 ≤ s.size
    · have h2 : 10 < s.size := by omega
      clear hsz
      go_enter Tryd.func45, Tryd.ntmps45
      go_wp2
      go_ret2
      exact ⟨by rw [hE.out]; rfl, Below.refl _ _⟩
    · have h2 : s.size = 0 := by omega
      clear hsz
      go_enter Tryd.func45, Tryd.ntmps45
      go_wp2
      go_ret2
      exact ⟨by rw [hE.out]; rfl, Below.refl _ _⟩
  obtain ⟨z1, z2⟩ := hsz
  go_enter Tryd.func45, Tryd.ntmps45
  go_wp2_with fail
  go_loop [4, 5] (fun v i => ∃ k : Nat, k ≤ s.size ∧ i = .int .i64 k ∧ v = .int .i64 (valL 0 (s.data.toList.take k) : Nat) ∧ Hid (∀ j, j < k → isDigit (byteAt s j) = true)) (fun _ i => s.size - (intOf i).toNat)
  case atStart => exact ⟨0, Nat.zero_le _, rfl, rfl, fun j hj => by omega⟩
  case round =>
    obtain ⟨k, hk, rfl, rfl, hok⟩ := hrel
    by_cases hlt : k < s.size
    · have hb := get_byte s k hlt
      have hlt256 : s[k].toNat < 256 := s[k].toNat_lt
      cases hd : isDigit s[k] with
      | true =>
        have hc := isDigit_iff.1 hd
        have hnext : Hid (∀ j, j < k + 1 → isDigit (byteAt s j) = true) := fun j hj => by
          by_cases e : j < k
          · exact hok.out j e
          · obtain rfl : j = k := by omega
            rw [← hb]; exact hd
        have hv := valL_snoc (s.data.toList.take k) 0 s[k]
        rw [← take_snoc s k hlt] at hv
        have hbd : valL 0 (s.data.toList.take k) ≤ 10000000000 := by
          have h1 := valL_lt (s.data.toList.take k) 0 (take_all s k hk hok.out)
          have h2 : (s.data.toList.take k).length ≤ 10 := by rw [List.length_take]; omega
          have h3 := Nat.pow_le_pow_right (n := 10) (by omega) h2
          have h4 : (10 : Nat) ^ 10 = 10000000000 := by decide
          omega
        have hv2 : ((valL 0 (s.data.toList.take (k + 1)) : Nat) : Int) = ((valL 0 (s.data.toList.take k) : Nat) : Int) * 10 + ((s[k].toNat : Int) - 48) := by rw [hv]; omega
        replace hv2 := Lib.hid hv2
        generalize valL 0 (s.data.toList.take k) = v at hbd hv2 ⊢
        have c1 : (48 : Int) ≤ (s[k].toNat : Int) := by omega
        have c2 : (s[k].toNat : Int) ≤ 57 := by omega
        have w0 : IntKind.u8.wrap ((s[k].toNat : Int) - 48) = (s[k].toNat : Int) - 48 := by rw [IntKind.wrap_u8]; omega
        have w1 : IntKind.i64.wrap ((v : Int) * 10) = (v : Int) * 10 := by rw [IntKind.wrap_i64]; omega
        have w2 : IntKind.i64.wrap ((v : Int) * 10 + ((s[k].toNat : Int) - 48)) = (v : Int) * 10 + ((s[k].toNat : Int) - 48) := by rw [IntKind.wrap_i64]; omega
        have q0 : decide ((s[k].toNat : Int) < 48) = false := decide_eq_false (by omega)
        have q1 : decide (57 < (s[k].toNat : Int)) = false := decide_eq_false (by omega)
        clear hb hd hc hv hok
        go_wp2_with fail
        go_round
        case rel => exact ⟨k + 1, by omega, by go_num, by rw [hv2.out], hnext⟩
        case measure => simp [intOf]; omega
      | false =>
        have hE : Hid (refNum s.data.toList = none) := by
          show refNum _ = none
          unfold refNum
          rw [if_neg (fun h => by
            have h1 := all_of isDigit _ h.2.2.1 k (by rw [size_data]; exact hlt)
            have h2 : isDigit (byteAt s k) = true := h1
            rw [← hb, hd] at h2
            cases h2)]
        have hc : ¬ (48 ≤ s[k].toNat ∧ s[k].toNat ≤ 57) := fun h => by rw [isDigit_iff.2 h] at hd; cases hd
        clear hb hd hok
        by_cases c1 : s[k].toNat < 48
        · have q0 : decide ((s[k].toNat : Int) < 48) = true := decide_eq_true (by omega)
          clear hc c1
          go_wp2_with fail
          go_ret2
          exact ⟨by rw [hE.out]; rfl, Below.refl _ _⟩
        · have q0 : decide ((s[k].toNat : Int) < 48) = false := decide_eq_false (by omega)
          have q1 : decide (57 < (s[k].toNat : Int)) = true := decide_eq_true (by omega)
          clear hc c1
          go_wp2_with fail
          go_ret2
          exact ⟨by rw [hE.out]; rfl, Below.refl _ _⟩
    · obtain rfl : k = s.size := by omega
      have hall := take_all s s.size (Nat.le_refl _) hok.out
      rw [List.take_of_length_le (show s.data.toList.length ≤ s.size by rw [size_data]; exact Nat.le_refl _)] at hall ⊢
      have hbd : valL 0 s.data.toList ≤ 10000000000 := by
        have h1 := valL_lt s.data.toList 0 hall
        have h2 : s.data.toList.length ≤ 10 := by rw [size_data]; omega
        have h3 := Nat.pow_le_pow_right (n := 10) (by omega) h2
        have h4 : (10 : Nat) ^ 10 = 10000000000 := by decide
        omega
      by_cases hbig : valL 0 s.data.toList < 2147483648
      · have kd := Lib.hid (digits_any (valL 0 s.data.toList) hbig w)
        cases hq : ((strOf (Lib.decDigits (valL 0 s.data.toList))).toList == s.toList) with
        | true =>
          have hE : Hid (refNum s.data.toList = some (valL 0 s.data.toList)) := by
            show refNum _ = _
            rw [toList_data, toList_data, data_strOf] at hq
            unfold refNum
            rw [size_data, if_pos ⟨z1, z2, hall, hbig, by simpa using hq⟩]
          generalize valL 0 s.data.toList = v at hbd hbig kd hq hE ⊢
          generalize strOf (Lib.decDigits v) = D0 at kd hq
          have q9 : decide ((2147483648 : Int) ≤ (v : Int)) = false := decide_eq_false (by omega)
          clear hall hok hbd hbig
          go_wp2_with fail
          refine kd.out.mono ?_
          rintro e w' ⟨rfl, hb⟩
          replace hb := Lib.hid hb
          go_wp2_with fail
          go_ret2
          exact ⟨by rw [hE.out]; rfl, hb.out⟩
        | false =>
          have hE : Hid (refNum s.data.toList = none) := by
            show refNum _ = _
            rw [toList_data, toList_data, data_strOf] at hq
            unfold refNum
            rw [if_neg (fun h => by rw [h.2.2.2.2] at hq; simp at hq)]
          generalize valL 0 s.data.toList = v at hbd hbig kd hq ⊢
          generalize strOf (Lib.decDigits v) = D0 at kd hq
          have q9 : decide ((2147483648 : Int) ≤ (v : Int)) = false := decide_eq_false (by omega)
          clear hall hok hbd hbig
          go_wp2_with fail
          refine kd.out.mono ?_
          rintro e w' ⟨rfl, hb⟩
          replace hb := Lib.hid hb
          go_wp2_with fail
          go_ret2
          exact ⟨by rw [hE.out]; rfl, hb.out⟩
      · have hE : Hid (refNum s.data.toList = none) := by
          show refNum _ = _
          unfold refNum
          rw [if_neg (fun h => hbig h.2.2.2.1)]
        generalize valL 0 s.data.toList = v at hbd hbig ⊢
        have q9 : decide ((2147483648 : Int) ≤ (v : Int)) = true := decide_eq_true (by omega)
        clear hall hok hbd hbig
        go_wp2_with fail
        go_ret2
        exact ⟨by rw [hE.out]; rfl, Below.refl _ _⟩
end Go.Proofs.YtkmafbcgdhhenabDoor
