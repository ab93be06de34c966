/-
  The document's own digits, Name of a number that is none below nought. Condition: it is of 64 bits.
-/
import Derived.Test.YtkagmkejndjepaaGreatDoorAtText
import Derived.Test.YtkagmkejndjepaaGreatDoorAtRf2
import Derived.Lib.ItoaMem
import Derived.Laws.IdiomStrings
namespace Go.Proofs.YtkagmkejndjepaaGreatDoor
open Go.RowKit Go.Shelf Go.At
attribute [local go_sem] Oper.semAt_some

def strOf (t : List UInt8) : ByteArray := ⟨t.toArray⟩
theorem strOf_data (s : ByteArray) : strOf s.data.toList = s := by
  cases s; rfl
theorem data_strOf (t : List UInt8) : (strOf t).data.toList = t := by
  show t.toArray.toList = t; simp
theorem size_strOf (t : List UInt8) : (strOf t).size = t.length := by
  show t.toArray.size = t.length; simp
theorem dec_step {m : Nat} (h : 9 < m) : Lib.decDigits m = Lib.decDigits (m / 10) ++ [UInt8.ofNat (48 + m % 10)] := by
  rw [Lib.decDigits, dif_neg (by omega)]
theorem conv_one (w : World) (x : Nat) (hx : x < 256) : (convert 97 9 (.slice (some ⟨w.heap.size, 0, none⟩) 1 1)).run Tryz.prog (w.alloc (.cells #[.int .u8 (x : Int)] 5)) = .ok (.string (strOf [UInt8.ofNat x])) (w.alloc (.cells #[.int .u8 (x : Int)] 5)) := by
  have h := run_convert_bytes_back (P := Tryz.prog) (w.alloc (.cells #[.int .u8 (x : Int)] 5)) 97 9 5 ⟨w.heap.size, 0, none⟩ 1 [UInt8.ofNat x] Tryz.underlying97 Tryz.underlying5 Tryz.underlying9 (fun j hj => by
    obtain rfl : j = 0 := by simp at hj; omega
    have e : (⟨w.heap.size, 0, none⟩ : Addr).add 0 = ⟨w.heap.size, 0, none⟩ := rfl
    rw [e, cell_of_row _ w.heap.size 0 #[.int .u8 (x : Int)] 5 (0, 0) (by show (w.heap.push _)[w.heap.size]? = _; simp)]
    have e2 : (UInt8.ofNat x).toNat = x := by rw [UInt8.toNat_ofNat']; omega
    show _ = some (Value.int .u8 ((UInt8.ofNat x).toNat : Int))
    rw [e2]
    rfl)
  exact h
theorem strOf_cons (b : UInt8) (P : List UInt8) : strOf [b] ++ strOf P = strOf (b :: P) := by
  have h : (strOf [b] ++ strOf P).data.toList = (strOf (b :: P)).data.toList := by
    rw [ByteArray.data_append, Array.toList_append, data_strOf, data_strOf, data_strOf]; rfl
  rw [← strOf_data (strOf [b] ++ strOf P), h, strOf_data]
theorem wrap_u64 {x : Int} (h0 : 0 ≤ x) (h1 : x < 18446744073709551616) : IntKind.u64.wrap x = x := by
  simp [IntKind.wrap, IntKind.bits, IntKind.signed]
  omega

set_option maxRecDepth 100000 in
set_option maxHeartbeats 1000000 in
theorem digits_any (n : Nat) (hn : n ≤ 9223372036854775807) (w : World) : Calls Tryz.prog 65 #[.int .u64 (n : Int)] w fun e w' => e = .returned (.string (strOf (Lib.decDigits n))) ∧ Below w.heap.size w w' := by
  have hlen : (Lib.decDigits n).length ≤ 21 := by rw [← Lib.itoa_nonneg]; exact Lib.itoa_length_le _ (by omega) (by omega)
  replace hlen := Lib.hid hlen
  go_enter Tryz.func65, Tryz.ntmps65
  go_wp2_with fail
  go_loopw [0, 3] (fun a v wr => ∃ (m : Nat) (P : List UInt8), a = .int .u64 m ∧ v = .string (strOf P) ∧ m ≤ n ∧ Hid (Lib.decDigits m ++ P = Lib.decDigits n) ∧ Hid (Below w.heap.size w wr)) (fun a _ _ => (intOf a).toNat)
  case atStart => exact ⟨n, [], rfl, rfl, Nat.le_refl _, by show _ ++ [] = _; rw [List.append_nil], Below.refl _ _⟩
  case round =>
    obtain ⟨m, P, rfl, rfl, hm, hdec, hB⟩ := hrel
    have hP : (strOf P).size ≤ 21 := by
      rw [size_strOf]
      have h1 := congrArg List.length hdec.out
      rw [List.length_append] at h1
      have := hlen.out
      omega
    by_cases h9 : 9 < m
    · have hst : Hid (Lib.decDigits (m / 10) ++ (UInt8.ofNat (48 + m % 10) :: P) = Lib.decDigits n) := by
        show _ = _
        rw [← hdec.out, dec_step h9]; simp
      have hx := Lib.hid (strOf_cons (UInt8.ofNat (48 + m % 10)) P)
      have hcv := conv_one wr (48 + m % 10) (by omega)
      have hb9 : Hid (Below w.heap.size w (wr.alloc (.cells #[.int .u8 ((48 + m % 10 : Nat) : Int)] 5))) := hB.out.alloc hB.out.size _
      have e1 : ((48 + m % 10 : Nat) : Int) = 48 + (m : Int) % 10 := by omega
      rw [e1] at hcv hb9
      have e2 : IntKind.u8.wrap (48 + (m : Int) % 10) = 48 + (m : Int) % 10 := by
        rw [IntKind.wrap_u8]; omega
      have e3 : IntKind.u64.wrap (48 + (m : Int) % 10) = 48 + (m : Int) % 10 := wrap_u64 (by omega) (by omega)
      have hsz : (strOf [UInt8.ofNat (48 + m % 10)]).size ≤ 1 := by rw [size_strOf]; exact Nat.le_refl _
      generalize strOf [UInt8.ofNat (48 + m % 10)] = D0 at hx hcv hsz
      clear hdec e1
      go_wp2_with fail
      go_roundw
      case rel => exact ⟨m / 10, _, by go_num, by rw [hx.out], by omega, hst, hb9⟩
      case measure => simp [intOf]; omega
    · have hst : Hid (strOf [UInt8.ofNat (48 + m)] ++ strOf P = strOf (Lib.decDigits n)) := by
        show _ = _
        rw [strOf_cons, ← hdec.out, Lib.decDigits_one (by omega)]; rfl
      have hcv := conv_one wr (48 + m) (by omega)
      have hb9 : Hid (Below w.heap.size w (wr.alloc (.cells #[.int .u8 ((48 + m : Nat) : Int)] 5))) := hB.out.alloc hB.out.size _
      have e1 : ((48 + m : Nat) : Int) = 48 + (m : Int) := by omega
      rw [e1] at hcv hb9
      have e2 : IntKind.u8.wrap (48 + (m : Int)) = 48 + (m : Int) := by
        rw [IntKind.wrap_u8]; omega
      have e3 : IntKind.u64.wrap (48 + (m : Int)) = 48 + (m : Int) := wrap_u64 (by omega) (by omega)
      have hsz : (strOf [UInt8.ofNat (48 + m)]).size ≤ 1 := by rw [size_strOf]; exact Nat.le_refl _
      generalize strOf [UInt8.ofNat (48 + m)] = D0 at hst hcv hsz
      clear hdec e1
      go_wp2_with fail
      go_ret
      exact ⟨by rw [← hst.out]; rfl, hb9.out⟩

set_option maxRecDepth 100000 in
theorem refName_any (n : Nat) (hn : n ≤ 9223372036854775807) (w : World) : Calls Tryz.prog 53 #[.int .i64 (n : Int)] w fun e w' => e = .returned (.string (strOf (Lib.decDigits n))) ∧ Below w.heap.size w w' := by
  have kd := Lib.hid (fun W => digits_any n hn W)
  have hd : decide ((n : Int) < 0) = false := decide_eq_false (by omega)
  have e3 : IntKind.u64.wrap (n : Int) = (n : Int) := wrap_u64 (by omega) (by omega)
  go_enter Tryz.func53, Tryz.ntmps53
  go_wp2_with (go_at_call 65; refine (kd.out _).mono ?_; rintro e w1 ⟨rfl, hb1⟩; replace hb1 := Lib.hid hb1)
  go_ret
  exact ⟨rfl, hb1.out⟩

set_option maxRecDepth 100000 in
theorem refText_any (A : Option Addr) (ns : List ByteArray) (c : Nat) (a : Int) (w : World) (hN : Strs w A ns) (ha : I64 a) :
    Calls Tryz.prog 29 #[.slice A ns.length c, .int .i64 a] w fun e w' => e = .returned (.string (textT ns a)) ∧ Below w.heap.size w w' := by
  have ko : ∀ W, Calls Tryz.prog 26 #[.int .i64 a] W fun e w' => e = .returned (.int .i64 (pointOfT a)) ∧ W = w' := fun W => refPointOf_any a W ha
  obtain ⟨a1, a2⟩ := ha
  by_cases h : a < 0
  · have hd0 : decide (0 ≤ a) = false := decide_eq_false (by omega)
    obtain ⟨k, hk⟩ : ∃ k : Nat, -1 - a = (k : Int) := ⟨(-1 - a).toNat, by omega⟩
    have ho : pointOfT a = (k : Int) := (if_pos h).trans hk
    have hkn : (-1 - a).toNat = k := by omega
    rw [ho] at ko
    unfold textT
    rw [if_pos h, hkn]
    replace hk := Lib.hid hk
    replace hkn := Lib.hid hkn
    replace ho := Lib.hid ho
    by_cases hlt : k < ns.length
    · obtain ⟨b, off, rfl, hb, hrow⟩ := hN (by intro e; subst e; simp at hlt)
      have c0 := hrow k hlt
      rw [if_pos hlt]
      clear hrow hN
      generalize ns.getD k ByteArray.empty = s at c0 ⊢
      generalize ns.length = L at hlt ⊢
      have hd : decide ((k : Int) < (L : Int)) = true := decide_eq_true (by omega)
      have hl2 : (k : Int) < (L : Int) := by omega
      go_enter Tryz.func29, Tryz.ntmps29
      go_wp2_with (go_at_call 26; refine (ko _).mono ?_; rintro e w' ⟨rfl, hw⟩; cases hw)
      go_ret
      exact ⟨rfl, Below.refl _ _⟩
    · rw [if_neg hlt]
      clear hN
      generalize ns.length = L at hlt ⊢
      have hd : decide ((k : Int) < (L : Int)) = false := decide_eq_false (by omega)
      have hl2 : ¬ (k : Int) < (L : Int) := by omega
      go_enter Tryz.func29, Tryz.ntmps29
      go_wp2_with (go_at_call 26; refine (ko _).mono ?_; rintro e w' ⟨rfl, hw⟩; cases hw)
      go_ret
      exact ⟨rfl, Below.refl _ _⟩
  · have hd0 : decide (0 ≤ a) = true := decide_eq_true (by omega)
    have hlen := Lib.itoa_length_le a a1 a2
    unfold textT
    rw [if_neg h]
    obtain ⟨n, rfl⟩ : ∃ n : Nat, a = (n : Int) := ⟨a.toNat, by omega⟩
    rw [Lib.itoa_nonneg] at hlen ⊢
    have kn := Lib.hid (fun W => refName_any n (by omega) W)
    obtain ⟨s, hs⟩ : ∃ s : ByteArray, strOf (Lib.decDigits n) = s := ⟨_, rfl⟩
    have hs2 : (⟨(Lib.decDigits n).toArray⟩ : ByteArray) = s := hs
    have hss : s.size ≤ 21 := by rw [← hs, size_strOf]; exact hlen
    have hsz : ¬ 9223372036854775807 < (⟨#[39]⟩ : ByteArray).size + s.size := by have : (⟨#[39]⟩ : ByteArray).size = 1 := rfl; omega
    rw [hs] at kn
    rw [hs2]
    replace hs := Lib.hid hs
    replace hs2 := Lib.hid hs2
    clear hN hlen
    go_enter Tryz.func29, Tryz.ntmps29
    go_wp2_with (go_at_call 53; refine (kn.out _).mono ?_; rintro e w1 ⟨rfl, hb1⟩; replace hb1 := Lib.hid hb1)
    go_ret
    exact ⟨rfl, hb1.out⟩
end Go.Proofs.YtkagmkejndjepaaGreatDoor
