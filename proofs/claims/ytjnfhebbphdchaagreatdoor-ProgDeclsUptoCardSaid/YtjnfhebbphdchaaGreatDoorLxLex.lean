/-
  The walk of lex.Keyword. Condition: the table of keywords lies as laid.
  The walk of lex.begun:
  The walks of lex.number and lex.token.
  The walks of lex.right and lex.Right.
  The walk of lex.Lex:
-/
import Derived.Test.YtjnfhebbphdchaaGreatDoorLxBase
import Derived.Test.YtjnfhebbphdchaaGreatDoorShelf
import Derived.Lib.IndexBytes
set_option maxHeartbeats 8000000
set_option maxRecDepth 100000
open Go.Lib (hid)
namespace Go.Proofs.YtjnfhebbphdchaaGreatDoor.X
open Go.RowKit Go.Lx
theorem qkr (arr : Array Value) (i : Int) (w : World) (h0 : 0 <= i) (hi : i < 14) (hs : arr.size = 14) : (Instr.index 199 (.agg arr) (.int .i64 i)).run Tryz.prog w = .ok (arr[i.toNat]?.getD undef) w := by
 have h := Tryz.underlying199
 have h9 := Tryz.sizeOf9
 obtain ⟨k, rfl⟩ := Int.eq_ofNat_of_zero_le h0
 have hk : k < arr.size := by omega
 have ha : arr[k]? = some arr[k] := Array.getElem?_eq_getElem hk
 simp [Instr.index, run_underlying h, asIntOf, go_sem, ha, h9]
 intro hh; omega
attribute [local go_sem] qkr
theorem qbc {l : List UInt8} {k : Nat} (hk : k < 14) (h : keys.getD k [] = l) : isKey l = true := by
 unfold isKey
 rw [List.any_eq_true]
 refine ⟨keys.getD k [], ?_, beq_iff_eq.2 h⟩
 rw [List.getD_eq_getElem?_getD, List.getElem?_eq_getElem (show k < keys.length from hk)]
 exact List.getElem_mem _
theorem qip {l : List UInt8} (h : ∀ j, j < 14 -> keys.getD j [] ≠ l) : isKey l = false := by
 unfold isKey
 rw [List.any_eq_false]
 intro x hx
 obtain ⟨j, hj, rfl⟩ := List.getElem_of_mem hx
 have := h j hj
 rw [List.getD_eq_getElem?_getD, List.getElem?_eq_getElem hj] at this
 simpa using this
theorem qad (s : ByteArray) : s.toList = s.data.toList := ByteArray.toList_eq s
theorem qbN (s : ByteArray) (w : World) (hE : Env w) : Calls Tryz.prog 91 #[.string s] w fun e w' => e = .returned (.bool (isKey s.data.toList)) /\ w = w' := by
 obtain ⟨b0, e0, h0⟩ : ∃ b : ByteArray, Hid (b.data.toList = keys.getD 0 []) /\ w.cell? ⟨0, 0, none⟩ = some (.string b) := ⟨_, by show (List.toArray _).toList = _; simp, hE.keys 0 (by decide)⟩
 obtain ⟨b1, e1, h1⟩ : ∃ b : ByteArray, Hid (b.data.toList = keys.getD 1 []) /\ w.cell? ⟨0, 1, none⟩ = some (.string b) := ⟨_, by show (List.toArray _).toList = _; simp, hE.keys 1 (by decide)⟩
 obtain ⟨b2, e2, h2⟩ : ∃ b : ByteArray, Hid (b.data.toList = keys.getD 2 []) /\ w.cell? ⟨0, 2, none⟩ = some (.string b) := ⟨_, by show (List.toArray _).toList = _; simp, hE.keys 2 (by decide)⟩
 obtain ⟨b3, e3, h3⟩ : ∃ b : ByteArray, Hid (b.data.toList = keys.getD 3 []) /\ w.cell? ⟨0, 3, none⟩ = some (.string b) := ⟨_, by show (List.toArray _).toList = _; simp, hE.keys 3 (by decide)⟩
 obtain ⟨b4, e4, h4⟩ : ∃ b : ByteArray, Hid (b.data.toList = keys.getD 4 []) /\ w.cell? ⟨0, 4, none⟩ = some (.string b) := ⟨_, by show (List.toArray _).toList = _; simp, hE.keys 4 (by decide)⟩
 obtain ⟨b5, e5, h5⟩ : ∃ b : ByteArray, Hid (b.data.toList = keys.getD 5 []) /\ w.cell? ⟨0, 5, none⟩ = some (.string b) := ⟨_, by show (List.toArray _).toList = _; simp, hE.keys 5 (by decide)⟩
 obtain ⟨b6, e6, h6⟩ : ∃ b : ByteArray, Hid (b.data.toList = keys.getD 6 []) /\ w.cell? ⟨0, 6, none⟩ = some (.string b) := ⟨_, by show (List.toArray _).toList = _; simp, hE.keys 6 (by decide)⟩
 obtain ⟨b7, e7, h7⟩ : ∃ b : ByteArray, Hid (b.data.toList = keys.getD 7 []) /\ w.cell? ⟨0, 7, none⟩ = some (.string b) := ⟨_, by show (List.toArray _).toList = _; simp, hE.keys 7 (by decide)⟩
 obtain ⟨b8, e8, h8⟩ : ∃ b : ByteArray, Hid (b.data.toList = keys.getD 8 []) /\ w.cell? ⟨0, 8, none⟩ = some (.string b) := ⟨_, by show (List.toArray _).toList = _; simp, hE.keys 8 (by decide)⟩
 obtain ⟨b9, e9, h9⟩ : ∃ b : ByteArray, Hid (b.data.toList = keys.getD 9 []) /\ w.cell? ⟨0, 9, none⟩ = some (.string b) := ⟨_, by show (List.toArray _).toList = _; simp, hE.keys 9 (by decide)⟩
 obtain ⟨b10, e10, h10⟩ : ∃ b : ByteArray, Hid (b.data.toList = keys.getD 10 []) /\ w.cell? ⟨0, 10, none⟩ = some (.string b) := ⟨_, by show (List.toArray _).toList = _; simp, hE.keys 10 (by decide)⟩
 obtain ⟨b11, e11, h11⟩ : ∃ b : ByteArray, Hid (b.data.toList = keys.getD 11 []) /\ w.cell? ⟨0, 11, none⟩ = some (.string b) := ⟨_, by show (List.toArray _).toList = _; simp, hE.keys 11 (by decide)⟩
 obtain ⟨b12, e12, h12⟩ : ∃ b : ByteArray, Hid (b.data.toList = keys.getD 12 []) /\ w.cell? ⟨0, 12, none⟩ = some (.string b) := ⟨_, by show (List.toArray _).toList = _; simp, hE.keys 12 (by decide)⟩
 obtain ⟨b13, e13, h13⟩ : ∃ b : ByteArray, Hid (b.data.toList = keys.getD 13 []) /\ w.cell? ⟨0, 13, none⟩ = some (.string b) := ⟨_, by show (List.toArray _).toList = _; simp, hE.keys 13 (by decide)⟩
 go_enter Tryz.func91, Tryz.ntmps91
 go_wp2
 clear h0 h1 h2 h3 h4 h5 h6 h7 h8 h9 h10 h11 h12 h13
 go_loop [6] (fun i => ∃ k : Nat, k <= 14 /\ i = .int .i64 k /\ Hid (∀ j, j < k -> keys.getD j [] ≠ s.data.toList)) (fun i => 14 - (intOf i).toNat)
 case atStart => exact ⟨0, Nat.zero_le _, rfl, fun j hj => by omega⟩
 case round =>
   obtain ⟨k, hk, rfl, hok⟩ := hrel
   obtain rfl | rfl | rfl | rfl | rfl | rfl | rfl | rfl | rfl | rfl | rfl | rfl | rfl | rfl | rfl : k = 0 ∨ k = 1 ∨ k = 2 ∨ k = 3 ∨ k = 4 ∨ k = 5 ∨ k = 6 ∨ k = 7 ∨ k = 8 ∨ k = 9 ∨ k = 10 ∨ k = 11 ∨ k = 12 ∨ k = 13 ∨ k = 14 := by omega
   . cases hq : (b0.toList == s.toList) with
     | true =>
       have g : Hid (isKey s.data.toList = true) := qbc (k := 0) (by decide) (by rw [<- e0.out, <- qad, <- qad]; simpa using hq)
       go_wp2
       go_ret
       exact ⟨qae g.out.symm, rfl⟩
     | false =>
       have g : Hid (∀ j, j < 0 + 1 -> keys.getD j [] ≠ s.data.toList) := fun j hj => by
         by_cases e : j < 0
         . exact hok.out j e
         . obtain rfl : j = 0 := by omega
           rw [<- e0.out, <- qad, <- qad]; simpa using hq
       go_wp2
       go_round
       case rel => exact ⟨0 + 1, by omega, by go_num, g⟩
       case measure => simp [intOf]
   . cases hq : (b1.toList == s.toList) with
     | true =>
       have g : Hid (isKey s.data.toList = true) := qbc (k := 1) (by decide) (by rw [<- e1.out, <- qad, <- qad]; simpa using hq)
       go_wp2
       go_ret
       exact ⟨qae g.out.symm, rfl⟩
     | false =>
       have g : Hid (∀ j, j < 1 + 1 -> keys.getD j [] ≠ s.data.toList) := fun j hj => by
         by_cases e : j < 1
         . exact hok.out j e
         . obtain rfl : j = 1 := by omega
           rw [<- e1.out, <- qad, <- qad]; simpa using hq
       go_wp2
       go_round
       case rel => exact ⟨1 + 1, by omega, by go_num, g⟩
       case measure => simp [intOf]
   . cases hq : (b2.toList == s.toList) with
     | true =>
       have g : Hid (isKey s.data.toList = true) := qbc (k := 2) (by decide) (by rw [<- e2.out, <- qad, <- qad]; simpa using hq)
       go_wp2
       go_ret
       exact ⟨qae g.out.symm, rfl⟩
     | false =>
       have g : Hid (∀ j, j < 2 + 1 -> keys.getD j [] ≠ s.data.toList) := fun j hj => by
         by_cases e : j < 2
         . exact hok.out j e
         . obtain rfl : j = 2 := by omega
           rw [<- e2.out, <- qad, <- qad]; simpa using hq
       go_wp2
       go_round
       case rel => exact ⟨2 + 1, by omega, by go_num, g⟩
       case measure => simp [intOf]
   . cases hq : (b3.toList == s.toList) with
     | true =>
       have g : Hid (isKey s.data.toList = true) := qbc (k := 3) (by decide) (by rw [<- e3.out, <- qad, <- qad]; simpa using hq)
       go_wp2
       go_ret
       exact ⟨qae g.out.symm, rfl⟩
     | false =>
       have g : Hid (∀ j, j < 3 + 1 -> keys.getD j [] ≠ s.data.toList) := fun j hj => by
         by_cases e : j < 3
         . exact hok.out j e
         . obtain rfl : j = 3 := by omega
           rw [<- e3.out, <- qad, <- qad]; simpa using hq
       go_wp2
       go_round
       case rel => exact ⟨3 + 1, by omega, by go_num, g⟩
       case measure => simp [intOf]
   . cases hq : (b4.toList == s.toList) with
     | true =>
       have g : Hid (isKey s.data.toList = true) := qbc (k := 4) (by decide) (by rw [<- e4.out, <- qad, <- qad]; simpa using hq)
       go_wp2
       go_ret
       exact ⟨qae g.out.symm, rfl⟩
     | false =>
       have g : Hid (∀ j, j < 4 + 1 -> keys.getD j [] ≠ s.data.toList) := fun j hj => by
         by_cases e : j < 4
         . exact hok.out j e
         . obtain rfl : j = 4 := by omega
           rw [<- e4.out, <- qad, <- qad]; simpa using hq
       go_wp2
       go_round
       case rel => exact ⟨4 + 1, by omega, by go_num, g⟩
       case measure => simp [intOf]
   . cases hq : (b5.toList == s.toList) with
     | true =>
       have g : Hid (isKey s.data.toList = true) := qbc (k := 5) (by decide) (by rw [<- e5.out, <- qad, <- qad]; simpa using hq)
       go_wp2
       go_ret
       exact ⟨qae g.out.symm, rfl⟩
     | false =>
       have g : Hid (∀ j, j < 5 + 1 -> keys.getD j [] ≠ s.data.toList) := fun j hj => by
         by_cases e : j < 5
         . exact hok.out j e
         . obtain rfl : j = 5 := by omega
           rw [<- e5.out, <- qad, <- qad]; simpa using hq
       go_wp2
       go_round
       case rel => exact ⟨5 + 1, by omega, by go_num, g⟩
       case measure => simp [intOf]
   . cases hq : (b6.toList == s.toList) with
     | true =>
       have g : Hid (isKey s.data.toList = true) := qbc (k := 6) (by decide) (by rw [<- e6.out, <- qad, <- qad]; simpa using hq)
       go_wp2
       go_ret
       exact ⟨qae g.out.symm, rfl⟩
     | false =>
       have g : Hid (∀ j, j < 6 + 1 -> keys.getD j [] ≠ s.data.toList) := fun j hj => by
         by_cases e : j < 6
         . exact hok.out j e
         . obtain rfl : j = 6 := by omega
           rw [<- e6.out, <- qad, <- qad]; simpa using hq
       go_wp2
       go_round
       case rel => exact ⟨6 + 1, by omega, by go_num, g⟩
       case measure => simp [intOf]
   . cases hq : (b7.toList == s.toList) with
     | true =>
       have g : Hid (isKey s.data.toList = true) := qbc (k := 7) (by decide) (by rw [<- e7.out, <- qad, <- qad]; simpa using hq)
       go_wp2
       go_ret
       exact ⟨qae g.out.symm, rfl⟩
     | false =>
       have g : Hid (∀ j, j < 7 + 1 -> keys.getD j [] ≠ s.data.toList) := fun j hj => by
         by_cases e : j < 7
         . exact hok.out j e
         . obtain rfl : j = 7 := by omega
           rw [<- e7.out, <- qad, <- qad]; simpa using hq
       go_wp2
       go_round
       case rel => exact ⟨7 + 1, by omega, by go_num, g⟩
       case measure => simp [intOf]
   . cases hq : (b8.toList == s.toList) with
     | true =>
       have g : Hid (isKey s.data.toList = true) := qbc (k := 8) (by decide) (by rw [<- e8.out, <- qad, <- qad]; simpa using hq)
       go_wp2
       go_ret
       exact ⟨qae g.out.symm, rfl⟩
     | false =>
       have g : Hid (∀ j, j < 8 + 1 -> keys.getD j [] ≠ s.data.toList) := fun j hj => by
         by_cases e : j < 8
         . exact hok.out j e
         . obtain rfl : j = 8 := by omega
           rw [<- e8.out, <- qad, <- qad]; simpa using hq
       go_wp2
       go_round
       case rel => exact ⟨8 + 1, by omega, by go_num, g⟩
       case measure => simp [intOf]
   . cases hq : (b9.toList == s.toList) with
     | true =>
       have g : Hid (isKey s.data.toList = true) := qbc (k := 9) (by decide) (by rw [<- e9.out, <- qad, <- qad]; simpa using hq)
       go_wp2
       go_ret
       exact ⟨qae g.out.symm, rfl⟩
     | false =>
       have g : Hid (∀ j, j < 9 + 1 -> keys.getD j [] ≠ s.data.toList) := fun j hj => by
         by_cases e : j < 9
         . exact hok.out j e
         . obtain rfl : j = 9 := by omega
           rw [<- e9.out, <- qad, <- qad]; simpa using hq
       go_wp2
       go_round
       case rel => exact ⟨9 + 1, by omega, by go_num, g⟩
       case measure => simp [intOf]
   . cases hq : (b10.toList == s.toList) with
     | true =>
       have g : Hid (isKey s.data.toList = true) := qbc (k := 10) (by decide) (by rw [<- e10.out, <- qad, <- qad]; simpa using hq)
       go_wp2
       go_ret
       exact ⟨qae g.out.symm, rfl⟩
     | false =>
       have g : Hid (∀ j, j < 10 + 1 -> keys.getD j [] ≠ s.data.toList) := fun j hj => by
         by_cases e : j < 10
         . exact hok.out j e
         . obtain rfl : j = 10 := by omega
           rw [<- e10.out, <- qad, <- qad]; simpa using hq
       go_wp2
       go_round
       case rel => exact ⟨10 + 1, by omega, by go_num, g⟩
       case measure => simp [intOf]
   . cases hq : (b11.toList == s.toList) with
     | true =>
       have g : Hid (isKey s.data.toList = true) := qbc (k := 11) (by decide) (by rw [<- e11.out, <- qad, <- qad]; simpa using hq)
       go_wp2
       go_ret
       exact ⟨qae g.out.symm, rfl⟩
     | false =>
       have g : Hid (∀ j, j < 11 + 1 -> keys.getD j [] ≠ s.data.toList) := fun j hj => by
         by_cases e : j < 11
         . exact hok.out j e
         . obtain rfl : j = 11 := by omega
           rw [<- e11.out, <- qad, <- qad]; simpa using hq
       go_wp2
       go_round
       case rel => exact ⟨11 + 1, by omega, by go_num, g⟩
       case measure => simp [intOf]
   . cases hq : (b12.toList == s.toList) with
     | true =>
       have g : Hid (isKey s.data.toList = true) := qbc (k := 12) (by decide) (by rw [<- e12.out, <- qad, <- qad]; simpa using hq)
       go_wp2
       go_ret
       exact ⟨qae g.out.symm, rfl⟩
     | false =>
       have g : Hid (∀ j, j < 12 + 1 -> keys.getD j [] ≠ s.data.toList) := fun j hj => by
         by_cases e : j < 12
         . exact hok.out j e
         . obtain rfl : j = 12 := by omega
           rw [<- e12.out, <- qad, <- qad]; simpa using hq
       go_wp2
       go_round
       case rel => exact ⟨12 + 1, by omega, by go_num, g⟩
       case measure => simp [intOf]
   . cases hq : (b13.toList == s.toList) with
     | true =>
       have g : Hid (isKey s.data.toList = true) := qbc (k := 13) (by decide) (by rw [<- e13.out, <- qad, <- qad]; simpa using hq)
       go_wp2
       go_ret
       exact ⟨qae g.out.symm, rfl⟩
     | false =>
       have g : Hid (∀ j, j < 13 + 1 -> keys.getD j [] ≠ s.data.toList) := fun j hj => by
         by_cases e : j < 13
         . exact hok.out j e
         . obtain rfl : j = 13 := by omega
           rw [<- e13.out, <- qad, <- qad]; simpa using hq
       go_wp2
       go_round
       case rel => exact ⟨13 + 1, by omega, by go_num, g⟩
       case measure => simp [intOf]
   . have g : Hid (isKey s.data.toList = false) := qip hok.out
     go_wp2
     go_ret
     exact ⟨qae g.out.symm, rfl⟩
theorem qdi (c : UInt8) : ∀ l : List UInt8, decide (0 <= Lib.indexByte l c) = decide (c ∈ l)
 | [] => by simp [Lib.indexByte]
 | b :: l => by
   have ih := qdi c l
   have hge := Lib.indexByte_ge l c
   unfold Lib.indexByte
   by_cases h : b = c
   . subst h; simp
   . have h1 : (b == c) = false := by simpa using h
     rw [h1]
     by_cases h2 : Lib.indexByte l c = -1
     . rw [h2] at ih
       have h3 : c ∉ l := by simpa using ih
       have h4 : c ≠ b := fun e => h e.symm
       simp [h2, h3, h4]
     . have h3 : (Lib.indexByte l c == -1) = false := by simpa using h2
       rw [h3]
       have h4 : 0 <= Lib.indexByte l c := by omega
       have h5 : c ∈ l := by simpa [h4] using ih
       simp [h5]; omega
theorem qoJ (c : UInt8) : ((c.toNat : Int)).toNat.toUInt8 = c := by
 simp
theorem qgW {c : UInt8} {n : Nat} (h : c ≠ n.toUInt8) : ((c.toNat : Int) == (n : Int)) = false := by
 rw [beq_eq_false_iff_ne]
 intro e
 apply h
 have : c.toNat = n := by omega
 rw [<- this]; simp
theorem qjp (s : ByteArray) (w : World) (hs : s.size <= 9223372036854775807) (hne : 0 < s.size) :
   Calls Tryz.prog 52 #[.string s] w fun e w' => e = .returned (.tuple #[.int .i64 (qak s.data.toList).1, .int .i64 (qak s.data.toList).2]) /\ w = w' := by
 obtain ⟨c, r, hcr⟩ : ∃ c r, s.data.toList = c :: r := by
   cases h : s.data.toList with
   | nil => have : s.data.toList.length = s.size := by simp
            rw [h] at this; simp at this; omega
   | cons c r => exact ⟨c, r, rfl⟩
 have h0 : s[0] = c := by
   rw [qcn s 0 hne]; unfold qaT; rw [hcr]; rfl
 have hB := hid (qaD c r)
 replace hcr := hid hcr
 replace h0 := hid h0
 have rl := hid (qpK s w hs)
 have ra := hid (qnF s w hs)
 have rd := hid (qnG s w hs)
 have kp1 := hid (Tryz.strings_HasPrefix s ⟨#[58, 61]⟩ w)
 have kp2 := hid (Tryz.strings_HasPrefix s ⟨#[61, 62]⟩ w)
 have ki := hid (Tryz.strings_IndexByte ⟨#[40, 41, 59, 33, 43, 45, 42, 60, 46]⟩ (c.toNat : Int) w)
 rw [qoJ] at ki
 rw [hcr.out] at rl ra rd kp1 kp2 ⊢
 rw [hB.out]
 have kl := hid (qfe c w)
 have kd := hid (qgt c w)
 by_cases c1 : c = 35
 . rw [if_pos c1]
   subst c1
   have e0 : (s[0].toNat : Int) = 35 := by rw [h0.out]; rfl
   clear hB hcr h0
   go_enter Tryz.func52, Tryz.ntmps52
   go_wp2_with (go_at_call 84; refine rl.out.mono ?_; rintro e w' ⟨rfl, rfl⟩)
   go_ret2
   exact ⟨rfl, rfl⟩
 by_cases c32 : c = 32
 . rw [if_neg c1, if_pos (by simp [c32])]
   subst c32
   have e0 : (s[0].toNat : Int) = 32 := by rw [h0.out]; rfl
   clear hB hcr h0
   go_enter Tryz.func52, Tryz.ntmps52
   go_wp2_with fail
   go_ret2
   exact ⟨rfl, rfl⟩
 by_cases c10 : c = 10
 . rw [if_neg c1, if_pos (by simp [c10])]
   subst c10
   have e0 : (s[0].toNat : Int) = 10 := by rw [h0.out]; rfl
   clear hB hcr h0
   go_enter Tryz.func52, Tryz.ntmps52
   go_wp2_with fail
   go_ret2
   exact ⟨rfl, rfl⟩
 rw [if_neg c1, if_neg (show ¬ (c = 32 ∨ c = 10) from fun h => h.elim c32 c10)]
 by_cases c58 : c = 58
 . rw [if_pos (by simp [c58])]
   subst c58
   have e0 : (s[0].toNat : Int) = 58 := by rw [h0.out]; rfl
   clear hB hcr h0 c1 c32 c10
   unfold hasP
   rw [show (⟨#[58, 61]⟩ : ByteArray).data.toList = [58, 61] from rfl] at kp1
   rw [show (⟨#[61, 62]⟩ : ByteArray).data.toList = [61, 62] from rfl] at kp2
   generalize Lib.hasPrefix (58 :: r) [58, 61] = p1 at kp1 ⊢
   generalize Lib.hasPrefix (58 :: r) [61, 62] = p2 at kp2 ⊢
   cases p1 with
   | true =>
     go_enter Tryz.func52, Tryz.ntmps52
     go_wp2_with (go_at_call 86; refine kp1.out.mono ?_; rintro e w' ⟨rfl, rfl⟩)
     go_ret2
     exact ⟨rfl, rfl⟩
   | false =>
     cases p2
     all_goals
       go_enter Tryz.func52, Tryz.ntmps52
       go_wp2_with fail
       refine kp1.out.mono ?_
       rintro e w' ⟨rfl, rfl⟩
       go_wp2_with fail
       refine kp2.out.mono ?_
       rintro e w' ⟨rfl, rfl⟩
       go_wp2
       go_ret2
       exact ⟨rfl, rfl⟩
 by_cases c61 : c = 61
 . rw [if_pos (by simp [c61])]
   subst c61
   have e0 : (s[0].toNat : Int) = 61 := by rw [h0.out]; rfl
   clear hB hcr h0 c1 c32 c10 c58
   unfold hasP
   rw [show (⟨#[58, 61]⟩ : ByteArray).data.toList = [58, 61] from rfl] at kp1
   rw [show (⟨#[61, 62]⟩ : ByteArray).data.toList = [61, 62] from rfl] at kp2
   generalize Lib.hasPrefix (61 :: r) [58, 61] = p1 at kp1 ⊢
   generalize Lib.hasPrefix (61 :: r) [61, 62] = p2 at kp2 ⊢
   cases p1 with
   | true =>
     go_enter Tryz.func52, Tryz.ntmps52
     go_wp2_with (go_at_call 86; refine kp1.out.mono ?_; rintro e w' ⟨rfl, rfl⟩)
     go_ret2
     exact ⟨rfl, rfl⟩
   | false =>
     cases p2
     all_goals
       go_enter Tryz.func52, Tryz.ntmps52
       go_wp2_with fail
       refine kp1.out.mono ?_
       rintro e w' ⟨rfl, rfl⟩
       go_wp2_with fail
       refine kp2.out.mono ?_
       rintro e w' ⟨rfl, rfl⟩
       go_wp2
       go_ret2
       exact ⟨rfl, rfl⟩
 rw [if_neg (show ¬ (c = 58 ∨ c = 61) from fun h => h.elim c58 c61)]
 have g35 : ((c.toNat : Int) == 35) = false := qgW (c := c) (n := 35) c1
 have g32 : ((c.toNat : Int) == 32) = false := qgW (c := c) (n := 32) c32
 have g10 : ((c.toNat : Int) == 10) = false := qgW (c := c) (n := 10) c10
 have g58 : ((c.toNat : Int) == 58) = false := qgW (c := c) (n := 58) c58
 have g61 : ((c.toNat : Int) == 61) = false := qgW (c := c) (n := 61) c61
 rw [<- h0.out] at g35 g32 g10 g58 g61 ki kl kd
 clear c1 c32 c10 c58 c61
 by_cases cm : c ∈ qdm
 . rw [if_pos cm]
   have gm : (0 : Int) <= Lib.indexByte [40, 41, 59, 33, 43, 45, 42, 60, 46] s[0] := by
     have := qdi c qdm
     rw [decide_eq_true cm, decide_eq_true_eq] at this
     rw [h0.out]; exact this
   clear cm hB hcr h0
   rw [show (⟨#[40, 41, 59, 33, 43, 45, 42, 60, 46]⟩ : ByteArray).data.toList = [40, 41, 59, 33, 43, 45, 42, 60, 46] from rfl] at ki
   generalize Lib.indexByte [40, 41, 59, 33, 43, 45, 42, 60, 46] s[0] = ix at ki gm
   go_enter Tryz.func52, Tryz.ntmps52
   go_wp2_with (first | (go_at_call 87; refine ki.out.mono ?_; rintro e w' ⟨rfl, rfl⟩))
   go_ret2
   exact ⟨rfl, rfl⟩
 rw [if_neg cm]
 have gm : Lib.indexByte [40, 41, 59, 33, 43, 45, 42, 60, 46] s[0] < 0 := by
   have := qdi c qdm
   rw [decide_eq_false cm, decide_eq_false_iff_not] at this
   rw [h0.out]; exact Int.not_le.1 this
 rw [show (⟨#[40, 41, 59, 33, 43, 45, 42, 60, 46]⟩ : ByteArray).data.toList = [40, 41, 59, 33, 43, 45, 42, 60, 46] from rfl] at ki
 generalize Lib.indexByte [40, 41, 59, 33, 43, 45, 42, 60, 46] s[0] = ix at ki gm
 rw [h0.out] at kl kd
 clear cm hB
 cases hl : qas c with
 | true =>
   rw [if_pos rfl]
   rw [hl] at kl
   rw [<- h0.out] at kl
   clear hcr h0 hl kd
   go_enter Tryz.func52, Tryz.ntmps52
   go_wp2_with (first | (go_at_call 87; refine ki.out.mono ?_; rintro e w' ⟨rfl, rfl⟩) | (go_at_call 88; refine kl.out.mono ?_; rintro e w' ⟨rfl, rfl⟩) | (go_at_call 84; refine ra.out.mono ?_; rintro e w' ⟨rfl, rfl⟩))
   go_ret2
   exact ⟨rfl, rfl⟩
 | false =>
   rw [if_neg (by simp)]
   rw [hl] at kl
   cases hd : qat c with
   | true =>
     rw [if_pos rfl]
     rw [hd] at kd
     rw [<- h0.out] at kl kd
     clear hcr h0 hl hd
     go_enter Tryz.func52, Tryz.ntmps52
     go_wp2_with (first | (go_at_call 87; refine ki.out.mono ?_; rintro e w' ⟨rfl, rfl⟩) | (go_at_call 88; refine kl.out.mono ?_; rintro e w' ⟨rfl, rfl⟩) | (go_at_call 90; refine kd.out.mono ?_; rintro e w' ⟨rfl, rfl⟩) | (go_at_call 84; refine rd.out.mono ?_; rintro e w' ⟨rfl, rfl⟩))
     go_ret2
     exact ⟨rfl, rfl⟩
   | false =>
     rw [if_neg (by simp)]
     rw [hd] at kd
     rw [<- h0.out] at kl kd
     clear hcr h0 hl hd
     go_enter Tryz.func52, Tryz.ntmps52
     go_wp2_with (first | (go_at_call 87; refine ki.out.mono ?_; rintro e w' ⟨rfl, rfl⟩) | (go_at_call 88; refine kl.out.mono ?_; rintro e w' ⟨rfl, rfl⟩) | (go_at_call 90; refine kd.out.mono ?_; rintro e w' ⟨rfl, rfl⟩))
     go_ret2
     exact ⟨rfl, rfl⟩
theorem qgX {t : List UInt8} (h : ∀ v, Lib.parseIntB 32 t = .ok v -> Lib.itoa v ≠ t) : numL t = none := by
 unfold numL
 split
 . rename_i v hv
   rw [if_neg (h v hv)]
 . rfl
theorem qoK {t : List UInt8} {v : Int} (h : Lib.parseIntB 32 t = .ok v) (h2 : Lib.itoa v = t) : numL t = some ⟨2, t, v⟩ := by
 unfold numL
 rw [h]
 exact if_pos h2
def f3 (x y z : Value) (j : Nat) : Value := if j = 0 then x else if j = 1 then y else z
def Box3 (W : World) (b : Nat) (x y z : Value) : Prop := W.rowIs b 118 3 (f3 x y z)
theorem Box3.new (W : World) (x y z : Value) : Box3 (W.alloc (.cells #[x, y, z] 118)) W.heap.size x y z :=
 World.rowIs_alloc W #[x, y, z] 118 (f3 x y z) fun i hi => by
   have hi : i < 3 := hi
   obtain rfl | rfl | rfl : i = 0 ∨ i = 1 ∨ i = 2 := by omega
   all_goals rfl
theorem Box3.lt {W : World} {b : Nat} {x y z : Value} (h : Box3 W b x y z) : b < W.heap.size := World.rowIs.lt h
theorem Box3.later {W W' : World} {b : Nat} {x y z : Value} (h : Box3 W b x y z) (hb : Below W.heap.size W W') : Box3 W' b x y z := World.rowIs.of_block h (hb.block _ h.lt)
theorem Box3.c0 {W : World} {b : Nat} {x y z : Value} (h : Box3 W b x y z) : W.cell? ⟨b, 0, none⟩ = some x := World.rowIs.cell h (i := 0) (by decide)
theorem Box3.c1 {W : World} {b : Nat} {x y z : Value} (h : Box3 W b x y z) : W.cell? ⟨b, 1, none⟩ = some y := World.rowIs.cell h (i := 1) (by decide)
theorem Box3.c2 {W : World} {b : Nat} {x y z : Value} (h : Box3 W b x y z) : W.cell? ⟨b, 2, none⟩ = some z := World.rowIs.cell h (i := 2) (by decide)
theorem Box3.fr {W : World} {b : Nat} {x y z : Value} (h : Box3 W b x y z) (i : Nat) : W.frozen? ⟨b, i, none⟩ = false := World.rowIs.frozen h i
theorem Box3.put {W : World} {b : Nat} {x y z : Value} (h : Box3 W b x y z) (u v q : Value) : Box3 (((W.setCell ⟨b, 0, none⟩ u).setCell ⟨b, 1, none⟩ v).setCell ⟨b, 2, none⟩ q) b u v q :=
 World.rowIs.congr (((World.rowIs.set h 0 u).set 1 v).set 2 q) fun j hj => by
   obtain rfl | rfl | rfl : j = 0 ∨ j = 1 ∨ j = 2 := by omega
   all_goals rfl
theorem qcU {B : Nat} {w W : World} {b : Nat} (h : Below B w W) (hB : B <= b) (u v q : Value) : Below B w (((W.setCell ⟨b, 0, none⟩ u).setCell ⟨b, 1, none⟩ v).setCell ⟨b, 2, none⟩ q) :=
 ((h.setCell (p := ⟨b, 0, none⟩) hB u).setCell (p := ⟨b, 1, none⟩) hB v).setCell (p := ⟨b, 2, none⟩) hB q
theorem qkR {l : List UInt8} {v : Int} (h : Lib.parseIntB 32 l = .ok v) : -9223372036854775808 <= v /\ v <= 9223372036854775807 := by
 cases l with
 | nil => cases h
 | cons c r =>
   unfold Lib.parseIntB at h
   dsimp only at h
   split at h
   . cases h
   . cases h
   . rename_i u hu
     split at h
     . cases h
     . split at h
       . cases h
       . rename_i h1 h2
         cases h
         have e : (2 : Nat) ^ (32 - 1) = 2147483648 := by decide
         rw [e] at h1 h2
         by_cases hn : c.toNat = 45
         . rw [if_pos hn]
           have : u <= 2147483648 := by
             rcases Nat.lt_or_ge 2147483648 u with g | g
             . exact absurd ⟨hn, g⟩ h2
             . exact g
           omega
         . rw [if_neg hn]
           have : u < 2147483648 := by
             rcases Nat.lt_or_ge u 2147483648 with g | g
             . exact g
             . exact absurd ⟨hn, g⟩ h1
           omega
theorem qmZ (s : ByteArray) (w : World) (hE : Env w) (hs : s.size <= 140737488355328) :
   Calls Tryz.prog 93 #[.string s] w fun e w' => e = .returned (optV (numL s.data.toList)) /\ Below w.heap.size w w' := by
 have hE1 := hid (hE.later (qab w (.cells #[.int .i64 0, .string ⟨#[]⟩, .int .i64 0] 118)))
 have hb0 := hid (qab w (.cells #[.int .i64 0, .string ⟨#[]⟩, .int .i64 0] 118))
 have hx0 := hid (Box3.new w (.int .i64 0) (.string ⟨#[]⟩) (.int .i64 0))
 rcases hp : Lib.parseIntB 32 s.data.toList with v | _ | _
 rotate_left
 . -- no numeral
   have hN : Hid (numL s.data.toList = none) := qgX fun v h => by rw [hp] at h; cases h
   replace hp := hid hp
   go_enter Tryz.func93, Tryz.ntmps93
   go_wp2_with fail
   obtain ⟨te, pe, hv⟩ := hE1.out.syn
   refine (Any.strconv_ParseInt_10_at32_syntax Tryz.laysC174 s (by omega) hp.out _ _ hv (.inr ⟨te, pe, rfl⟩)).mono ?_
   rintro e W1 ⟨N, rfl, _, _, hb⟩
   replace hx0 := hid (hx0.out.later hb)
   replace hb0 := hid (hb0.out.trans (hb.mono hb0.out.size))
   clear hb hv
   have f0 := hx0.out.fr 0
   have f1 := hx0.out.fr 1
   have f2 := hx0.out.fr 2
   have x0 := hx0.out.c0
   have x1 := hx0.out.c1
   have x2 := hx0.out.c2
   go_wp2_with fail
   have hx9 := hx0.out.put (.int .i64 0) (.string ⟨#[]⟩) (.int .i64 0)
   have hb9 := hid (qcU hb0.out (Nat.le_refl _) (.int .i64 0) (.string ⟨#[]⟩) (.int .i64 0))
   generalize ((W1.setCell ⟨w.heap.size, 0, none⟩ (.int .i64 0)).setCell ⟨w.heap.size, 1, none⟩ (.string ⟨#[]⟩)).setCell ⟨w.heap.size, 2, none⟩ (.int .i64 0) = W9 at hx9 hb9 ⊢
   have y0 := hx9.c0
   have y1 := hx9.c1
   have y2 := hx9.c2
   refine bodyPost_ret (v := .tuple #[noTok, .bool false]) ?_ rfl ?_
   . simp [results, Tryz.f93, go_sem, y0, y1, y2, noTok]
   . exact ⟨by rw [hN.out]; rfl, hb9.out⟩
 . -- too great
   have hN : Hid (numL s.data.toList = none) := qgX fun v h => by rw [hp] at h; cases h
   replace hp := hid hp
   go_enter Tryz.func93, Tryz.ntmps93
   go_wp2_with fail
   obtain ⟨te, pe, hv⟩ := hE1.out.rng
   refine (Tryz.strconv_ParseInt_10_at32_range s (by omega) hp.out _ _ hv (.inr ⟨te, pe, rfl⟩)).mono ?_
   rintro e W1 ⟨N, rfl, _, _, hb⟩
   generalize Lib.intSat 32 s.data.toList = sat
   replace hx0 := hid (hx0.out.later hb)
   replace hb0 := hid (hb0.out.trans (hb.mono hb0.out.size))
   clear hb hv
   have f0 := hx0.out.fr 0
   have f1 := hx0.out.fr 1
   have f2 := hx0.out.fr 2
   have x0 := hx0.out.c0
   have x1 := hx0.out.c1
   have x2 := hx0.out.c2
   go_wp2_with fail
   have hx9 := hx0.out.put (.int .i64 0) (.string ⟨#[]⟩) (.int .i64 0)
   have hb9 := hid (qcU hb0.out (Nat.le_refl _) (.int .i64 0) (.string ⟨#[]⟩) (.int .i64 0))
   generalize ((W1.setCell ⟨w.heap.size, 0, none⟩ (.int .i64 0)).setCell ⟨w.heap.size, 1, none⟩ (.string ⟨#[]⟩)).setCell ⟨w.heap.size, 2, none⟩ (.int .i64 0) = W9 at hx9 hb9 ⊢
   have y0 := hx9.c0
   have y1 := hx9.c1
   have y2 := hx9.c2
   refine bodyPost_ret (v := .tuple #[noTok, .bool false]) ?_ rfl ?_
   . simp [results, Tryz.f93, go_sem, y0, y1, y2, noTok]
   . exact ⟨by rw [hN.out]; rfl, hb9.out⟩
 . -- a number
   obtain ⟨v1, v2⟩ := qkR hp
   have hQ : Hid (∀ z : ByteArray, z.data.toList = Lib.itoa v -> ((z.toList == s.toList) = true -> numL s.data.toList = some ⟨2, s.data.toList, v⟩) /\ ((z.toList == s.toList) = false -> numL s.data.toList = none)) := fun z hz => by
     rw [qad, qad, hz]
     refine ⟨fun h => qoK hp (by simpa using h), fun h => qgX fun v' h' => ?_⟩
     rw [hp] at h'
     cases h'
     simpa using h
   replace hp := hid hp
   go_enter Tryz.func93, Tryz.ntmps93
   go_wp2_with fail
   refine (Tryz.strconv_ParseInt_10_at32_ok s (by omega) v hp.out _).mono ?_
   rintro e W1 ⟨rfl, hor⟩
   have hb : Below (w.alloc (.cells #[.int .i64 0, .string ⟨#[]⟩, .int .i64 0] 118)).heap.size (w.alloc (.cells #[.int .i64 0, .string ⟨#[]⟩, .int .i64 0] 118)) W1 := by
     rcases hor with rfl | ⟨t, rfl⟩
     . exact Below.refl _ _
     . exact Lib.bytesWorld_below _ _ _
   replace hx0 := hid (hx0.out.later hb)
   replace hb0 := hid (hb0.out.trans (hb.mono hb0.out.size))
   replace hE1 := hid (hE1.out.later hb)
   clear hb hor
   go_wp2_with fail
   refine (Tryz.strconv_FormatInt_10 v v1 v2 _ hE1.out.tab).mono ?_
   rintro e W2 ⟨rfl, k, os, hW2⟩
   have hb : Below W1.heap.size W1 W2 := hW2 ▸ qff W1 k os
   replace hx0 := hid (hx0.out.later hb)
   replace hb0 := hid (hb0.out.trans (hb.mono hb0.out.size))
   clear hb hW2
   have hz := hQ.out ⟨(Lib.itoa v).toArray⟩ (by show (List.toArray _).toList = _; simp)
   generalize (⟨(Lib.itoa v).toArray⟩ : ByteArray) = z at hz ⊢
   have f0 := hx0.out.fr 0
   have f1 := hx0.out.fr 1
   have f2 := hx0.out.fr 2
   have x0 := hx0.out.c0
   have x1 := hx0.out.c1
   have x2 := hx0.out.c2
   cases hq : (z.toList == s.toList) with
   | false =>
     have hN := hid (hz.2 hq)
     clear hz
     go_wp2_with fail
     have hx9 := hx0.out.put (.int .i64 0) (.string ⟨#[]⟩) (.int .i64 0)
     have hb9 := hid (qcU hb0.out (Nat.le_refl _) (.int .i64 0) (.string ⟨#[]⟩) (.int .i64 0))
     generalize ((W2.setCell ⟨w.heap.size, 0, none⟩ (.int .i64 0)).setCell ⟨w.heap.size, 1, none⟩ (.string ⟨#[]⟩)).setCell ⟨w.heap.size, 2, none⟩ (.int .i64 0) = W9 at hx9 hb9 ⊢
     have y0 := hx9.c0
     have y1 := hx9.c1
     have y2 := hx9.c2
     refine bodyPost_ret (v := .tuple #[noTok, .bool false]) ?_ rfl ?_
     . simp [results, Tryz.f93, go_sem, y0, y1, y2, noTok]
     . exact ⟨by rw [hN.out]; rfl, hb9.out⟩
   | true =>
     have hN := hid (hz.1 hq)
     clear hz
     go_wp2_with fail
     have hx9 := hx0.out.put (.int .i64 2) (.string s) (.int .i64 v)
     have hb9 := hid (qcU hb0.out (Nat.le_refl _) (.int .i64 2) (.string s) (.int .i64 v))
     generalize ((W2.setCell ⟨w.heap.size, 0, none⟩ (.int .i64 2)).setCell ⟨w.heap.size, 1, none⟩ (.string s)).setCell ⟨w.heap.size, 2, none⟩ (.int .i64 v) = W9 at hx9 hb9 ⊢
     have y0 := hx9.c0
     have y1 := hx9.c1
     have y2 := hx9.c2
     refine bodyPost_ret (v := .tuple #[.agg #[.int .i64 2, .string s, .int .i64 v], .bool true]) ?_ rfl ?_
     . simp [results, Tryz.f93, go_sem, y0, y1, y2]
     . exact ⟨by rw [hN.out]; show _ = Ending.returned (.tuple #[.agg #[.int .i64 2, .string (strOf s.data.toList), .int .i64 v], .bool true]); rw [qbx], hb9.out⟩
theorem qjq (k : Int) (s : ByteArray) (w : World) (hE : Env w) (hs : s.size <= 140737488355328) :
   Calls Tryz.prog 53 #[.int .i64 k, .string s] w fun e w' => e = .returned (optV (tokL k s.data.toList)) /\ Below w.heap.size w w' := by
 have hE1 := hid (hE.later (qab w (.cells #[.int .i64 0, .string ⟨#[]⟩, .int .i64 0] 118)))
 have hb0 := hid (qab w (.cells #[.int .i64 0, .string ⟨#[]⟩, .int .i64 0] 118))
 have hx0 := hid (Box3.new w (.int .i64 0) (.string ⟨#[]⟩) (.int .i64 0))
 have kk := hid (qbN s _ hE1.out)
 have kn := hid (qbD s (w.alloc (.cells #[.int .i64 0, .string ⟨#[]⟩, .int .i64 0] 118)) (by omega))
 by_cases k1 : k = 1
 . subst k1
   cases hk : isKey s.data.toList with
   | true =>
     have hT : Hid (tokL 1 s.data.toList = some ⟨3, s.data.toList, 0⟩) := by
       show tokL 1 s.data.toList = _
       unfold tokL; rw [if_pos ⟨rfl, hk⟩]
     rw [hk] at kk
     clear hk kn
     have f0 := hx0.out.fr 0
     have f1 := hx0.out.fr 1
     have f2 := hx0.out.fr 2
     have x0 := hx0.out.c0
     have x1 := hx0.out.c1
     have x2 := hx0.out.c2
     go_enter Tryz.func53, Tryz.ntmps53
     go_wp2_with fail
     refine kk.out.mono ?_
     rintro e w' ⟨rfl, rfl⟩
     go_wp2_with fail
     refine bodyPost_ret (v := .tuple #[.agg #[.int .i64 3, .string s, .int .i64 0], .bool true]) ?_ rfl ?_
     . simp [results, Tryz.f53, go_sem]
     . exact ⟨by rw [hT.out]; show _ = Ending.returned (.tuple #[.agg #[.int .i64 3, .string (strOf s.data.toList), .int .i64 0], .bool true]); rw [qbx], qab _ _⟩
   | false =>
     cases hn : nameB s with
     | true =>
       have hT : Hid (tokL 1 s.data.toList = some ⟨1, s.data.toList, 0⟩) := by
         show tokL 1 s.data.toList = _
         unfold tokL; rw [if_neg (by rw [hk]; simp), if_pos (.inl ⟨rfl, hn⟩)]
       rw [hk] at kk
       rw [hn] at kn
       clear hk hn
       have f0 := hx0.out.fr 0
       have f1 := hx0.out.fr 1
       have f2 := hx0.out.fr 2
       have x0 := hx0.out.c0
       have x1 := hx0.out.c1
       have x2 := hx0.out.c2
       go_enter Tryz.func53, Tryz.ntmps53
       go_wp2_with fail
       refine kk.out.mono ?_
       rintro e w' ⟨rfl, rfl⟩
       go_wp2_with fail
       refine kn.out.mono ?_
       rintro e w' ⟨rfl, rfl⟩
       go_wp2_with fail
       refine bodyPost_ret (v := .tuple #[.agg #[.int .i64 1, .string s, .int .i64 0], .bool true]) ?_ rfl ?_
       . simp [results, Tryz.f53, go_sem]
       . exact ⟨by rw [hT.out]; show _ = Ending.returned (.tuple #[.agg #[.int .i64 1, .string (strOf s.data.toList), .int .i64 0], .bool true]); rw [qbx], qab _ _⟩
     | false =>
       have hT : Hid (tokL 1 s.data.toList = none) := by
         show tokL 1 s.data.toList = _
         unfold tokL
         have hn' : nameL s.data.toList = false := hn
         rw [if_neg (by rw [hk]; simp), if_neg (by rw [hn']; simp), if_neg (by decide)]
       rw [hk] at kk
       rw [hn] at kn
       clear hk hn
       have f0 := hx0.out.fr 0
       have f1 := hx0.out.fr 1
       have f2 := hx0.out.fr 2
       have x0 := hx0.out.c0
       have x1 := hx0.out.c1
       have x2 := hx0.out.c2
       go_enter Tryz.func53, Tryz.ntmps53
       go_wp2_with fail
       refine kk.out.mono ?_
       rintro e w' ⟨rfl, rfl⟩
       go_wp2_with fail
       refine kn.out.mono ?_
       rintro e w' ⟨rfl, rfl⟩
       go_wp2_with fail
       refine bodyPost_ret (v := .tuple #[.agg #[.int .i64 0, .string ⟨#[]⟩, .int .i64 0], .bool false]) ?_ rfl ?_
       . simp [results, Tryz.f53, go_sem]
       . exact ⟨by rw [hT.out]; rfl, qab _ _⟩
 clear kk kn
 by_cases k4 : k = 4
 . subst k4
   have hT : Hid (tokL 4 s.data.toList = some ⟨4, s.data.toList, 0⟩) := by
     show tokL 4 s.data.toList = _
     unfold tokL; rw [if_neg (by simp), if_pos (.inr rfl)]
   clear k1
   have f0 := hx0.out.fr 0
   have f1 := hx0.out.fr 1
   have f2 := hx0.out.fr 2
   have x0 := hx0.out.c0
   have x1 := hx0.out.c1
   have x2 := hx0.out.c2
   go_enter Tryz.func53, Tryz.ntmps53
   go_wp2_with fail
   refine bodyPost_ret (v := .tuple #[.agg #[.int .i64 4, .string s, .int .i64 0], .bool true]) ?_ rfl ?_
   . simp [results, Tryz.f53, go_sem]
   . exact ⟨by rw [hT.out]; show _ = Ending.returned (.tuple #[.agg #[.int .i64 4, .string (strOf s.data.toList), .int .i64 0], .bool true]); rw [qbx], qab _ _⟩
 by_cases k2 : k = 2
 . subst k2
   have hT : Hid (tokL 2 s.data.toList = numL s.data.toList) := by
     show tokL 2 s.data.toList = _
     unfold tokL; rw [if_neg (by simp), if_neg (by simp), if_pos rfl]
   clear k1 k4
   go_enter Tryz.func53, Tryz.ntmps53
   go_wp2_with fail
   refine (qmZ s _ hE1.out hs).mono ?_
   rintro e W1 ⟨rfl, hb⟩
   replace hx0 := hid (hx0.out.later hb)
   replace hb0 := hid (hb0.out.trans (hb.mono hb0.out.size))
   clear hb
   cases hq : numL s.data.toList with
   | none =>
     rw [hq] at hT
     clear hq
     unfold optV noTok
     have f0 := hx0.out.fr 0
     have f1 := hx0.out.fr 1
     have f2 := hx0.out.fr 2
     have x0 := hx0.out.c0
     have x1 := hx0.out.c1
     have x2 := hx0.out.c2
     go_wp2_with fail
     have hx9 := hx0.out.put (.int .i64 0) (.string ⟨#[]⟩) (.int .i64 0)
     have hb9 := hid (qcU hb0.out (Nat.le_refl _) (.int .i64 0) (.string ⟨#[]⟩) (.int .i64 0))
     generalize ((W1.setCell ⟨w.heap.size, 0, none⟩ (.int .i64 0)).setCell ⟨w.heap.size, 1, none⟩ (.string ⟨#[]⟩)).setCell ⟨w.heap.size, 2, none⟩ (.int .i64 0) = W9 at hx9 hb9 ⊢
     have y0 := hx9.c0
     have y1 := hx9.c1
     have y2 := hx9.c2
     refine bodyPost_ret (v := .tuple #[.agg #[.int .i64 0, .string ⟨#[]⟩, .int .i64 0], .bool false]) ?_ rfl ?_
     . simp [results, Tryz.f53, go_sem, y0, y1, y2]
     . exact ⟨by rw [hT.out]; rfl, hb9.out⟩
   | some q =>
     obtain ⟨qk, qt, qn⟩ := q
     rw [hq] at hT
     clear hq
     unfold optV tokV
     have f0 := hx0.out.fr 0
     have f1 := hx0.out.fr 1
     have f2 := hx0.out.fr 2
     have x0 := hx0.out.c0
     have x1 := hx0.out.c1
     have x2 := hx0.out.c2
     go_wp2_with fail
     have hx9 := hx0.out.put (.int .i64 qk) (.string (strOf qt)) (.int .i64 qn)
     have hb9 := hid (qcU hb0.out (Nat.le_refl _) (.int .i64 qk) (.string (strOf qt)) (.int .i64 qn))
     generalize ((W1.setCell ⟨w.heap.size, 0, none⟩ (.int .i64 qk)).setCell ⟨w.heap.size, 1, none⟩ (.string (strOf qt))).setCell ⟨w.heap.size, 2, none⟩ (.int .i64 qn) = W9 at hx9 hb9 ⊢
     have y0 := hx9.c0
     have y1 := hx9.c1
     have y2 := hx9.c2
     refine bodyPost_ret (v := .tuple #[.agg #[.int .i64 qk, .string (strOf qt), .int .i64 qn], .bool true]) ?_ rfl ?_
     . simp [results, Tryz.f53, go_sem, y0, y1, y2]
     . exact ⟨by rw [hT.out]; rfl, hb9.out⟩
 have hT : Hid (tokL k s.data.toList = none) := by
   show tokL k s.data.toList = _
   unfold tokL; rw [if_neg (fun h => k1 h.1), if_neg (fun h => h.elim (fun h => k1 h.1) k4), if_neg k2]
 have e1 : (k == 1) = false := by simpa using k1
 have e4 : (k == 4) = false := by simpa using k4
 have e2 : (k == 2) = false := by simpa using k2
 clear k1 k2 k4
 have f0 := hx0.out.fr 0
 have f1 := hx0.out.fr 1
 have f2 := hx0.out.fr 2
 have x0 := hx0.out.c0
 have x1 := hx0.out.c1
 have x2 := hx0.out.c2
 go_enter Tryz.func53, Tryz.ntmps53
 go_wp2_with fail
 refine bodyPost_ret (v := .tuple #[.agg #[.int .i64 0, .string ⟨#[]⟩, .int .i64 0], .bool false]) ?_ rfl ?_
 . simp [results, Tryz.f53, go_sem]
 . exact ⟨by rw [hT.out]; rfl, qab _ _⟩
theorem qiC {t : Tok} (h : ¬ (t.text ≠ [] /\ (qak t.text).2 = t.text.length /\ tokL (qak t.text).1 t.text = some t)) : qai t = false := by
 cases hr : qai t with
 | false => rfl
 | true => exact absurd (qaW hr) h
theorem qjr (a : Int) (b : List UInt8) (c : Int) : optV (some ⟨a, b, c⟩) = .tuple #[.agg #[.int .i64 a, .string (strOf b), .int .i64 c], .bool true] := rfl
theorem qjs : optV none = .tuple #[.agg #[.int .i64 0, .string ⟨#[]⟩, .int .i64 0], .bool false] := rfl
theorem qbW (s : ByteArray) : s.data.toList.length = s.size := by simp
theorem qcv (k : Int) (s : ByteArray) (n : Int) (w : World) (hE : Env w) (hs : s.size <= 140737488355328) :
   Calls Tryz.prog 97 #[.agg #[.int .i64 k, .string s, .int .i64 n]] w fun e w' => e = .returned (.bool (qai ⟨k, s.data.toList, n⟩)) /\ Below w.heap.size w w' := by
 have hE1 := hid (hE.later (qab w (.cells #[.int .i64 k, .string s, .int .i64 n] 118)))
 have hb0 := hid (qab w (.cells #[.int .i64 k, .string s, .int .i64 n] 118))
 have hx0 := hid (Box3.new w (.int .i64 k) (.string s) (.int .i64 n))
 by_cases h0 : s.size = 0
 . have hT : Hid (qai ⟨k, s.data.toList, n⟩ = false) := qiC fun h => h.1 (show s.data.toList = [] from List.length_eq_zero_iff.1 (by rw [qbW]; exact h0))
   have hq : s.toList.isEmpty = true := by
     rw [qad, List.length_eq_zero_iff.1 (show s.data.toList.length = 0 by rw [qbW]; exact h0)]; rfl
   clear h0
   have x1 := hx0.out.c1
   go_enter Tryz.func97, Tryz.ntmps97
   go_wp2_with fail
   go_ret
   exact ⟨qae hT.out.symm, hb0.out⟩
 have hne : s.data.toList ≠ [] := fun e => h0 (by rw [<- qbW, e]; rfl)
 have hq : s.toList.isEmpty = false := by
   rw [qad]; exact List.isEmpty_eq_false_iff.2 hne
 replace hne := hid hne
 have kb := hid (qjp s (w.alloc (.cells #[.int .i64 k, .string s, .int .i64 n] 118)) (by omega) (by omega))
 have x1 := hx0.out.c1
 by_cases h1 : (qak s.data.toList).2 = s.size
 . have kt := hid (qjq (qak s.data.toList).1 s _ hE1.out hs)
   have hT : Hid (qai ⟨k, s.data.toList, n⟩ = decide (tokL (qak s.data.toList).1 s.data.toList = some ⟨k, s.data.toList, n⟩)) := by
     show qai _ = _
     cases hd : decide (tokL (qak s.data.toList).1 s.data.toList = some ⟨k, s.data.toList, n⟩) with
     | true => exact qem hne.out (by show _ = s.data.toList.length; rw [qbW]; exact h1) (of_decide_eq_true hd)
     | false => exact qiC fun h => absurd h.2.2 (of_decide_eq_false hd)
   rw [h1] at kb
   generalize (qak s.data.toList).1 = hk at kb kt hT
   clear h0 h1
   cases ht : tokL hk s.data.toList with
   | none =>
     rw [ht] at kt hT
     clear ht
     go_enter Tryz.func97, Tryz.ntmps97
     go_wp2_with fail
     refine kb.out.mono ?_
     rintro e w' ⟨rfl, rfl⟩
     go_wp2_with fail
     refine kt.out.mono ?_
     rintro e W1 ⟨rfl, hb⟩
     rw [qjs]
     go_wp2_with fail
     go_ret
     exact ⟨qae hT.out.symm, (hb0.out.trans (hb.mono hb0.out.size)).alloc (Nat.le_trans hb0.out.size hb.size) _⟩
   | some q =>
     obtain ⟨qk, qt, qn⟩ := q
     have hqt := qgp ht
     dsimp only at hqt
     rw [ht] at kt hT
     clear ht
     go_enter Tryz.func97, Tryz.ntmps97
     go_wp2_with fail
     refine kb.out.mono ?_
     rintro e w' ⟨rfl, rfl⟩
     go_wp2_with fail
     refine kt.out.mono ?_
     rintro e W1 ⟨rfl, hb⟩
     replace hx0 := hid (hx0.out.later hb)
     replace hb0 := hid (hb0.out.trans (hb.mono hb0.out.size))
     clear hb kb kt
     subst hqt
     rw [qjr, qbx]
     have x0 := hx0.out.c0
     have x1 := hx0.out.c1
     have x2 := hx0.out.c2
     have hl := hx0.out.lt
     have hb9 : Below w.heap.size w (W1.alloc (.cells #[.int .i64 qk, .string s, .int .i64 qn] 118)) := hb0.out.alloc hb0.out.size _
     replace hb9 := hid hb9
     by_cases g1 : qk = k
     . subst g1
       by_cases g2 : qn = n
       . subst g2
         have hR : Hid (qai ⟨qk, s.data.toList, qn⟩ = true) := by
           show qai _ = true
           rw [hT.out]; simp
         go_wp2_with fail
         go_ret
         exact ⟨qae hR.out.symm, hb9.out⟩
       . have hR : Hid (qai ⟨qk, s.data.toList, n⟩ = false) := by
           show qai _ = false
           rw [hT.out]; simp [g2]
         have g3 : (qn == n) = false := by simpa using g2
         go_wp2_with fail
         go_ret
         exact ⟨qae hR.out.symm, hb9.out⟩
     . have hR : Hid (qai ⟨k, s.data.toList, n⟩ = false) := by
         show qai _ = false
         rw [hT.out]; simp [g1]
       have g3 : (qk == k) = false := by simpa using g1
       go_wp2_with fail
       go_ret
       exact ⟨qae hR.out.symm, hb9.out⟩
 . have hT : Hid (qai ⟨k, s.data.toList, n⟩ = false) := qiC fun h => h1 (by have h2 : (qak s.data.toList).2 = s.data.toList.length := h.2.1; rw [qbW] at h2; exact h2)
   have h1' : (((qak s.data.toList).2 : Int) != (s.size : Int)) = true := by rw [bne_iff_ne]; omega
   generalize (qak s.data.toList).2 = hn at kb h1'
   clear h0 h1
   go_enter Tryz.func97, Tryz.ntmps97
   go_wp2_with fail
   refine kb.out.mono ?_
   rintro e w' ⟨rfl, rfl⟩
   go_wp2_with fail
   go_ret
   exact ⟨qae hT.out.symm, hb0.out⟩
theorem qqA {ts : List Tok} {k : Nat} (hk : k < ts.length) (h : qai (ts.getD k ⟨0, [], 0⟩) = false) : qao ts = false := by
 unfold qao
 rw [List.all_eq_false]
 refine ⟨ts[k], List.getElem_mem hk, ?_⟩
 rw [List.getD_eq_getElem?_getD, List.getElem?_eq_getElem hk] at h
 simpa using h
theorem qqB {ts : List Tok} (h : ∀ j, j < ts.length -> qai (ts.getD j ⟨0, [], 0⟩) = true) : qao ts = true := by
 unfold qao
 rw [List.all_eq_true]
 intro t ht
 obtain ⟨j, hj, rfl⟩ := List.getElem_of_mem ht
 have := h j hj
 rwa [List.getD_eq_getElem?_getD, List.getElem?_eq_getElem hj] at this
theorem qna (A : Option Addr) (ts : List Tok) (c : Nat) (w : World) (hE : Env w) (hU : Toks w w.heap.size A ts) (hs : Short ts) (hl : ts.length <= 9223372036854775807) :
   Calls Tryz.prog 55 #[.slice A ts.length c] w fun e w' => e = .returned (.bool (qao ts)) /\ Below w.heap.size w w' := by
 have hEh := hid hE
 clear hE
 go_enter Tryz.func55, Tryz.ntmps55
 go_wp2
 go_loopw [7] (fun i wr => ∃ k : Nat, k <= ts.length /\ i = .int .i64 k /\ Hid (∀ j, j < k -> qai (ts.getD j ⟨0, [], 0⟩) = true) /\ Hid (Below w.heap.size w wr)) (fun i _ => ts.length - (intOf i).toNat)
 case atStart => exact ⟨0, Nat.zero_le _, rfl, fun j hj => by omega, Below.refl _ _⟩
 case round =>
   obtain ⟨k, hk, rfl, hok, hB⟩ := hrel
   by_cases hlt : k < ts.length
   . obtain ⟨b, off, rfl, hb, hc⟩ := (hU.later hB.out) (by intro e; subst e; simp at hlt)
     obtain ⟨c0, c1, c2⟩ := hc k hlt
     clear hc
     have hsk := hs k
     cases hr : qai (ts.getD k ⟨0, [], 0⟩) with
     | true =>
       have g3 : Hid (∀ j, j < k + 1 -> qai (ts.getD j ⟨0, [], 0⟩) = true) := fun j hj => by
         by_cases e : j < k
         . exact hok.out j e
         . obtain rfl : j = k := by omega
           exact hr
       generalize ts.getD k ⟨0, [], 0⟩ = q at c0 c1 c2 hr hsk
       obtain ⟨qk, qt, qn⟩ := q
       dsimp only at c0 c1 c2 hsk
       have ha := qab wr (.cells #[.int .i64 qk, .string (strOf qt), .int .i64 qn] 118)
       have kr := qcv qk (strOf qt) qn _ ((hEh.out.later hB.out).later ha) (by rw [qbE]; exact hsk)
       rw [qaP, hr] at kr
       replace kr := hid kr
       have hb9 : Hid (Below w.heap.size w (wr.alloc (.cells #[.int .i64 qk, .string (strOf qt), .int .i64 qn] 118))) := hB.out.alloc hB.out.size _
       clear hr hsk ha
       go_wp2_with fail
       refine kr.out.mono ?_
       rintro e w9 ⟨rfl, hb8⟩
       replace hb8 := hid hb8
       go_wp2_with fail
       go_roundw
       case rel => exact ⟨k + 1, by omega, by go_num, g3, hb9.out.trans (hb8.out.mono hb9.out.size)⟩
       case measure => simp [intOf]; omega
     | false =>
       have g3 : Hid (qao ts = false) := qqA hlt hr
       generalize ts.getD k ⟨0, [], 0⟩ = q at c0 c1 c2 hr hsk
       obtain ⟨qk, qt, qn⟩ := q
       dsimp only at c0 c1 c2 hsk
       have ha := qab wr (.cells #[.int .i64 qk, .string (strOf qt), .int .i64 qn] 118)
       have kr := qcv qk (strOf qt) qn _ ((hEh.out.later hB.out).later ha) (by rw [qbE]; exact hsk)
       rw [qaP, hr] at kr
       replace kr := hid kr
       have hb9 : Hid (Below w.heap.size w (wr.alloc (.cells #[.int .i64 qk, .string (strOf qt), .int .i64 qn] 118))) := hB.out.alloc hB.out.size _
       clear hr hsk ha
       go_wp2_with fail
       refine kr.out.mono ?_
       rintro e w9 ⟨rfl, hb8⟩
       replace hb8 := hid hb8
       go_wp2_with fail
       go_ret
       exact ⟨qae g3.out.symm, hb9.out.trans (hb8.out.mono hb9.out.size)⟩
   . have g3 : Hid (qao ts = true) := qqB fun j hj => hok.out j (by omega)
     go_wp2_with fail
     go_ret
     exact ⟨qae g3.out.symm, hB.out⟩
def cellsOf (l : List Tok) : List Value := l.flatMap fun t => [.int .i64 t.kind, .string (strOf t.text), .int .i64 t.num]
theorem qjt (l : List Tok) (t : Tok) : cellsOf (l ++ [t]) = cellsOf l ++ [.int .i64 t.kind, .string (strOf t.text), .int .i64 t.num] := by
 unfold cellsOf; rw [List.flatMap_append]; rfl
theorem qhC (l : List Tok) : (cellsOf l).length = l.length * 3 := by
 unfold cellsOf
 induction l with
 | nil => rfl
 | cons t l ih => rw [List.flatMap_cons, List.length_append, ih]; simp; omega
theorem qgY : ∀ (l : List Tok) (j : Nat), j < l.length -> (cellsOf l)[j * 3]? = some (.int .i64 (l.getD j ⟨0, [], 0⟩).kind) /\ (cellsOf l)[j * 3 + 1]? = some (.string (strOf (l.getD j ⟨0, [], 0⟩).text)) /\ (cellsOf l)[j * 3 + 2]? = some (.int .i64 (l.getD j ⟨0, [], 0⟩).num)
 | [], _, h => by simp at h
 | t :: l, 0, _ => ⟨rfl, rfl, rfl⟩
 | t :: l, j + 1, h => by
   have ih := qgY l j (by simp at h; omega)
   have e : cellsOf (t :: l) = .int .i64 t.kind :: .string (strOf t.text) :: .int .i64 t.num :: cellsOf l := rfl
   rw [e, List.getD_cons_succ, show (j + 1) * 3 = j * 3 + 1 + 1 + 1 from by omega]
   exact ih
theorem qoL {W : World} {base : Nat} {v : Value} {l : List Tok} (h : W.ownsRow base 118 3 v l.length (cellsOf l)) :
   ∃ A c, v = .slice A l.length c /\ Toks W W.heap.size A l /\ l.length <= c /\ c <= 9223372036854775807 /\ (A = none -> c = 0) := by
 obtain ⟨_, h1 | ⟨g, cap, cur, rfl, _, hg, h2, h3, h4, h5⟩⟩ := h
 . obtain ⟨rfl, h0⟩ := h1
   rw [h0]
   exact ⟨none, 0, rfl, by rw [List.length_eq_zero_iff.1 h0]; exact Toks.nil _ _ _, Nat.le_refl _, by decide, fun _ => rfl⟩
 . refine ⟨some ⟨g, 0, none⟩, cap, rfl, fun _ => ⟨g, 0, rfl, (Array.getElem?_eq_some_iff.1 hg).1, fun j hj => ?_⟩, h2, h3, fun h => by cases h⟩
   have key : ∀ i u, (cellsOf l)[i]? = some u -> W.cell? ⟨g, i, none⟩ = some u := fun i u hu => by
     have hi : i < l.length * 3 := by
       have := (List.getElem?_eq_some_iff.1 hu).1
       rwa [qhC] at this
     have e : cur[i]? = some u := by
       rw [<- h5, List.getElem?_take_of_lt hi, Array.getElem?_toList] at hu
       exact hu
     rw [cell_of_row W g i cur _ _ hg]
     exact e
   obtain ⟨c0, c1, c2⟩ := qgY l j hj
   rw [Nat.zero_add]
   exact ⟨key _ _ c0, key _ _ c1, key _ _ c2⟩
theorem qju {W W' : World} {base size n : Nat} {e : TypeId} {v : Value} {xs : List Value} (h : W.ownsRow base e size v n xs) (hb : Below W.heap.size W W') : W'.ownsRow base e size v n xs := by
 obtain ⟨h1, h2 | ⟨g, cap, cur, hv, hbg, hg, r⟩⟩ := h
 . exact ⟨h1, .inl h2⟩
 . exact ⟨h1, .inr ⟨g, cap, cur, hv, hbg, (hb.block g (Array.getElem?_eq_some_iff.1 hg).1).trans hg, r⟩⟩
theorem qoM {W : World} {base size n : Nat} {e : TypeId} {v : Value} {xs : List Value} (h : W.ownsRow base e size v n xs) (k : Nat) (hk : v.ownBlock = some k) : base <= k := by
 obtain ⟨_, ⟨rfl, _⟩ | ⟨g, cap, cur, rfl, hbg, _⟩⟩ := h
 . cases hk
 . cases hk; exact hbg
def strSz : Value -> Nat
 | .string s => s.size
 | _ => 0
theorem qqC : (Tryz.prog.info? 118).map (fun i => (i.zero, i.size, i.bytes)) = some (some (.agg #[.int .i64 0, .string ⟨#[]⟩, .int .i64 0]), 3, 32) := by kernel_rfl
def qsc (s : ByteArray) (w : World) (e : Ending) (w' : World) : Prop := Below w.heap.size w w' ∧
 ((65536 < s.size /\ e = .returned (.tuple #[.slice none 0 0, .int .i64 1])) ∨
  (s.size <= 65536 /\ lexL s.data.toList = none /\ e = .returned (.tuple #[.slice none 0 0, .int .i64 2])) ∨
  (s.size <= 65536 /\ ∃ l A c, lexL s.data.toList = some l /\ e = .returned (.tuple #[.slice A l.length c, .int .i64 0]) /\ Toks w' w'.heap.size A l /\ l.length <= c /\ c <= 9223372036854775807 /\ (A = none -> c = 0)))
theorem qsR {R : List UInt8} {l : List Tok} {S : List UInt8} {n : Nat} (h : lexL S = (lexL R).map (l ++ ·)) (hs : lexL R = lexL (R.drop n)) : lexL S = (lexL (R.drop n)).map (l ++ ·) := by rw [h, hs]
theorem qkG {R : List UInt8} {l : List Tok} {S : List UInt8} {n : Nat} {t : Tok} (h : lexL S = (lexL R).map (l ++ ·)) (hs : lexL R = (lexL (R.drop n)).map (t :: ·)) : lexL S = (lexL (R.drop n)).map ((l ++ [t]) ++ ·) := by
 rw [h, hs]
 cases lexL (R.drop n) <;> simp
theorem qsd {R : List UInt8} {l : List Tok} {S : List UInt8} (h : lexL S = (lexL R).map (l ++ ·)) (hs : lexL R = none) : lexL S = none := by rw [h, hs]; rfl
theorem qoN (s : ByteArray) (w : World) (hE : Env w) (hm : s.size <= 9223372036854775807) :
   Calls Tryz.prog 27 #[.string s] w (qsc s w) := by
 have hEh := hid hE
 clear hE
 by_cases hbig : 65536 < s.size
 . go_enter Tryz.func27, Tryz.ntmps27
   go_wp2_with fail
   go_ret2
   exact ⟨Below.refl _ _, .inl ⟨hbig, rfl⟩⟩
 obtain ⟨i0, hi, hi2⟩ := Option.map_eq_some_iff.1 qqC
 obtain ⟨hz0, hz1, hz2⟩ : i0.zero = some (.agg #[.int .i64 0, .string ⟨#[]⟩, .int .i64 0]) /\ i0.size = 3 /\ i0.bytes = 32 := by
   injection hi2 with h1 h2; injection h2 with h2 h3; exact ⟨h1, h2, h3⟩
 replace hi := hid hi
 replace hz0 := hid hz0
 replace hz1 := hid hz1
 replace hz2 := hid hz2
 clear hi2
 go_enter Tryz.func27, Tryz.ntmps27
 go_wp2_with fail
 go_loopw [0, 4] (fun u v wr => ∃ (r : ByteArray) (l : List Tok) (v' : Value), u = .string r /\ v = v' /\ Hid (wr.ownsRow w.heap.size 118 3 v' l.length (cellsOf l)) /\ Hid (lexL s.data.toList = (lexL r.data.toList).map (l ++ ·)) /\ l.length + r.size <= s.size /\ Hid (Below w.heap.size w wr)) (fun u _ _ => strSz u)
 case atStart => exact ⟨s, [], _, rfl, rfl, World.ownsRow_nil _ _ _ _, by show lexL s.data.toList = _; cases lexL s.data.toList <;> simp, by simp, Below.refl _ _⟩
 case round =>
   obtain ⟨r, l, v', rfl, rfl, hown, hlex, hsz, hB⟩ := hrel
   by_cases h0 : r.size = 0
   . have hq : r.toList.isEmpty = true := by
       rw [qad, List.length_eq_zero_iff.1 (show r.data.toList.length = 0 by rw [qbW]; exact h0)]; rfl
     have hfin : Hid (lexL s.data.toList = some l) := by
       show lexL s.data.toList = some l
       rw [hlex.out, List.length_eq_zero_iff.1 (show r.data.toList.length = 0 by rw [qbW]; exact h0)]
       simp [qii]
     obtain ⟨A, c, rfl, hT, hc1, hc2, hc3⟩ := qoL hown.out
     replace hc3 := hid hc3
     replace hT := hid hT
     clear hown hlex h0
     go_wp2_with fail
     go_ret2
     exact ⟨hB.out, .inr (.inr ⟨by omega, l, A, c, hfin.out, rfl, hT.out, hc1, hc2, hc3.out⟩)⟩
   . have hne : r.data.toList ≠ [] := fun e => h0 (by rw [<- qbW, e]; rfl)
     have hq : r.toList.isEmpty = false := by
       rw [qad]; exact List.isEmpty_eq_false_iff.2 hne
     have kb := qjp r wr (by omega) (by omega)
     have hstep := qcT hne
     obtain ⟨p1, p2⟩ := qbM hne
     rw [qbW] at p2
     generalize hhk : (qak r.data.toList).1 = k at kb hstep
     generalize hhn : (qak r.data.toList).2 = n at kb hstep p1 p2
     have kt := qjq k (r.extract 0 n) wr (hEh.out.later hB.out) (by rw [ByteArray.size_extract]; omega)
     have et : (r.extract 0 n).data.toList = r.data.toList.take n := by rw [Lib.extract_data]; simp
     rw [et] at kt
     have ed : (r.extract n r.size).data.toList = r.data.toList.drop n := Lib.extract_to_end r n
     have es : (r.extract n r.size).size = r.size - n := by rw [ByteArray.size_extract]; omega
     replace kb := hid kb
     replace ed := hid ed
     replace es := hid es
     clear hne hhk hhn et
     by_cases hk0 : k = 0
     . subst hk0
       have hl2 : Hid (lexL s.data.toList = (lexL (r.extract n r.size).data.toList).map (l ++ ·)) := by
         show lexL s.data.toList = _
         rw [ed.out]
         exact qsR hlex.out hstep
       clear kt hstep hlex
       go_wp2_with fail
       refine kb.out.mono ?_
       rintro e w' ⟨rfl, rfl⟩
       go_wp2_with fail
       go_roundw
       case rel => exact ⟨r.extract n r.size, l, _, rfl, rfl, hown, hl2, by rw [es.out]; omega, hB⟩
       case measure => simp only [strSz]; rw [es.out]; omega
     . rw [if_neg hk0] at hstep
       have hk1 : (k != 0) = true := by simpa using hk0
       cases ht : tokL k (r.data.toList.take n) with
       | none =>
         rw [ht] at kt hstep
         have hl2 := hid (qsd hlex.out hstep)
         replace kt := hid kt
         clear hstep hlex ht hk0
         go_wp2_with fail
         refine kb.out.mono ?_
         rintro e w' ⟨rfl, rfl⟩
         go_wp2_with fail
         refine kt.out.mono ?_
         rintro e W1 ⟨rfl, hb⟩
         rw [qjs]
         have hb9 := hid (hB.out.trans (hb.mono hB.out.size))
         clear hb
         go_wp2_with fail
         go_ret2
         exact ⟨hb9.out.alloc hb9.out.size _, .inr (.inl ⟨by omega, hl2.out, rfl⟩)⟩
       | some t =>
         obtain ⟨tk, tt, tn⟩ := t
         rw [ht] at kt hstep
         have hl2 : Hid (lexL s.data.toList = (lexL (r.extract n r.size).data.toList).map ((l ++ [⟨tk, tt, tn⟩]) ++ ·)) := by
           show lexL s.data.toList = _
           rw [ed.out]
           exact qkG hlex.out hstep
         replace kt := hid kt
         clear hstep hlex ht hk0
         go_wp2_with fail
         refine kb.out.mono ?_
         rintro e w' ⟨rfl, rfl⟩
         go_wp2_with fail
         refine kt.out.mono ?_
         rintro e W1 ⟨rfl, hb⟩
         rw [qjr]
         have hb2 : Below W1.heap.size W1 ((W1.alloc (.cells #[.int .i64 tk, .string (strOf tt), .int .i64 tn] 118)).alloc (.cells #[.int .i64 tk, .string (strOf tt), .int .i64 tn] 118)) := (qab _ _).alloc (by simp) _
         have hown1 := hid (qju (qju hown.out hb) hb2)
         have hb9 : Hid (Below w.heap.size w ((W1.alloc (.cells #[.int .i64 tk, .string (strOf tt), .int .i64 tn] 118)).alloc (.cells #[.int .i64 tk, .string (strOf tt), .int .i64 tn] 118))) := (hB.out.trans (hb.mono hB.out.size)).trans (hb2.mono (Nat.le_trans hB.out.size hb.size))
         have hbx := hid (Box3.new (W1.alloc (.cells #[.int .i64 tk, .string (strOf tt), .int .i64 tn] 118)) (.int .i64 tk) (.string (strOf tt)) (.int .i64 tn))
         clear hb hb2 hown
         have hll : l.length + 1 <= 65537 := by omega
         go_wp2_with (at_builtin; refine wpList_append_own _ rfl _ _ 69 rfl w.heap.size 118 i0 (.agg #[.int .i64 0, .string ⟨#[]⟩, .int .i64 0]) 3 32 Tryz.underlying69 hi.out hz0.out hz1.out hz2.out rfl (by decide) _ _ _ rfl hown1.out ⟨W1.heap.size + 1, 0, none⟩ 1 1 [.int .i64 tk, .string (strOf tt), .int .i64 tn] rfl rfl ?c1 ?c2 ?c3 ?c4 ?c5 ?_)
         case c1 =>
           intro j u hj
           have e : (W1.alloc (.cells #[.int .i64 tk, .string (strOf tt), .int .i64 tn] 118)).heap.size = W1.heap.size + 1 := by simp
           have x0 := hbx.out.c0
           have x1 := hbx.out.c1
           have x2 := hbx.out.c2
           rw [e] at x0 x1 x2
           match j, hj with
           | 0, hj => cases hj; exact x0
           | 1, hj => cases hj; exact x1
           | 2, hj => cases hj; exact x2
           | j + 3, hj => simp at hj
         case c2 =>
           intro u hu
           simp at hu
           rcases hu with rfl | rfl | rfl <;> rfl
         case c3 => unfold maxLen; omega
         case c4 => omega
         case c5 => exact hb9.out.size
         . intro v'' w1 hown' hgrow _
           have hown2 : Hid (w1.ownsRow w.heap.size 118 3 v'' (l ++ [(⟨tk, tt, tn⟩ : Tok)]).length (cellsOf (l ++ [⟨tk, tt, tn⟩]))) := by
             show w1.ownsRow _ _ _ _ _ _
             rw [qjt, List.length_append]
             exact hown'
           have hb3 : Hid (Below w.heap.size w w1) := by
             exact hb9.out.grown hgrow hb9.out.size (qoM hown1.out)
           clear hown' hgrow
           go_wp2_with fail
           go_roundw
           case rel => exact ⟨r.extract n r.size, l ++ [⟨tk, tt, tn⟩], _, rfl, rfl, hown2, hl2, by rw [es.out, List.length_append]; simp; omega, hb3⟩
           case measure => simp only [strSz]; rw [es.out]; omega
end Go.Proofs.YtjnfhebbphdchaaGreatDoor.X
