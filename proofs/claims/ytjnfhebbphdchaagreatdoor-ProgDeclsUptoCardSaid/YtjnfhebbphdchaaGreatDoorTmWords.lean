/-
  The world of the term functions: the tables that are read; the walks of lat.Name and lex.Keyword. Condition: the tables lie as laid; a text that a machine can hold.
  The walks of operator, Binder, right. Condition: the tables lie as laid; the term can be read.
-/
import Derived.Test.YtjnfhebbphdchaaGreatDoorTmSize
import Derived.Test.YtjnfhebbphdchaaGreatDoorLxMath
set_option maxHeartbeats 2000000
set_option maxRecDepth 100000
open Go.Lib (hid)
namespace Go.Proofs.YtjnfhebbphdchaaGreatDoor
open Go.RowKit Go.Lx
def qav : List Nat := [0, 0, 0, 1, 2, 2, 3, 2, 1, 2, 1, 2, 2, 2]
structure Env (w : World) : Prop where
 tab : ∀ j, j < 14 -> w.cell? ⟨2, j, none⟩ = some (.int .i64 (qav.getD j 0 : Nat))
 keys : ∀ j, j < 14 -> w.cell? ⟨0, j, none⟩ = some (.string ⟨(keys.getD j []).toArray⟩)
 size : 3 <= w.heap.size
theorem Env.below {w w' : World} {n : Nat} (h : Env w) (hn : 3 <= n) (hb : Below n w w') : Env w' where
 tab j hj := (hb.cell (p := ⟨2, j, none⟩) (Nat.lt_of_lt_of_le (show 2 < 3 by decide) hn)).trans (h.tab j hj)
 keys j hj := (hb.cell (p := ⟨0, j, none⟩) (Nat.lt_of_lt_of_le (show 0 < 3 by decide) hn)).trans (h.keys j hj)
 size := Nat.le_trans h.size hb.size
theorem Env.later {w w' : World} (h : Env w) (hb : Below w.heap.size w w') : Env w' := h.below h.size hb
def qcu (c : Int) : Bool := decide (97 <= c /\ c <= 122 ∨ 65 <= c /\ c <= 90)
def qds (c : Int) : Bool := decide (48 <= c /\ c <= 57)
theorem qdQ (c : UInt8) : qcu (c.toNat : Int) = qas c := by
 unfold qcu qas
 rw [decide_eq_decide]; omega
theorem qep (c : UInt8) : qds (c.toNat : Int) = qat c := by
 unfold qds qat
 rw [decide_eq_decide]; omega
theorem qcN (c : Int) (w : World) : Calls Tryz.prog 128 #[.int .u8 c] w fun e w' => e = .returned (.bool (qcu c)) /\ w = w' := by
 by_cases h1 : 97 <= c <;> by_cases h2 : c <= 122 <;> by_cases h3 : 65 <= c <;> by_cases h4 : c <= 90
 all_goals first
   | omega
   | (go_enter Tryz.func128, Tryz.ntmps128
      go_wp2
      go_ret
      exact ⟨qae (by unfold qcu; simp; omega), rfl⟩)
theorem qdb (c : Int) (w : World) : Calls Tryz.prog 129 #[.int .u8 c] w fun e w' => e = .returned (.bool (qds c)) /\ w = w' := by
 by_cases h1 : 48 <= c <;> by_cases h2 : c <= 57
 all_goals first
   | omega
   | (go_enter Tryz.func129, Tryz.ntmps129
      go_wp2
      go_ret
      exact ⟨qae (by unfold qds; simp; omega), rfl⟩)
theorem qbJ (c : UInt8) (w : World) : Calls Tryz.prog 128 #[.int .u8 (c.toNat : Int)] w fun e w' => e = .returned (.bool (qas c)) /\ w = w' :=
 qdQ c ▸ qcN _ w
theorem qdc (c : UInt8) (w : World) : Calls Tryz.prog 129 #[.int .u8 (c.toNat : Int)] w fun e w' => e = .returned (.bool (qat c)) /\ w = w' :=
 qep c ▸ qdb _ w
def qaT (s : ByteArray) (k : Nat) : UInt8 := s.data.toList.getD k 0
theorem qcn (s : ByteArray) (k : Nat) (h : k < s.size) : s[k] = qaT s k := by
 have h' : k < s.data.toList.length := by simpa using h
 unfold qaT
 rw [List.getD_eq_getElem?_getD, List.getElem?_eq_getElem h']
 rfl
def nameB (s : ByteArray) : Bool := nameL s.data.toList
theorem qnH (f : UInt8 -> Bool) (l : List UInt8) (h : ∀ j, j < l.length -> f (l.getD j 0) = true) : l.all f = true := by
 rw [List.all_eq_true]
 intro c hc
 obtain ⟨j, hj, rfl⟩ := List.getElem_of_mem hc
 have := h j hj
 rwa [List.getD_eq_getElem?_getD, List.getElem?_eq_getElem hj] at this
theorem qnI (f : UInt8 -> Bool) (l : List UInt8) (h : l.all f = true) (j : Nat) (hj : j < l.length) : f (l.getD j 0) = true := by
 rw [List.getD_eq_getElem?_getD, List.getElem?_eq_getElem hj]
 exact (List.all_eq_true.1 h) _ (List.getElem_mem hj)
theorem qgu (l : List UInt8) : nameL l = true ↔ 1 <= l.length /\ l.length <= 16 /\ qas (l.getD 0 0) = true /\ ∀ j, j < l.length -> qaA (l.getD j 0) = true := by
 cases l with
 | nil => simp [nameL]
 | cons c r =>
   unfold nameL
   rw [Bool.and_eq_true, Bool.and_eq_true, decide_eq_true_eq, List.getD_cons_zero]
   exact ⟨fun ⟨⟨h1, h2⟩, h3⟩ => ⟨by simp, h1, h2, qnI _ _ h3⟩, fun ⟨_, h1, h2, h3⟩ => ⟨⟨h1, h2⟩, qnH _ _ h3⟩⟩
theorem qdt (s : ByteArray) : nameB s = true ↔ 1 <= s.size /\ s.size <= 16 /\ qas (qaT s 0) = true /\ ∀ j, j < s.size -> qaA (qaT s j) = true := by
 unfold nameB
 rw [qgu]
 have : s.data.toList.length = s.size := by simp
 rw [this]; rfl
theorem qco {s : ByteArray} (h : ¬ (1 <= s.size /\ s.size <= 16 /\ qas (qaT s 0) = true /\ ∀ j, j < s.size -> qaA (qaT s j) = true)) : nameB s = false := by
 cases hn : nameB s with
 | false => rfl
 | true => exact absurd ((qdt s).1 hn) h
theorem qbD (s : ByteArray) (w : World) (hs : s.size <= 9223372036854775807) : Calls Tryz.prog 92 #[.string s] w fun e w' => e = .returned (.bool (nameB s)) /\ w = w' := by
 by_cases h0 : s.size = 0
 . have hE : Hid (nameB s = false) := qco fun h => by omega
   have h0' : ((s.size : Int) == 0) = true := by simp [h0]
   clear h0
   go_enter Tryz.func92, Tryz.ntmps92
   go_wp2
   go_ret
   exact ⟨qae hE.out.symm, rfl⟩
 have h0' : ((s.size : Int) == 0) = false := beq_eq_false_iff_ne.2 (by omega)
 have hpos : 0 < s.size := by omega
 clear h0
 by_cases h1 : 16 < s.size
 . have hE : Hid (nameB s = false) := qco fun h => by omega
   go_enter Tryz.func92, Tryz.ntmps92
   go_wp2
   go_ret
   exact ⟨qae hE.out.symm, rfl⟩
 have hb0 := hid (qcn s 0 hpos)
 have k0 := hid (qbJ s[0] w)
 cases h2 : qas s[0] with
 | true =>
   have hL : Hid (qas (qaT s 0) = true) := by
     show qas (qaT s 0) = true
     rw [<- hb0.out]; exact h2
   rw [h2] at k0
   clear h2
   go_enter Tryz.func92, Tryz.ntmps92
   go_wp2_with (go_at_call 128; refine k0.out.mono ?_; rintro e w' ⟨rfl, rfl⟩)
   go_loop [20] (fun i => ∃ k : Nat, k <= s.size /\ i = .int .i64 k /\ Hid (∀ j, j < k -> qaA (qaT s j) = true)) (fun i => s.size - (intOf i).toNat)
   case atStart => exact ⟨0, Nat.zero_le _, rfl, fun j hj => by omega⟩
   case round =>
     obtain ⟨k, hk, rfl, hok⟩ := hrel
     by_cases hlt : k < s.size
     . have hb := hid (qcn s k hlt)
       have ka := hid (qbJ s[k] w)
       have kd := hid (qdc s[k] w)
       cases g1 : qas s[k] with
       | true =>
         have g3 : Hid (∀ j, j < k + 1 -> qaA (qaT s j) = true) := fun j hj => by
           by_cases e : j < k
           . exact hok.out j e
           . obtain rfl : j = k := by omega
             rw [<- hb.out]; unfold qaA; rw [g1]; rfl
         rw [g1] at ka
         clear g1 kd
         go_wp2_with (go_at_call 128; refine ka.out.mono ?_; rintro e w' ⟨rfl, rfl⟩)
         go_round
         case rel => exact ⟨k + 1, by omega, by go_num, g3⟩
         case measure => simp [intOf]; omega
       | false =>
         cases g2 : qat s[k] with
         | true =>
           have g3 : Hid (∀ j, j < k + 1 -> qaA (qaT s j) = true) := fun j hj => by
             by_cases e : j < k
             . exact hok.out j e
             . obtain rfl : j = k := by omega
               rw [<- hb.out]; unfold qaA; rw [g1, g2]; rfl
           rw [g1] at ka
           rw [g2] at kd
           clear g1 g2
           go_wp2_with (first | (go_at_call 128; refine ka.out.mono ?_; rintro e w' ⟨rfl, rfl⟩) | (go_at_call 129; refine kd.out.mono ?_; rintro e w' ⟨rfl, rfl⟩))
           go_round
           case rel => exact ⟨k + 1, by omega, by go_num, g3⟩
           case measure => simp [intOf]; omega
         | false =>
           have hE : Hid (nameB s = false) := qco fun ⟨_, _, _, h⟩ => by
             have := h k hlt
             rw [<- hb.out] at this
             unfold qaA at this
             rw [g1, g2] at this
             cases this
           rw [g1] at ka
           rw [g2] at kd
           clear g1 g2
           go_wp2_with (first | (go_at_call 128; refine ka.out.mono ?_; rintro e w' ⟨rfl, rfl⟩) | (go_at_call 129; refine kd.out.mono ?_; rintro e w' ⟨rfl, rfl⟩))
           go_ret
           exact ⟨qae hE.out.symm, rfl⟩
     . have hE : Hid (nameB s = true) := (qdt s).2 ⟨by omega, by omega, hL.out, fun j hj => hok.out j (by omega)⟩
       go_wp2
       go_ret
       exact ⟨qae hE.out.symm, rfl⟩
 | false =>
   have hE : Hid (nameB s = false) := qco fun ⟨_, _, h, _⟩ => by
     rw [<- hb0.out, h2] at h; cases h
   rw [h2] at k0
   clear h2
   go_enter Tryz.func92, Tryz.ntmps92
   go_wp2_with (go_at_call 128; refine k0.out.mono ?_; rintro e w' ⟨rfl, rfl⟩)
   go_ret
   exact ⟨qae hE.out.symm, rfl⟩
theorem qkr (arr : Array Value) (i : Int) (w : World) (h0 : 0 <= i) (hi : i < 14) (hs : arr.size = 14) : (Instr.index 199 (.agg arr) (.int .i64 i)).run Tryz.prog w = .ok (arr[i.toNat]?.getD undef) w := by
 have h := Tryz.underlying199
 have h9 := Tryz.sizeOf9
 obtain ⟨k, rfl⟩ := Int.eq_ofNat_of_zero_le h0
 have hk : k < arr.size := by omega
 have ha : arr[k]? = some arr[k] := Array.getElem?_eq_getElem hk
 simp [Instr.index, run_underlying h, asIntOf, go_sem, ha, h9]
 intro hh; omega
attribute [local go_sem] qkr
theorem qbc {l : List UInt8} {k : Nat} (hk : k < 14) (h : keys.getD k [] = l) : isKey l = true := by
 unfold isKey
 rw [List.any_eq_true]
 refine ⟨keys.getD k [], ?_, beq_iff_eq.2 h⟩
 rw [List.getD_eq_getElem?_getD, List.getElem?_eq_getElem (show k < keys.length from hk)]
 exact List.getElem_mem _
theorem qip {l : List UInt8} (h : ∀ j, j < 14 -> keys.getD j [] ≠ l) : isKey l = false := by
 unfold isKey
 rw [List.any_eq_false]
 intro x hx
 obtain ⟨j, hj, rfl⟩ := List.getElem_of_mem hx
 have := h j hj
 rw [List.getD_eq_getElem?_getD, List.getElem?_eq_getElem hj] at this
 simpa using this
theorem qad (s : ByteArray) : s.toList = s.data.toList := ByteArray.toList_eq s
theorem qbN (s : ByteArray) (w : World) (hE : Env w) : Calls Tryz.prog 91 #[.string s] w fun e w' => e = .returned (.bool (isKey s.data.toList)) /\ w = w' := by
 obtain ⟨b0, e0, h0⟩ : ∃ b : ByteArray, Hid (b.data.toList = keys.getD 0 []) /\ w.cell? ⟨0, 0, none⟩ = some (.string b) := ⟨_, by show (List.toArray _).toList = _; simp, hE.keys 0 (by decide)⟩
 obtain ⟨b1, e1, h1⟩ : ∃ b : ByteArray, Hid (b.data.toList = keys.getD 1 []) /\ w.cell? ⟨0, 1, none⟩ = some (.string b) := ⟨_, by show (List.toArray _).toList = _; simp, hE.keys 1 (by decide)⟩
 obtain ⟨b2, e2, h2⟩ : ∃ b : ByteArray, Hid (b.data.toList = keys.getD 2 []) /\ w.cell? ⟨0, 2, none⟩ = some (.string b) := ⟨_, by show (List.toArray _).toList = _; simp, hE.keys 2 (by decide)⟩
 obtain ⟨b3, e3, h3⟩ : ∃ b : ByteArray, Hid (b.data.toList = keys.getD 3 []) /\ w.cell? ⟨0, 3, none⟩ = some (.string b) := ⟨_, by show (List.toArray _).toList = _; simp, hE.keys 3 (by decide)⟩
 obtain ⟨b4, e4, h4⟩ : ∃ b : ByteArray, Hid (b.data.toList = keys.getD 4 []) /\ w.cell? ⟨0, 4, none⟩ = some (.string b) := ⟨_, by show (List.toArray _).toList = _; simp, hE.keys 4 (by decide)⟩
 obtain ⟨b5, e5, h5⟩ : ∃ b : ByteArray, Hid (b.data.toList = keys.getD 5 []) /\ w.cell? ⟨0, 5, none⟩ = some (.string b) := ⟨_, by show (List.toArray _).toList = _; simp, hE.keys 5 (by decide)⟩
 obtain ⟨b6, e6, h6⟩ : ∃ b : ByteArray, Hid (b.data.toList = keys.getD 6 []) /\ w.cell? ⟨0, 6, none⟩ = some (.string b) := ⟨_, by show (List.toArray _).toList = _; simp, hE.keys 6 (by decide)⟩
 obtain ⟨b7, e7, h7⟩ : ∃ b : ByteArray, Hid (b.data.toList = keys.getD 7 []) /\ w.cell? ⟨0, 7, none⟩ = some (.string b) := ⟨_, by show (List.toArray _).toList = _; simp, hE.keys 7 (by decide)⟩
 obtain ⟨b8, e8, h8⟩ : ∃ b : ByteArray, Hid (b.data.toList = keys.getD 8 []) /\ w.cell? ⟨0, 8, none⟩ = some (.string b) := ⟨_, by show (List.toArray _).toList = _; simp, hE.keys 8 (by decide)⟩
 obtain ⟨b9, e9, h9⟩ : ∃ b : ByteArray, Hid (b.data.toList = keys.getD 9 []) /\ w.cell? ⟨0, 9, none⟩ = some (.string b) := ⟨_, by show (List.toArray _).toList = _; simp, hE.keys 9 (by decide)⟩
 obtain ⟨b10, e10, h10⟩ : ∃ b : ByteArray, Hid (b.data.toList = keys.getD 10 []) /\ w.cell? ⟨0, 10, none⟩ = some (.string b) := ⟨_, by show (List.toArray _).toList = _; simp, hE.keys 10 (by decide)⟩
 obtain ⟨b11, e11, h11⟩ : ∃ b : ByteArray, Hid (b.data.toList = keys.getD 11 []) /\ w.cell? ⟨0, 11, none⟩ = some (.string b) := ⟨_, by show (List.toArray _).toList = _; simp, hE.keys 11 (by decide)⟩
 obtain ⟨b12, e12, h12⟩ : ∃ b : ByteArray, Hid (b.data.toList = keys.getD 12 []) /\ w.cell? ⟨0, 12, none⟩ = some (.string b) := ⟨_, by show (List.toArray _).toList = _; simp, hE.keys 12 (by decide)⟩
 obtain ⟨b13, e13, h13⟩ : ∃ b : ByteArray, Hid (b.data.toList = keys.getD 13 []) /\ w.cell? ⟨0, 13, none⟩ = some (.string b) := ⟨_, by show (List.toArray _).toList = _; simp, hE.keys 13 (by decide)⟩
 go_enter Tryz.func91, Tryz.ntmps91
 go_wp2
 clear h0 h1 h2 h3 h4 h5 h6 h7 h8 h9 h10 h11 h12 h13
 go_loop [6] (fun i => ∃ k : Nat, k <= 14 /\ i = .int .i64 k /\ Hid (∀ j, j < k -> keys.getD j [] ≠ s.data.toList)) (fun i => 14 - (intOf i).toNat)
 case atStart => exact ⟨0, Nat.zero_le _, rfl, fun j hj => by omega⟩
 case round =>
   obtain ⟨k, hk, rfl, hok⟩ := hrel
   obtain rfl | rfl | rfl | rfl | rfl | rfl | rfl | rfl | rfl | rfl | rfl | rfl | rfl | rfl | rfl : k = 0 ∨ k = 1 ∨ k = 2 ∨ k = 3 ∨ k = 4 ∨ k = 5 ∨ k = 6 ∨ k = 7 ∨ k = 8 ∨ k = 9 ∨ k = 10 ∨ k = 11 ∨ k = 12 ∨ k = 13 ∨ k = 14 := by omega
   . cases hq : (b0.toList == s.toList) with
     | true =>
       have g : Hid (isKey s.data.toList = true) := qbc (k := 0) (by decide) (by rw [<- e0.out, <- qad, <- qad]; simpa using hq)
       go_wp2
       go_ret
       exact ⟨qae g.out.symm, rfl⟩
     | false =>
       have g : Hid (∀ j, j < 0 + 1 -> keys.getD j [] ≠ s.data.toList) := fun j hj => by
         by_cases e : j < 0
         . exact hok.out j e
         . obtain rfl : j = 0 := by omega
           rw [<- e0.out, <- qad, <- qad]; simpa using hq
       go_wp2
       go_round
       case rel => exact ⟨0 + 1, by omega, by go_num, g⟩
       case measure => simp [intOf]
   . cases hq : (b1.toList == s.toList) with
     | true =>
       have g : Hid (isKey s.data.toList = true) := qbc (k := 1) (by decide) (by rw [<- e1.out, <- qad, <- qad]; simpa using hq)
       go_wp2
       go_ret
       exact ⟨qae g.out.symm, rfl⟩
     | false =>
       have g : Hid (∀ j, j < 1 + 1 -> keys.getD j [] ≠ s.data.toList) := fun j hj => by
         by_cases e : j < 1
         . exact hok.out j e
         . obtain rfl : j = 1 := by omega
           rw [<- e1.out, <- qad, <- qad]; simpa using hq
       go_wp2
       go_round
       case rel => exact ⟨1 + 1, by omega, by go_num, g⟩
       case measure => simp [intOf]
   . cases hq : (b2.toList == s.toList) with
     | true =>
       have g : Hid (isKey s.data.toList = true) := qbc (k := 2) (by decide) (by rw [<- e2.out, <- qad, <- qad]; simpa using hq)
       go_wp2
       go_ret
       exact ⟨qae g.out.symm, rfl⟩
     | false =>
       have g : Hid (∀ j, j < 2 + 1 -> keys.getD j [] ≠ s.data.toList) := fun j hj => by
         by_cases e : j < 2
         . exact hok.out j e
         . obtain rfl : j = 2 := by omega
           rw [<- e2.out, <- qad, <- qad]; simpa using hq
       go_wp2
       go_round
       case rel => exact ⟨2 + 1, by omega, by go_num, g⟩
       case measure => simp [intOf]
   . cases hq : (b3.toList == s.toList) with
     | true =>
       have g : Hid (isKey s.data.toList = true) := qbc (k := 3) (by decide) (by rw [<- e3.out, <- qad, <- qad]; simpa using hq)
       go_wp2
       go_ret
       exact ⟨qae g.out.symm, rfl⟩
     | false =>
       have g : Hid (∀ j, j < 3 + 1 -> keys.getD j [] ≠ s.data.toList) := fun j hj => by
         by_cases e : j < 3
         . exact hok.out j e
         . obtain rfl : j = 3 := by omega
           rw [<- e3.out, <- qad, <- qad]; simpa using hq
       go_wp2
       go_round
       case rel => exact ⟨3 + 1, by omega, by go_num, g⟩
       case measure => simp [intOf]
   . cases hq : (b4.toList == s.toList) with
     | true =>
       have g : Hid (isKey s.data.toList = true) := qbc (k := 4) (by decide) (by rw [<- e4.out, <- qad, <- qad]; simpa using hq)
       go_wp2
       go_ret
       exact ⟨qae g.out.symm, rfl⟩
     | false =>
       have g : Hid (∀ j, j < 4 + 1 -> keys.getD j [] ≠ s.data.toList) := fun j hj => by
         by_cases e : j < 4
         . exact hok.out j e
         . obtain rfl : j = 4 := by omega
           rw [<- e4.out, <- qad, <- qad]; simpa using hq
       go_wp2
       go_round
       case rel => exact ⟨4 + 1, by omega, by go_num, g⟩
       case measure => simp [intOf]
   . cases hq : (b5.toList == s.toList) with
     | true =>
       have g : Hid (isKey s.data.toList = true) := qbc (k := 5) (by decide) (by rw [<- e5.out, <- qad, <- qad]; simpa using hq)
       go_wp2
       go_ret
       exact ⟨qae g.out.symm, rfl⟩
     | false =>
       have g : Hid (∀ j, j < 5 + 1 -> keys.getD j [] ≠ s.data.toList) := fun j hj => by
         by_cases e : j < 5
         . exact hok.out j e
         . obtain rfl : j = 5 := by omega
           rw [<- e5.out, <- qad, <- qad]; simpa using hq
       go_wp2
       go_round
       case rel => exact ⟨5 + 1, by omega, by go_num, g⟩
       case measure => simp [intOf]
   . cases hq : (b6.toList == s.toList) with
     | true =>
       have g : Hid (isKey s.data.toList = true) := qbc (k := 6) (by decide) (by rw [<- e6.out, <- qad, <- qad]; simpa using hq)
       go_wp2
       go_ret
       exact ⟨qae g.out.symm, rfl⟩
     | false =>
       have g : Hid (∀ j, j < 6 + 1 -> keys.getD j [] ≠ s.data.toList) := fun j hj => by
         by_cases e : j < 6
         . exact hok.out j e
         . obtain rfl : j = 6 := by omega
           rw [<- e6.out, <- qad, <- qad]; simpa using hq
       go_wp2
       go_round
       case rel => exact ⟨6 + 1, by omega, by go_num, g⟩
       case measure => simp [intOf]
   . cases hq : (b7.toList == s.toList) with
     | true =>
       have g : Hid (isKey s.data.toList = true) := qbc (k := 7) (by decide) (by rw [<- e7.out, <- qad, <- qad]; simpa using hq)
       go_wp2
       go_ret
       exact ⟨qae g.out.symm, rfl⟩
     | false =>
       have g : Hid (∀ j, j < 7 + 1 -> keys.getD j [] ≠ s.data.toList) := fun j hj => by
         by_cases e : j < 7
         . exact hok.out j e
         . obtain rfl : j = 7 := by omega
           rw [<- e7.out, <- qad, <- qad]; simpa using hq
       go_wp2
       go_round
       case rel => exact ⟨7 + 1, by omega, by go_num, g⟩
       case measure => simp [intOf]
   . cases hq : (b8.toList == s.toList) with
     | true =>
       have g : Hid (isKey s.data.toList = true) := qbc (k := 8) (by decide) (by rw [<- e8.out, <- qad, <- qad]; simpa using hq)
       go_wp2
       go_ret
       exact ⟨qae g.out.symm, rfl⟩
     | false =>
       have g : Hid (∀ j, j < 8 + 1 -> keys.getD j [] ≠ s.data.toList) := fun j hj => by
         by_cases e : j < 8
         . exact hok.out j e
         . obtain rfl : j = 8 := by omega
           rw [<- e8.out, <- qad, <- qad]; simpa using hq
       go_wp2
       go_round
       case rel => exact ⟨8 + 1, by omega, by go_num, g⟩
       case measure => simp [intOf]
   . cases hq : (b9.toList == s.toList) with
     | true =>
       have g : Hid (isKey s.data.toList = true) := qbc (k := 9) (by decide) (by rw [<- e9.out, <- qad, <- qad]; simpa using hq)
       go_wp2
       go_ret
       exact ⟨qae g.out.symm, rfl⟩
     | false =>
       have g : Hid (∀ j, j < 9 + 1 -> keys.getD j [] ≠ s.data.toList) := fun j hj => by
         by_cases e : j < 9
         . exact hok.out j e
         . obtain rfl : j = 9 := by omega
           rw [<- e9.out, <- qad, <- qad]; simpa using hq
       go_wp2
       go_round
       case rel => exact ⟨9 + 1, by omega, by go_num, g⟩
       case measure => simp [intOf]
   . cases hq : (b10.toList == s.toList) with
     | true =>
       have g : Hid (isKey s.data.toList = true) := qbc (k := 10) (by decide) (by rw [<- e10.out, <- qad, <- qad]; simpa using hq)
       go_wp2
       go_ret
       exact ⟨qae g.out.symm, rfl⟩
     | false =>
       have g : Hid (∀ j, j < 10 + 1 -> keys.getD j [] ≠ s.data.toList) := fun j hj => by
         by_cases e : j < 10
         . exact hok.out j e
         . obtain rfl : j = 10 := by omega
           rw [<- e10.out, <- qad, <- qad]; simpa using hq
       go_wp2
       go_round
       case rel => exact ⟨10 + 1, by omega, by go_num, g⟩
       case measure => simp [intOf]
   . cases hq : (b11.toList == s.toList) with
     | true =>
       have g : Hid (isKey s.data.toList = true) := qbc (k := 11) (by decide) (by rw [<- e11.out, <- qad, <- qad]; simpa using hq)
       go_wp2
       go_ret
       exact ⟨qae g.out.symm, rfl⟩
     | false =>
       have g : Hid (∀ j, j < 11 + 1 -> keys.getD j [] ≠ s.data.toList) := fun j hj => by
         by_cases e : j < 11
         . exact hok.out j e
         . obtain rfl : j = 11 := by omega
           rw [<- e11.out, <- qad, <- qad]; simpa using hq
       go_wp2
       go_round
       case rel => exact ⟨11 + 1, by omega, by go_num, g⟩
       case measure => simp [intOf]
   . cases hq : (b12.toList == s.toList) with
     | true =>
       have g : Hid (isKey s.data.toList = true) := qbc (k := 12) (by decide) (by rw [<- e12.out, <- qad, <- qad]; simpa using hq)
       go_wp2
       go_ret
       exact ⟨qae g.out.symm, rfl⟩
     | false =>
       have g : Hid (∀ j, j < 12 + 1 -> keys.getD j [] ≠ s.data.toList) := fun j hj => by
         by_cases e : j < 12
         . exact hok.out j e
         . obtain rfl : j = 12 := by omega
           rw [<- e12.out, <- qad, <- qad]; simpa using hq
       go_wp2
       go_round
       case rel => exact ⟨12 + 1, by omega, by go_num, g⟩
       case measure => simp [intOf]
   . cases hq : (b13.toList == s.toList) with
     | true =>
       have g : Hid (isKey s.data.toList = true) := qbc (k := 13) (by decide) (by rw [<- e13.out, <- qad, <- qad]; simpa using hq)
       go_wp2
       go_ret
       exact ⟨qae g.out.symm, rfl⟩
     | false =>
       have g : Hid (∀ j, j < 13 + 1 -> keys.getD j [] ≠ s.data.toList) := fun j hj => by
         by_cases e : j < 13
         . exact hok.out j e
         . obtain rfl : j = 13 := by omega
           rw [<- e13.out, <- qad, <- qad]; simpa using hq
       go_wp2
       go_round
       case rel => exact ⟨13 + 1, by omega, by go_num, g⟩
       case measure => simp [intOf]
   . have g : Hid (isKey s.data.toList = false) := qip hok.out
     go_wp2
     go_ret
     exact ⟨qae g.out.symm, rfl⟩
end Go.Proofs.YtjnfhebbphdchaaGreatDoor
namespace Go.Tm
open Go.Lx
def opL : List (List UInt8) := [[43], [45], [42], [60], [61]]
def opB (l : List UInt8) : Bool := opL.any (fun k => k == l)
def wordK (k : Int) : Bool := k == 2 || k == 3 || k == 5 || k == 9
def qbO (k : Int) : Bool := k == 3 || k == 5 || k == 9
end Go.Tm
namespace Go.Proofs.YtjnfhebbphdchaaGreatDoor
open Go.RowKit Go.Shelf Go.Tm Go.Lx
def qay (t : Go.Tm.T) : Bool :=
 if t.kind = 1 then t.name.size == 0 && decide (0 <= t.num) && decide (t.num <= 2147483647)
 else if wordK t.kind = true then t.num == 0 && nameB t.name && !isKey t.name.data.toList
 else if t.kind = 12 then t.num == 0 && opB t.name.data.toList
 else t.num == 0 && t.name.size == 0
def nodeB (t : Go.Tm.T) : Bool := decide (1 <= t.kind) && decide (t.kind <= 13) && (t.kids.length == qav.getD t.kind.toNat 0) && qay t
theorem qcj (s : ByteArray) : (s.toList == ([] : List UInt8)) = (s.size == 0) := by
 rw [ByteArray.toList_eq, Bool.eq_iff_iff, beq_iff_eq, beq_iff_eq]
 constructor
 . intro h; have := congrArg List.length h; simpa using this
 . intro h; exact List.eq_nil_of_length_eq_zero (by simpa using h)
theorem qdz (s : ByteArray) (w : World) : Calls Tryz.prog 152 #[.string s] w fun e w' => e = .returned (.bool (opB s.data.toList)) /\ w = w' := by
 have hd : s.toList = s.data.toList := ByteArray.toList_eq s
 cases h1 : (s.toList == [43]) with
 | true =>
   have hE : Hid (opB s.data.toList = true) := by show _ = _; rw [hd, beq_iff_eq] at h1; rw [h1]; decide
   clear hd
   go_enter Tryz.func152, Tryz.ntmps152
   go_wp2
   go_ret
   exact ⟨qae hE.out.symm, rfl⟩
 | false =>
 cases h2 : (s.toList == [45]) with
 | true =>
   have hE : Hid (opB s.data.toList = true) := by show _ = _; rw [hd, beq_iff_eq] at h2; rw [h2]; decide
   clear hd
   go_enter Tryz.func152, Tryz.ntmps152
   go_wp2
   go_ret
   exact ⟨qae hE.out.symm, rfl⟩
 | false =>
 cases h3 : (s.toList == [42]) with
 | true =>
   have hE : Hid (opB s.data.toList = true) := by show _ = _; rw [hd, beq_iff_eq] at h3; rw [h3]; decide
   clear hd
   go_enter Tryz.func152, Tryz.ntmps152
   go_wp2
   go_ret
   exact ⟨qae hE.out.symm, rfl⟩
 | false =>
 cases h4 : (s.toList == [60]) with
 | true =>
   have hE : Hid (opB s.data.toList = true) := by show _ = _; rw [hd, beq_iff_eq] at h4; rw [h4]; decide
   clear hd
   go_enter Tryz.func152, Tryz.ntmps152
   go_wp2
   go_ret
   exact ⟨qae hE.out.symm, rfl⟩
 | false =>
 cases h5 : (s.toList == [61]) with
 | true =>
   have hE : Hid (opB s.data.toList = true) := by show _ = _; rw [hd, beq_iff_eq] at h5; rw [h5]; decide
   clear hd
   go_enter Tryz.func152, Tryz.ntmps152
   go_wp2
   go_ret
   exact ⟨qae hE.out.symm, rfl⟩
 | false =>
   have hE : Hid (opB s.data.toList = false) := by
     show _ = _
     rw [hd] at h1 h2 h3 h4 h5
     rw [beq_eq_false_iff_ne] at h1 h2 h3 h4 h5
     unfold opB opL
     simp only [List.any_cons, List.any_nil, Bool.or_false, Bool.or_eq_false_iff, beq_eq_false_iff_ne]
     exact ⟨Ne.symm h1, Ne.symm h2, Ne.symm h3, Ne.symm h4, Ne.symm h5⟩
   clear hd
   go_enter Tryz.func152, Tryz.ntmps152
   go_wp2
   go_ret
   exact ⟨qae hE.out.symm, rfl⟩
theorem qfn (k n : Int) (s : ByteArray) (v : Value) (w : World) : Calls Tryz.prog 69 #[.agg #[.int .i64 k, .string s, .int .i64 n, v]] w fun e w' => e = .returned (.bool (qbO k)) /\ Below w.heap.size w w' := by
 have hb := hid (qab w (.cells #[.int .i64 k, .string s, .int .i64 n, v] 26))
 cases h1 : (k == 3) with
 | true =>
   have hE : Hid (qbO k = true) := by show _ = _; unfold qbO; rw [h1]; rfl
   go_enter Tryz.func69, Tryz.ntmps69
   go_wp2
   go_ret
   exact ⟨qae hE.out.symm, hb.out⟩
 | false =>
 cases h2 : (k == 5) with
 | true =>
   have hE : Hid (qbO k = true) := by show _ = _; unfold qbO; rw [h2]; simp
   go_enter Tryz.func69, Tryz.ntmps69
   go_wp2
   go_ret
   exact ⟨qae hE.out.symm, hb.out⟩
 | false =>
 cases h3 : (k == 9) with
 | true =>
   have hE : Hid (qbO k = true) := by show _ = _; unfold qbO; rw [h3]; simp
   go_enter Tryz.func69, Tryz.ntmps69
   go_wp2
   go_ret
   exact ⟨qae hE.out.symm, hb.out⟩
 | false =>
   have hE : Hid (qbO k = false) := by show _ = _; unfold qbO; rw [h1, h2, h3]; rfl
   go_enter Tryz.func69, Tryz.ntmps69
   go_wp2
   go_ret
   exact ⟨qae hE.out.symm, hb.out⟩
theorem qnR (b o : Nat) (t : Go.Tm.T) (A : Option Addr) (c : Nat) (w : World) (_ : Env w) (hh : Hdr w anyB b o t A c) (_ : t.name.size <= 9223372036854775807) (hk : t.kind < 1) :
   Calls Tryz.prog 122 #[.pointer (some ⟨b, o, none⟩)] w fun e w' => e = .returned (.bool (nodeB t)) /\ Below w.heap.size w w' := by
 have h0 := hh.kind
 have h1 := hh.name
 have h2 := hh.num
 have h3 := hh.kids
 replace hh := hid hh
 have hE9 : Hid (nodeB t = false) := by
   show _ = _
   unfold nodeB
   rw [decide_eq_false (show ¬ 1 <= t.kind by omega)]; rfl
 go_enter Tryz.func122, Tryz.ntmps122
 go_wp2_with fail
 go_quiet (fail)
 all_goals go_wp2
 all_goals go_ret
 all_goals exact ⟨qae hE9.out.symm, qap (Below.refl _ _) _⟩
theorem qmC (b o : Nat) (t : Go.Tm.T) (A : Option Addr) (c : Nat) (w : World) (_ : Env w) (hh : Hdr w anyB b o t A c) (_ : t.name.size <= 9223372036854775807) (hk : 13 < t.kind) :
   Calls Tryz.prog 122 #[.pointer (some ⟨b, o, none⟩)] w fun e w' => e = .returned (.bool (nodeB t)) /\ Below w.heap.size w w' := by
 have h0 := hh.kind
 have h1 := hh.name
 have h2 := hh.num
 have h3 := hh.kids
 replace hh := hid hh
 have hE9 : Hid (nodeB t = false) := by
   show _ = _
   unfold nodeB
   rw [decide_eq_false (show ¬ t.kind <= 13 by omega)]; simp
 have hk2 : decide (t.kind < 1) = false := decide_eq_false (by omega)
 have hk3 : decide (13 < t.kind) = true := decide_eq_true hk
 go_enter Tryz.func122, Tryz.ntmps122
 go_wp2_with fail
 go_quiet (fail)
 all_goals go_wp2
 all_goals go_ret
 all_goals exact ⟨qae hE9.out.symm, qap (Below.refl _ _) _⟩
theorem qrx (b o : Nat) (t : Go.Tm.T) (A : Option Addr) (c : Nat) (w : World) (hE : Env w) (hh : Hdr w anyB b o t A c) (_ : t.name.size <= 9223372036854775807) (hk : t.kind = 1) :
   Calls Tryz.prog 122 #[.pointer (some ⟨b, o, none⟩)] w fun e w' => e = .returned (.bool (nodeB t)) /\ Below w.heap.size w w' := by
 have h0 := hh.kind
 have h1 := hh.name
 have h2 := hh.num
 have h3 := hh.kids
 replace hh := hid hh
 have tb : w.cell? ⟨2, 1, none⟩ = some (.int .i64 0) := hE.tab 1 (by decide)
 rw [hk] at h0
 by_cases hl : t.kids.length = 0
 case neg =>
   have hE9 : Hid (nodeB t = false) := by
     show _ = _
     unfold nodeB
     have : (t.kids.length == qav.getD t.kind.toNat 0) = false := by rw [hk, beq_eq_false_iff_ne]; exact hl
     rw [this]; simp
   have hl2 : ((t.kids.length : Int) != 0) = true := by rw [bne_iff_ne]; omega
   replace hk := hid hk
   clear hE hl
   go_enter Tryz.func122, Tryz.ntmps122
   go_wp2_with fail
   go_quiet (fail)
   all_goals go_wp2
   all_goals go_ret
   all_goals exact ⟨qae hE9.out.symm, qap (Below.refl _ _) _⟩
 have hN : nodeB t = qay t := by
   unfold nodeB
   have : (t.kids.length == qav.getD t.kind.toNat 0) = true := by rw [hk, beq_iff_eq]; exact hl
   rw [this, decide_eq_true (show 1 <= t.kind by omega), decide_eq_true (show t.kind <= 13 by omega)]; simp
 have hl2 : ((t.kids.length : Int) != 0) = false := by rw [Bool.eq_false_iff, Ne, bne_iff_ne]; omega
 clear hl
 have hF : nodeB t = (t.name.size == 0 && decide (0 <= t.num) && decide (t.num <= 2147483647)) := by
   rw [hN]; unfold qay; rw [if_pos hk]
 rw [<- qcj] at hF
 clear hE hN
 replace hk := hid hk
 replace hF := hid hF
 go_enter Tryz.func122, Tryz.ntmps122
 go_wp2_with fail
 go_quiet (fail)
 cases hs2 : (t.name.toList == []) with
 | false =>
   have hE9 : Hid (nodeB t = false) := by show _ = _; rw [hF.out, hs2]; rfl
   go_wp2
   all_goals go_ret
   all_goals exact ⟨qae hE9.out.symm, qap (Below.refl _ _) _⟩
 | true =>
   by_cases hn1 : 0 <= t.num
   case neg =>
     have hE9 : Hid (nodeB t = false) := by show _ = _; rw [hF.out, hs2, decide_eq_false hn1]; rfl
     go_wp2
     all_goals go_ret
     all_goals exact ⟨qae hE9.out.symm, qap (Below.refl _ _) _⟩
   by_cases hn2 : t.num <= 2147483647
   . have hE9 : Hid (nodeB t = true) := by show _ = _; rw [hF.out, hs2, decide_eq_true hn1, decide_eq_true hn2]; rfl
     go_wp2
     all_goals go_ret
     all_goals exact ⟨qae hE9.out.symm, qap (Below.refl _ _) _⟩
   . have hE9 : Hid (nodeB t = false) := by show _ = _; rw [hF.out, hs2, decide_eq_true hn1, decide_eq_false hn2]; rfl
     go_wp2
     all_goals go_ret
     all_goals exact ⟨qae hE9.out.symm, qap (Below.refl _ _) _⟩
theorem qry (b o : Nat) (t : Go.Tm.T) (A : Option Addr) (c : Nat) (w : World) (hE : Env w) (hh : Hdr w anyB b o t A c) (hs : t.name.size <= 9223372036854775807) (hk : t.kind = 2) :
   Calls Tryz.prog 122 #[.pointer (some ⟨b, o, none⟩)] w fun e w' => e = .returned (.bool (nodeB t)) /\ Below w.heap.size w w' := by
 have h0 := hh.kind
 have h1 := hh.name
 have h2 := hh.num
 have h3 := hh.kids
 replace hh := hid hh
 have tb : w.cell? ⟨2, 2, none⟩ = some (.int .i64 0) := hE.tab 2 (by decide)
 rw [hk] at h0
 by_cases hl : t.kids.length = 0
 case neg =>
   have hE9 : Hid (nodeB t = false) := by
     show _ = _
     unfold nodeB
     have : (t.kids.length == qav.getD t.kind.toNat 0) = false := by rw [hk, beq_eq_false_iff_ne]; exact hl
     rw [this]; simp
   have hl2 : ((t.kids.length : Int) != 0) = true := by rw [bne_iff_ne]; omega
   replace hk := hid hk
   clear hE hl
   go_enter Tryz.func122, Tryz.ntmps122
   go_wp2_with fail
   go_quiet (fail)
   all_goals go_wp2
   all_goals go_ret
   all_goals exact ⟨qae hE9.out.symm, qap (Below.refl _ _) _⟩
 have hN : nodeB t = qay t := by
   unfold nodeB
   have : (t.kids.length == qav.getD t.kind.toNat 0) = true := by rw [hk, beq_iff_eq]; exact hl
   rw [this, decide_eq_true (show 1 <= t.kind by omega), decide_eq_true (show t.kind <= 13 by omega)]; simp
 have hl2 : ((t.kids.length : Int) != 0) = false := by rw [Bool.eq_false_iff, Ne, bne_iff_ne]; omega
 clear hl
 have hF : nodeB t = (t.num == 0 && nameB t.name && !isKey t.name.data.toList) := by
   rw [hN]; unfold qay; rw [if_neg (by omega), hk, if_pos (by decide)]
 have hkey : Hid (∀ n, Calls Tryz.prog 91 #[.string t.name] (w.drewN n) fun e w' => e = .returned (.bool (isKey t.name.data.toList)) /\ w.drewN n = w') := fun n =>
   qbN t.name (w.drewN n) (hE.later (qap (Below.refl _ _) n))
 clear hE hN
 replace hk := hid hk
 replace hF := hid hF
 go_enter Tryz.func122, Tryz.ntmps122
 go_wp2_with fail
 go_quiet (fail)
 cases hn : (t.num == 0) with
 | false =>
   have hE9 : Hid (nodeB t = false) := by show _ = _; rw [hF.out, hn]; rfl
   go_wp2
   all_goals go_ret
   all_goals exact ⟨qae hE9.out.symm, qap (Below.refl _ _) _⟩
 | true =>
   cases hm : nameB t.name with
   | false =>
     have hE9 : Hid (nodeB t = false) := by show _ = _; rw [hF.out, hm]; simp
     go_wp2_with fail
     refine (qbD t.name _ hs).mono ?_
     rw [hm]
     rintro e w' ⟨rfl, rfl⟩
     replace hm := hid hm
     go_wp2
     all_goals go_ret
     all_goals exact ⟨qae hE9.out.symm, qap (Below.refl _ _) _⟩
   | true =>
     have hE9 : Hid (nodeB t = !isKey t.name.data.toList) := by show _ = _; rw [hF.out, hm, hn]; simp
     go_wp2_with fail
     refine (qbD t.name _ hs).mono ?_
     rw [hm]
     rintro e w' ⟨rfl, rfl⟩
     replace hm := hid hm
     go_wp2_with fail
     refine (hkey.out _).mono ?_
     rintro e w' ⟨rfl, rfl⟩
     go_wp2
     all_goals go_ret
     all_goals exact ⟨qae hE9.out.symm, qap (Below.refl _ _) _⟩
theorem qrz (b o : Nat) (t : Go.Tm.T) (A : Option Addr) (c : Nat) (w : World) (hE : Env w) (hh : Hdr w anyB b o t A c) (hs : t.name.size <= 9223372036854775807) (hk : t.kind = 3) :
   Calls Tryz.prog 122 #[.pointer (some ⟨b, o, none⟩)] w fun e w' => e = .returned (.bool (nodeB t)) /\ Below w.heap.size w w' := by
 have h0 := hh.kind
 have h1 := hh.name
 have h2 := hh.num
 have h3 := hh.kids
 replace hh := hid hh
 have tb : w.cell? ⟨2, 3, none⟩ = some (.int .i64 1) := hE.tab 3 (by decide)
 rw [hk] at h0
 by_cases hl : t.kids.length = 1
 case neg =>
   have hE9 : Hid (nodeB t = false) := by
     show _ = _
     unfold nodeB
     have : (t.kids.length == qav.getD t.kind.toNat 0) = false := by rw [hk, beq_eq_false_iff_ne]; exact hl
     rw [this]; simp
   have hl2 : ((t.kids.length : Int) != 1) = true := by rw [bne_iff_ne]; omega
   replace hk := hid hk
   clear hE hl
   go_enter Tryz.func122, Tryz.ntmps122
   go_wp2_with fail
   go_quiet (fail)
   all_goals go_wp2
   all_goals go_ret
   all_goals exact ⟨qae hE9.out.symm, qap (Below.refl _ _) _⟩
 have hN : nodeB t = qay t := by
   unfold nodeB
   have : (t.kids.length == qav.getD t.kind.toNat 0) = true := by rw [hk, beq_iff_eq]; exact hl
   rw [this, decide_eq_true (show 1 <= t.kind by omega), decide_eq_true (show t.kind <= 13 by omega)]; simp
 have hl2 : ((t.kids.length : Int) != 1) = false := by rw [Bool.eq_false_iff, Ne, bne_iff_ne]; omega
 clear hl
 have hF : nodeB t = (t.num == 0 && nameB t.name && !isKey t.name.data.toList) := by
   rw [hN]; unfold qay; rw [if_neg (by omega), hk, if_pos (by decide)]
 have hkey : Hid (∀ n, Calls Tryz.prog 91 #[.string t.name] (w.drewN n) fun e w' => e = .returned (.bool (isKey t.name.data.toList)) /\ w.drewN n = w') := fun n =>
   qbN t.name (w.drewN n) (hE.later (qap (Below.refl _ _) n))
 clear hE hN
 replace hk := hid hk
 replace hF := hid hF
 go_enter Tryz.func122, Tryz.ntmps122
 go_wp2_with fail
 go_quiet (fail)
 cases hn : (t.num == 0) with
 | false =>
   have hE9 : Hid (nodeB t = false) := by show _ = _; rw [hF.out, hn]; rfl
   go_wp2
   all_goals go_ret
   all_goals exact ⟨qae hE9.out.symm, qap (Below.refl _ _) _⟩
 | true =>
   cases hm : nameB t.name with
   | false =>
     have hE9 : Hid (nodeB t = false) := by show _ = _; rw [hF.out, hm]; simp
     go_wp2_with fail
     refine (qbD t.name _ hs).mono ?_
     rw [hm]
     rintro e w' ⟨rfl, rfl⟩
     replace hm := hid hm
     go_wp2
     all_goals go_ret
     all_goals exact ⟨qae hE9.out.symm, qap (Below.refl _ _) _⟩
   | true =>
     have hE9 : Hid (nodeB t = !isKey t.name.data.toList) := by show _ = _; rw [hF.out, hm, hn]; simp
     go_wp2_with fail
     refine (qbD t.name _ hs).mono ?_
     rw [hm]
     rintro e w' ⟨rfl, rfl⟩
     replace hm := hid hm
     go_wp2_with fail
     refine (hkey.out _).mono ?_
     rintro e w' ⟨rfl, rfl⟩
     go_wp2
     all_goals go_ret
     all_goals exact ⟨qae hE9.out.symm, qap (Below.refl _ _) _⟩
theorem qrA (b o : Nat) (t : Go.Tm.T) (A : Option Addr) (c : Nat) (w : World) (hE : Env w) (hh : Hdr w anyB b o t A c) (_ : t.name.size <= 9223372036854775807) (hk : t.kind = 4) :
   Calls Tryz.prog 122 #[.pointer (some ⟨b, o, none⟩)] w fun e w' => e = .returned (.bool (nodeB t)) /\ Below w.heap.size w w' := by
 have h0 := hh.kind
 have h1 := hh.name
 have h2 := hh.num
 have h3 := hh.kids
 replace hh := hid hh
 have tb : w.cell? ⟨2, 4, none⟩ = some (.int .i64 2) := hE.tab 4 (by decide)
 rw [hk] at h0
 by_cases hl : t.kids.length = 2
 case neg =>
   have hE9 : Hid (nodeB t = false) := by
     show _ = _
     unfold nodeB
     have : (t.kids.length == qav.getD t.kind.toNat 0) = false := by rw [hk, beq_eq_false_iff_ne]; exact hl
     rw [this]; simp
   have hl2 : ((t.kids.length : Int) != 2) = true := by rw [bne_iff_ne]; omega
   replace hk := hid hk
   clear hE hl
   go_enter Tryz.func122, Tryz.ntmps122
   go_wp2_with fail
   go_quiet (fail)
   all_goals go_wp2
   all_goals go_ret
   all_goals exact ⟨qae hE9.out.symm, qap (Below.refl _ _) _⟩
 have hN : nodeB t = qay t := by
   unfold nodeB
   have : (t.kids.length == qav.getD t.kind.toNat 0) = true := by rw [hk, beq_iff_eq]; exact hl
   rw [this, decide_eq_true (show 1 <= t.kind by omega), decide_eq_true (show t.kind <= 13 by omega)]; simp
 have hl2 : ((t.kids.length : Int) != 2) = false := by rw [Bool.eq_false_iff, Ne, bne_iff_ne]; omega
 clear hl
 have hF : nodeB t = (t.num == 0 && t.name.size == 0) := by
   rw [hN]; unfold qay; rw [if_neg (by omega), hk, if_neg (by decide), if_neg (by decide)]
 rw [<- qcj] at hF
 clear hE hN
 replace hk := hid hk
 replace hF := hid hF
 go_enter Tryz.func122, Tryz.ntmps122
 go_wp2_with fail
 go_quiet (fail)
 cases hn : (t.num == 0) with
 | false =>
   have hE9 : Hid (nodeB t = false) := by show _ = _; rw [hF.out, hn]; rfl
   go_wp2
   all_goals go_ret
   all_goals exact ⟨qae hE9.out.symm, qap (Below.refl _ _) _⟩
 | true =>
   have hE9 : Hid (nodeB t = (t.name.toList == [])) := by show _ = _; rw [hF.out, hn]; simp
   cases hs2 : (t.name.toList == []) with
   | false =>
     rw [hs2] at hE9
     go_wp2
     all_goals go_ret
     all_goals exact ⟨qae hE9.out.symm, qap (Below.refl _ _) _⟩
   | true =>
     rw [hs2] at hE9
     go_wp2
     all_goals go_ret
     all_goals exact ⟨qae hE9.out.symm, qap (Below.refl _ _) _⟩
theorem qrB (b o : Nat) (t : Go.Tm.T) (A : Option Addr) (c : Nat) (w : World) (hE : Env w) (hh : Hdr w anyB b o t A c) (hs : t.name.size <= 9223372036854775807) (hk : t.kind = 5) :
   Calls Tryz.prog 122 #[.pointer (some ⟨b, o, none⟩)] w fun e w' => e = .returned (.bool (nodeB t)) /\ Below w.heap.size w w' := by
 have h0 := hh.kind
 have h1 := hh.name
 have h2 := hh.num
 have h3 := hh.kids
 replace hh := hid hh
 have tb : w.cell? ⟨2, 5, none⟩ = some (.int .i64 2) := hE.tab 5 (by decide)
 rw [hk] at h0
 by_cases hl : t.kids.length = 2
 case neg =>
   have hE9 : Hid (nodeB t = false) := by
     show _ = _
     unfold nodeB
     have : (t.kids.length == qav.getD t.kind.toNat 0) = false := by rw [hk, beq_eq_false_iff_ne]; exact hl
     rw [this]; simp
   have hl2 : ((t.kids.length : Int) != 2) = true := by rw [bne_iff_ne]; omega
   replace hk := hid hk
   clear hE hl
   go_enter Tryz.func122, Tryz.ntmps122
   go_wp2_with fail
   go_quiet (fail)
   all_goals go_wp2
   all_goals go_ret
   all_goals exact ⟨qae hE9.out.symm, qap (Below.refl _ _) _⟩
 have hN : nodeB t = qay t := by
   unfold nodeB
   have : (t.kids.length == qav.getD t.kind.toNat 0) = true := by rw [hk, beq_iff_eq]; exact hl
   rw [this, decide_eq_true (show 1 <= t.kind by omega), decide_eq_true (show t.kind <= 13 by omega)]; simp
 have hl2 : ((t.kids.length : Int) != 2) = false := by rw [Bool.eq_false_iff, Ne, bne_iff_ne]; omega
 clear hl
 have hF : nodeB t = (t.num == 0 && nameB t.name && !isKey t.name.data.toList) := by
   rw [hN]; unfold qay; rw [if_neg (by omega), hk, if_pos (by decide)]
 have hkey : Hid (∀ n, Calls Tryz.prog 91 #[.string t.name] (w.drewN n) fun e w' => e = .returned (.bool (isKey t.name.data.toList)) /\ w.drewN n = w') := fun n =>
   qbN t.name (w.drewN n) (hE.later (qap (Below.refl _ _) n))
 clear hE hN
 replace hk := hid hk
 replace hF := hid hF
 go_enter Tryz.func122, Tryz.ntmps122
 go_wp2_with fail
 go_quiet (fail)
 cases hn : (t.num == 0) with
 | false =>
   have hE9 : Hid (nodeB t = false) := by show _ = _; rw [hF.out, hn]; rfl
   go_wp2
   all_goals go_ret
   all_goals exact ⟨qae hE9.out.symm, qap (Below.refl _ _) _⟩
 | true =>
   cases hm : nameB t.name with
   | false =>
     have hE9 : Hid (nodeB t = false) := by show _ = _; rw [hF.out, hm]; simp
     go_wp2_with fail
     refine (qbD t.name _ hs).mono ?_
     rw [hm]
     rintro e w' ⟨rfl, rfl⟩
     replace hm := hid hm
     go_wp2
     all_goals go_ret
     all_goals exact ⟨qae hE9.out.symm, qap (Below.refl _ _) _⟩
   | true =>
     have hE9 : Hid (nodeB t = !isKey t.name.data.toList) := by show _ = _; rw [hF.out, hm, hn]; simp
     go_wp2_with fail
     refine (qbD t.name _ hs).mono ?_
     rw [hm]
     rintro e w' ⟨rfl, rfl⟩
     replace hm := hid hm
     go_wp2_with fail
     refine (hkey.out _).mono ?_
     rintro e w' ⟨rfl, rfl⟩
     go_wp2
     all_goals go_ret
     all_goals exact ⟨qae hE9.out.symm, qap (Below.refl _ _) _⟩
theorem qrC (b o : Nat) (t : Go.Tm.T) (A : Option Addr) (c : Nat) (w : World) (hE : Env w) (hh : Hdr w anyB b o t A c) (_ : t.name.size <= 9223372036854775807) (hk : t.kind = 6) :
   Calls Tryz.prog 122 #[.pointer (some ⟨b, o, none⟩)] w fun e w' => e = .returned (.bool (nodeB t)) /\ Below w.heap.size w w' := by
 have h0 := hh.kind
 have h1 := hh.name
 have h2 := hh.num
 have h3 := hh.kids
 replace hh := hid hh
 have tb : w.cell? ⟨2, 6, none⟩ = some (.int .i64 3) := hE.tab 6 (by decide)
 rw [hk] at h0
 by_cases hl : t.kids.length = 3
 case neg =>
   have hE9 : Hid (nodeB t = false) := by
     show _ = _
     unfold nodeB
     have : (t.kids.length == qav.getD t.kind.toNat 0) = false := by rw [hk, beq_eq_false_iff_ne]; exact hl
     rw [this]; simp
   have hl2 : ((t.kids.length : Int) != 3) = true := by rw [bne_iff_ne]; omega
   replace hk := hid hk
   clear hE hl
   go_enter Tryz.func122, Tryz.ntmps122
   go_wp2_with fail
   go_quiet (fail)
   all_goals go_wp2
   all_goals go_ret
   all_goals exact ⟨qae hE9.out.symm, qap (Below.refl _ _) _⟩
 have hN : nodeB t = qay t := by
   unfold nodeB
   have : (t.kids.length == qav.getD t.kind.toNat 0) = true := by rw [hk, beq_iff_eq]; exact hl
   rw [this, decide_eq_true (show 1 <= t.kind by omega), decide_eq_true (show t.kind <= 13 by omega)]; simp
 have hl2 : ((t.kids.length : Int) != 3) = false := by rw [Bool.eq_false_iff, Ne, bne_iff_ne]; omega
 clear hl
 have hF : nodeB t = (t.num == 0 && t.name.size == 0) := by
   rw [hN]; unfold qay; rw [if_neg (by omega), hk, if_neg (by decide), if_neg (by decide)]
 rw [<- qcj] at hF
 clear hE hN
 replace hk := hid hk
 replace hF := hid hF
 go_enter Tryz.func122, Tryz.ntmps122
 go_wp2_with fail
 go_quiet (fail)
 cases hn : (t.num == 0) with
 | false =>
   have hE9 : Hid (nodeB t = false) := by show _ = _; rw [hF.out, hn]; rfl
   go_wp2
   all_goals go_ret
   all_goals exact ⟨qae hE9.out.symm, qap (Below.refl _ _) _⟩
 | true =>
   have hE9 : Hid (nodeB t = (t.name.toList == [])) := by show _ = _; rw [hF.out, hn]; simp
   cases hs2 : (t.name.toList == []) with
   | false =>
     rw [hs2] at hE9
     go_wp2
     all_goals go_ret
     all_goals exact ⟨qae hE9.out.symm, qap (Below.refl _ _) _⟩
   | true =>
     rw [hs2] at hE9
     go_wp2
     all_goals go_ret
     all_goals exact ⟨qae hE9.out.symm, qap (Below.refl _ _) _⟩
theorem qrD (b o : Nat) (t : Go.Tm.T) (A : Option Addr) (c : Nat) (w : World) (hE : Env w) (hh : Hdr w anyB b o t A c) (_ : t.name.size <= 9223372036854775807) (hk : t.kind = 7) :
   Calls Tryz.prog 122 #[.pointer (some ⟨b, o, none⟩)] w fun e w' => e = .returned (.bool (nodeB t)) /\ Below w.heap.size w w' := by
 have h0 := hh.kind
 have h1 := hh.name
 have h2 := hh.num
 have h3 := hh.kids
 replace hh := hid hh
 have tb : w.cell? ⟨2, 7, none⟩ = some (.int .i64 2) := hE.tab 7 (by decide)
 rw [hk] at h0
 by_cases hl : t.kids.length = 2
 case neg =>
   have hE9 : Hid (nodeB t = false) := by
     show _ = _
     unfold nodeB
     have : (t.kids.length == qav.getD t.kind.toNat 0) = false := by rw [hk, beq_eq_false_iff_ne]; exact hl
     rw [this]; simp
   have hl2 : ((t.kids.length : Int) != 2) = true := by rw [bne_iff_ne]; omega
   replace hk := hid hk
   clear hE hl
   go_enter Tryz.func122, Tryz.ntmps122
   go_wp2_with fail
   go_quiet (fail)
   all_goals go_wp2
   all_goals go_ret
   all_goals exact ⟨qae hE9.out.symm, qap (Below.refl _ _) _⟩
 have hN : nodeB t = qay t := by
   unfold nodeB
   have : (t.kids.length == qav.getD t.kind.toNat 0) = true := by rw [hk, beq_iff_eq]; exact hl
   rw [this, decide_eq_true (show 1 <= t.kind by omega), decide_eq_true (show t.kind <= 13 by omega)]; simp
 have hl2 : ((t.kids.length : Int) != 2) = false := by rw [Bool.eq_false_iff, Ne, bne_iff_ne]; omega
 clear hl
 have hF : nodeB t = (t.num == 0 && t.name.size == 0) := by
   rw [hN]; unfold qay; rw [if_neg (by omega), hk, if_neg (by decide), if_neg (by decide)]
 rw [<- qcj] at hF
 clear hE hN
 replace hk := hid hk
 replace hF := hid hF
 go_enter Tryz.func122, Tryz.ntmps122
 go_wp2_with fail
 go_quiet (fail)
 cases hn : (t.num == 0) with
 | false =>
   have hE9 : Hid (nodeB t = false) := by show _ = _; rw [hF.out, hn]; rfl
   go_wp2
   all_goals go_ret
   all_goals exact ⟨qae hE9.out.symm, qap (Below.refl _ _) _⟩
 | true =>
   have hE9 : Hid (nodeB t = (t.name.toList == [])) := by show _ = _; rw [hF.out, hn]; simp
   cases hs2 : (t.name.toList == []) with
   | false =>
     rw [hs2] at hE9
     go_wp2
     all_goals go_ret
     all_goals exact ⟨qae hE9.out.symm, qap (Below.refl _ _) _⟩
   | true =>
     rw [hs2] at hE9
     go_wp2
     all_goals go_ret
     all_goals exact ⟨qae hE9.out.symm, qap (Below.refl _ _) _⟩
theorem qrE (b o : Nat) (t : Go.Tm.T) (A : Option Addr) (c : Nat) (w : World) (hE : Env w) (hh : Hdr w anyB b o t A c) (_ : t.name.size <= 9223372036854775807) (hk : t.kind = 8) :
   Calls Tryz.prog 122 #[.pointer (some ⟨b, o, none⟩)] w fun e w' => e = .returned (.bool (nodeB t)) /\ Below w.heap.size w w' := by
 have h0 := hh.kind
 have h1 := hh.name
 have h2 := hh.num
 have h3 := hh.kids
 replace hh := hid hh
 have tb : w.cell? ⟨2, 8, none⟩ = some (.int .i64 1) := hE.tab 8 (by decide)
 rw [hk] at h0
 by_cases hl : t.kids.length = 1
 case neg =>
   have hE9 : Hid (nodeB t = false) := by
     show _ = _
     unfold nodeB
     have : (t.kids.length == qav.getD t.kind.toNat 0) = false := by rw [hk, beq_eq_false_iff_ne]; exact hl
     rw [this]; simp
   have hl2 : ((t.kids.length : Int) != 1) = true := by rw [bne_iff_ne]; omega
   replace hk := hid hk
   clear hE hl
   go_enter Tryz.func122, Tryz.ntmps122
   go_wp2_with fail
   go_quiet (fail)
   all_goals go_wp2
   all_goals go_ret
   all_goals exact ⟨qae hE9.out.symm, qap (Below.refl _ _) _⟩
 have hN : nodeB t = qay t := by
   unfold nodeB
   have : (t.kids.length == qav.getD t.kind.toNat 0) = true := by rw [hk, beq_iff_eq]; exact hl
   rw [this, decide_eq_true (show 1 <= t.kind by omega), decide_eq_true (show t.kind <= 13 by omega)]; simp
 have hl2 : ((t.kids.length : Int) != 1) = false := by rw [Bool.eq_false_iff, Ne, bne_iff_ne]; omega
 clear hl
 have hF : nodeB t = (t.num == 0 && t.name.size == 0) := by
   rw [hN]; unfold qay; rw [if_neg (by omega), hk, if_neg (by decide), if_neg (by decide)]
 rw [<- qcj] at hF
 clear hE hN
 replace hk := hid hk
 replace hF := hid hF
 go_enter Tryz.func122, Tryz.ntmps122
 go_wp2_with fail
 go_quiet (fail)
 cases hn : (t.num == 0) with
 | false =>
   have hE9 : Hid (nodeB t = false) := by show _ = _; rw [hF.out, hn]; rfl
   go_wp2
   all_goals go_ret
   all_goals exact ⟨qae hE9.out.symm, qap (Below.refl _ _) _⟩
 | true =>
   have hE9 : Hid (nodeB t = (t.name.toList == [])) := by show _ = _; rw [hF.out, hn]; simp
   cases hs2 : (t.name.toList == []) with
   | false =>
     rw [hs2] at hE9
     go_wp2
     all_goals go_ret
     all_goals exact ⟨qae hE9.out.symm, qap (Below.refl _ _) _⟩
   | true =>
     rw [hs2] at hE9
     go_wp2
     all_goals go_ret
     all_goals exact ⟨qae hE9.out.symm, qap (Below.refl _ _) _⟩
theorem qrF (b o : Nat) (t : Go.Tm.T) (A : Option Addr) (c : Nat) (w : World) (hE : Env w) (hh : Hdr w anyB b o t A c) (hs : t.name.size <= 9223372036854775807) (hk : t.kind = 9) :
   Calls Tryz.prog 122 #[.pointer (some ⟨b, o, none⟩)] w fun e w' => e = .returned (.bool (nodeB t)) /\ Below w.heap.size w w' := by
 have h0 := hh.kind
 have h1 := hh.name
 have h2 := hh.num
 have h3 := hh.kids
 replace hh := hid hh
 have tb : w.cell? ⟨2, 9, none⟩ = some (.int .i64 2) := hE.tab 9 (by decide)
 rw [hk] at h0
 by_cases hl : t.kids.length = 2
 case neg =>
   have hE9 : Hid (nodeB t = false) := by
     show _ = _
     unfold nodeB
     have : (t.kids.length == qav.getD t.kind.toNat 0) = false := by rw [hk, beq_eq_false_iff_ne]; exact hl
     rw [this]; simp
   have hl2 : ((t.kids.length : Int) != 2) = true := by rw [bne_iff_ne]; omega
   replace hk := hid hk
   clear hE hl
   go_enter Tryz.func122, Tryz.ntmps122
   go_wp2_with fail
   go_quiet (fail)
   all_goals go_wp2
   all_goals go_ret
   all_goals exact ⟨qae hE9.out.symm, qap (Below.refl _ _) _⟩
 have hN : nodeB t = qay t := by
   unfold nodeB
   have : (t.kids.length == qav.getD t.kind.toNat 0) = true := by rw [hk, beq_iff_eq]; exact hl
   rw [this, decide_eq_true (show 1 <= t.kind by omega), decide_eq_true (show t.kind <= 13 by omega)]; simp
 have hl2 : ((t.kids.length : Int) != 2) = false := by rw [Bool.eq_false_iff, Ne, bne_iff_ne]; omega
 clear hl
 have hF : nodeB t = (t.num == 0 && nameB t.name && !isKey t.name.data.toList) := by
   rw [hN]; unfold qay; rw [if_neg (by omega), hk, if_pos (by decide)]
 have hkey : Hid (∀ n, Calls Tryz.prog 91 #[.string t.name] (w.drewN n) fun e w' => e = .returned (.bool (isKey t.name.data.toList)) /\ w.drewN n = w') := fun n =>
   qbN t.name (w.drewN n) (hE.later (qap (Below.refl _ _) n))
 clear hE hN
 replace hk := hid hk
 replace hF := hid hF
 go_enter Tryz.func122, Tryz.ntmps122
 go_wp2_with fail
 go_quiet (fail)
 cases hn : (t.num == 0) with
 | false =>
   have hE9 : Hid (nodeB t = false) := by show _ = _; rw [hF.out, hn]; rfl
   go_wp2
   all_goals go_ret
   all_goals exact ⟨qae hE9.out.symm, qap (Below.refl _ _) _⟩
 | true =>
   cases hm : nameB t.name with
   | false =>
     have hE9 : Hid (nodeB t = false) := by show _ = _; rw [hF.out, hm]; simp
     go_wp2_with fail
     refine (qbD t.name _ hs).mono ?_
     rw [hm]
     rintro e w' ⟨rfl, rfl⟩
     replace hm := hid hm
     go_wp2
     all_goals go_ret
     all_goals exact ⟨qae hE9.out.symm, qap (Below.refl _ _) _⟩
   | true =>
     have hE9 : Hid (nodeB t = !isKey t.name.data.toList) := by show _ = _; rw [hF.out, hm, hn]; simp
     go_wp2_with fail
     refine (qbD t.name _ hs).mono ?_
     rw [hm]
     rintro e w' ⟨rfl, rfl⟩
     replace hm := hid hm
     go_wp2_with fail
     refine (hkey.out _).mono ?_
     rintro e w' ⟨rfl, rfl⟩
     go_wp2
     all_goals go_ret
     all_goals exact ⟨qae hE9.out.symm, qap (Below.refl _ _) _⟩
theorem qpP (b o : Nat) (t : Go.Tm.T) (A : Option Addr) (c : Nat) (w : World) (hE : Env w) (hh : Hdr w anyB b o t A c) (_ : t.name.size <= 9223372036854775807) (hk : t.kind = 10) :
   Calls Tryz.prog 122 #[.pointer (some ⟨b, o, none⟩)] w fun e w' => e = .returned (.bool (nodeB t)) /\ Below w.heap.size w w' := by
 have h0 := hh.kind
 have h1 := hh.name
 have h2 := hh.num
 have h3 := hh.kids
 replace hh := hid hh
 have tb : w.cell? ⟨2, 10, none⟩ = some (.int .i64 1) := hE.tab 10 (by decide)
 rw [hk] at h0
 by_cases hl : t.kids.length = 1
 case neg =>
   have hE9 : Hid (nodeB t = false) := by
     show _ = _
     unfold nodeB
     have : (t.kids.length == qav.getD t.kind.toNat 0) = false := by rw [hk, beq_eq_false_iff_ne]; exact hl
     rw [this]; simp
   have hl2 : ((t.kids.length : Int) != 1) = true := by rw [bne_iff_ne]; omega
   replace hk := hid hk
   clear hE hl
   go_enter Tryz.func122, Tryz.ntmps122
   go_wp2_with fail
   go_quiet (fail)
   all_goals go_wp2
   all_goals go_ret
   all_goals exact ⟨qae hE9.out.symm, qap (Below.refl _ _) _⟩
 have hN : nodeB t = qay t := by
   unfold nodeB
   have : (t.kids.length == qav.getD t.kind.toNat 0) = true := by rw [hk, beq_iff_eq]; exact hl
   rw [this, decide_eq_true (show 1 <= t.kind by omega), decide_eq_true (show t.kind <= 13 by omega)]; simp
 have hl2 : ((t.kids.length : Int) != 1) = false := by rw [Bool.eq_false_iff, Ne, bne_iff_ne]; omega
 clear hl
 have hF : nodeB t = (t.num == 0 && t.name.size == 0) := by
   rw [hN]; unfold qay; rw [if_neg (by omega), hk, if_neg (by decide), if_neg (by decide)]
 rw [<- qcj] at hF
 clear hE hN
 replace hk := hid hk
 replace hF := hid hF
 go_enter Tryz.func122, Tryz.ntmps122
 go_wp2_with fail
 go_quiet (fail)
 cases hn : (t.num == 0) with
 | false =>
   have hE9 : Hid (nodeB t = false) := by show _ = _; rw [hF.out, hn]; rfl
   go_wp2
   all_goals go_ret
   all_goals exact ⟨qae hE9.out.symm, qap (Below.refl _ _) _⟩
 | true =>
   have hE9 : Hid (nodeB t = (t.name.toList == [])) := by show _ = _; rw [hF.out, hn]; simp
   cases hs2 : (t.name.toList == []) with
   | false =>
     rw [hs2] at hE9
     go_wp2
     all_goals go_ret
     all_goals exact ⟨qae hE9.out.symm, qap (Below.refl _ _) _⟩
   | true =>
     rw [hs2] at hE9
     go_wp2
     all_goals go_ret
     all_goals exact ⟨qae hE9.out.symm, qap (Below.refl _ _) _⟩
theorem qpQ (b o : Nat) (t : Go.Tm.T) (A : Option Addr) (c : Nat) (w : World) (hE : Env w) (hh : Hdr w anyB b o t A c) (_ : t.name.size <= 9223372036854775807) (hk : t.kind = 11) :
   Calls Tryz.prog 122 #[.pointer (some ⟨b, o, none⟩)] w fun e w' => e = .returned (.bool (nodeB t)) /\ Below w.heap.size w w' := by
 have h0 := hh.kind
 have h1 := hh.name
 have h2 := hh.num
 have h3 := hh.kids
 replace hh := hid hh
 have tb : w.cell? ⟨2, 11, none⟩ = some (.int .i64 2) := hE.tab 11 (by decide)
 rw [hk] at h0
 by_cases hl : t.kids.length = 2
 case neg =>
   have hE9 : Hid (nodeB t = false) := by
     show _ = _
     unfold nodeB
     have : (t.kids.length == qav.getD t.kind.toNat 0) = false := by rw [hk, beq_eq_false_iff_ne]; exact hl
     rw [this]; simp
   have hl2 : ((t.kids.length : Int) != 2) = true := by rw [bne_iff_ne]; omega
   replace hk := hid hk
   clear hE hl
   go_enter Tryz.func122, Tryz.ntmps122
   go_wp2_with fail
   go_quiet (fail)
   all_goals go_wp2
   all_goals go_ret
   all_goals exact ⟨qae hE9.out.symm, qap (Below.refl _ _) _⟩
 have hN : nodeB t = qay t := by
   unfold nodeB
   have : (t.kids.length == qav.getD t.kind.toNat 0) = true := by rw [hk, beq_iff_eq]; exact hl
   rw [this, decide_eq_true (show 1 <= t.kind by omega), decide_eq_true (show t.kind <= 13 by omega)]; simp
 have hl2 : ((t.kids.length : Int) != 2) = false := by rw [Bool.eq_false_iff, Ne, bne_iff_ne]; omega
 clear hl
 have hF : nodeB t = (t.num == 0 && t.name.size == 0) := by
   rw [hN]; unfold qay; rw [if_neg (by omega), hk, if_neg (by decide), if_neg (by decide)]
 rw [<- qcj] at hF
 clear hE hN
 replace hk := hid hk
 replace hF := hid hF
 go_enter Tryz.func122, Tryz.ntmps122
 go_wp2_with fail
 go_quiet (fail)
 cases hn : (t.num == 0) with
 | false =>
   have hE9 : Hid (nodeB t = false) := by show _ = _; rw [hF.out, hn]; rfl
   go_wp2
   all_goals go_ret
   all_goals exact ⟨qae hE9.out.symm, qap (Below.refl _ _) _⟩
 | true =>
   have hE9 : Hid (nodeB t = (t.name.toList == [])) := by show _ = _; rw [hF.out, hn]; simp
   cases hs2 : (t.name.toList == []) with
   | false =>
     rw [hs2] at hE9
     go_wp2
     all_goals go_ret
     all_goals exact ⟨qae hE9.out.symm, qap (Below.refl _ _) _⟩
   | true =>
     rw [hs2] at hE9
     go_wp2
     all_goals go_ret
     all_goals exact ⟨qae hE9.out.symm, qap (Below.refl _ _) _⟩
theorem qpR (b o : Nat) (t : Go.Tm.T) (A : Option Addr) (c : Nat) (w : World) (hE : Env w) (hh : Hdr w anyB b o t A c) (_ : t.name.size <= 9223372036854775807) (hk : t.kind = 12) :
   Calls Tryz.prog 122 #[.pointer (some ⟨b, o, none⟩)] w fun e w' => e = .returned (.bool (nodeB t)) /\ Below w.heap.size w w' := by
 have h0 := hh.kind
 have h1 := hh.name
 have h2 := hh.num
 have h3 := hh.kids
 replace hh := hid hh
 have tb : w.cell? ⟨2, 12, none⟩ = some (.int .i64 2) := hE.tab 12 (by decide)
 rw [hk] at h0
 by_cases hl : t.kids.length = 2
 case neg =>
   have hE9 : Hid (nodeB t = false) := by
     show _ = _
     unfold nodeB
     have : (t.kids.length == qav.getD t.kind.toNat 0) = false := by rw [hk, beq_eq_false_iff_ne]; exact hl
     rw [this]; simp
   have hl2 : ((t.kids.length : Int) != 2) = true := by rw [bne_iff_ne]; omega
   replace hk := hid hk
   clear hE hl
   go_enter Tryz.func122, Tryz.ntmps122
   go_wp2_with fail
   go_quiet (fail)
   all_goals go_wp2
   all_goals go_ret
   all_goals exact ⟨qae hE9.out.symm, qap (Below.refl _ _) _⟩
 have hN : nodeB t = qay t := by
   unfold nodeB
   have : (t.kids.length == qav.getD t.kind.toNat 0) = true := by rw [hk, beq_iff_eq]; exact hl
   rw [this, decide_eq_true (show 1 <= t.kind by omega), decide_eq_true (show t.kind <= 13 by omega)]; simp
 have hl2 : ((t.kids.length : Int) != 2) = false := by rw [Bool.eq_false_iff, Ne, bne_iff_ne]; omega
 clear hl
 have hF : nodeB t = (t.num == 0 && opB t.name.data.toList) := by
   rw [hN]; unfold qay; rw [if_neg (by omega), hk, if_neg (by decide), if_pos rfl]
 clear hE hN
 replace hk := hid hk
 replace hF := hid hF
 go_enter Tryz.func122, Tryz.ntmps122
 go_wp2_with fail
 go_quiet (fail)
 cases hn : (t.num == 0) with
 | false =>
   have hE9 : Hid (nodeB t = false) := by show _ = _; rw [hF.out, hn]; rfl
   go_wp2
   all_goals go_ret
   all_goals exact ⟨qae hE9.out.symm, qap (Below.refl _ _) _⟩
 | true =>
   have hE9 : Hid (nodeB t = opB t.name.data.toList) := by show _ = _; rw [hF.out, hn]; simp
   go_wp2_with fail
   refine (qdz t.name _).mono ?_
   rintro e w' ⟨rfl, rfl⟩
   go_wp2
   all_goals go_ret
   all_goals exact ⟨qae hE9.out.symm, qap (Below.refl _ _) _⟩
theorem qpS (b o : Nat) (t : Go.Tm.T) (A : Option Addr) (c : Nat) (w : World) (hE : Env w) (hh : Hdr w anyB b o t A c) (_ : t.name.size <= 9223372036854775807) (hk : t.kind = 13) :
   Calls Tryz.prog 122 #[.pointer (some ⟨b, o, none⟩)] w fun e w' => e = .returned (.bool (nodeB t)) /\ Below w.heap.size w w' := by
 have h0 := hh.kind
 have h1 := hh.name
 have h2 := hh.num
 have h3 := hh.kids
 replace hh := hid hh
 have tb : w.cell? ⟨2, 13, none⟩ = some (.int .i64 2) := hE.tab 13 (by decide)
 rw [hk] at h0
 by_cases hl : t.kids.length = 2
 case neg =>
   have hE9 : Hid (nodeB t = false) := by
     show _ = _
     unfold nodeB
     have : (t.kids.length == qav.getD t.kind.toNat 0) = false := by rw [hk, beq_eq_false_iff_ne]; exact hl
     rw [this]; simp
   have hl2 : ((t.kids.length : Int) != 2) = true := by rw [bne_iff_ne]; omega
   replace hk := hid hk
   clear hE hl
   go_enter Tryz.func122, Tryz.ntmps122
   go_wp2_with fail
   go_quiet (fail)
   all_goals go_wp2
   all_goals go_ret
   all_goals exact ⟨qae hE9.out.symm, qap (Below.refl _ _) _⟩
 have hN : nodeB t = qay t := by
   unfold nodeB
   have : (t.kids.length == qav.getD t.kind.toNat 0) = true := by rw [hk, beq_iff_eq]; exact hl
   rw [this, decide_eq_true (show 1 <= t.kind by omega), decide_eq_true (show t.kind <= 13 by omega)]; simp
 have hl2 : ((t.kids.length : Int) != 2) = false := by rw [Bool.eq_false_iff, Ne, bne_iff_ne]; omega
 clear hl
 have hF : nodeB t = (t.num == 0 && t.name.size == 0) := by
   rw [hN]; unfold qay; rw [if_neg (by omega), hk, if_neg (by decide), if_neg (by decide)]
 rw [<- qcj] at hF
 clear hE hN
 replace hk := hid hk
 replace hF := hid hF
 go_enter Tryz.func122, Tryz.ntmps122
 go_wp2_with fail
 go_quiet (fail)
 cases hn : (t.num == 0) with
 | false =>
   have hE9 : Hid (nodeB t = false) := by show _ = _; rw [hF.out, hn]; rfl
   go_wp2
   all_goals go_ret
   all_goals exact ⟨qae hE9.out.symm, qap (Below.refl _ _) _⟩
 | true =>
   have hE9 : Hid (nodeB t = (t.name.toList == [])) := by show _ = _; rw [hF.out, hn]; simp
   cases hs2 : (t.name.toList == []) with
   | false =>
     rw [hs2] at hE9
     go_wp2
     all_goals go_ret
     all_goals exact ⟨qae hE9.out.symm, qap (Below.refl _ _) _⟩
   | true =>
     rw [hs2] at hE9
     go_wp2
     all_goals go_ret
     all_goals exact ⟨qae hE9.out.symm, qap (Below.refl _ _) _⟩
theorem qmD (b o : Nat) (t : Go.Tm.T) (w : World) (hE : Env w) (hx : qan w anyB b o t) :
   Calls Tryz.prog 122 #[.pointer (some ⟨b, o, none⟩)] w fun e w' => e = .returned (.bool (nodeB t)) /\ Below w.heap.size w w' := by
 obtain ⟨A, c, hh⟩ := hx.hdr
 by_cases h1 : t.kind < 1
 . exact qnR b o t A c w hE hh hh.nsz h1
 by_cases h2 : 13 < t.kind
 . exact qmC b o t A c w hE hh hh.nsz h2
 obtain h | h | h | h | h | h | h | h | h | h | h | h | h : t.kind = 1 ∨ t.kind = 2 ∨ t.kind = 3 ∨ t.kind = 4 ∨ t.kind = 5 ∨ t.kind = 6 ∨ t.kind = 7 ∨ t.kind = 8 ∨ t.kind = 9 ∨ t.kind = 10 ∨ t.kind = 11 ∨ t.kind = 12 ∨ t.kind = 13 := by omega
 . exact qrx b o t A c w hE hh hh.nsz h
 . exact qry b o t A c w hE hh hh.nsz h
 . exact qrz b o t A c w hE hh hh.nsz h
 . exact qrA b o t A c w hE hh hh.nsz h
 . exact qrB b o t A c w hE hh hh.nsz h
 . exact qrC b o t A c w hE hh hh.nsz h
 . exact qrD b o t A c w hE hh hh.nsz h
 . exact qrE b o t A c w hE hh hh.nsz h
 . exact qrF b o t A c w hE hh hh.nsz h
 . exact qpP b o t A c w hE hh hh.nsz h
 . exact qpQ b o t A c w hE hh hh.nsz h
 . exact qpR b o t A c w hE hh hh.nsz h
 . exact qpS b o t A c w hE hh hh.nsz h
end Go.Proofs.YtjnfhebbphdchaaGreatDoor
