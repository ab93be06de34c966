/-
  The walks of lex.letter, lex.digit, lex.letterOrDigit, lex.inLine, lex.run, lat.letter, lat.digit, lat.Name: what each returns; nothing is written. No condition but the arguments' ranges.
  Words for the world of the word functions: the library's and the package's variables that are read; tokens as values. No condition.
-/
import Derived.WalkKit
import Derived.Lib.Hide
import Derived.Test.YtjnfhebbphdchaaGreatDoorProg
import Derived.Test.YtjnfhebbphdchaaGreatDoorLxMath
import Derived.Lib.LaidTab
import Derived.Lib.ItoaNum
import Derived.Deep.OwnRows
import Derived.Below
import Derived.Sort.Grow
import Derived.Deep.QuietTactic
set_option maxHeartbeats 400000
open Go.Lib (hid)
namespace Go.Proofs.YtjnfhebbphdchaaGreatDoor.X
open Go.RowKit Go.Lx
theorem qae {a b : Bool} (h : a = b) : Ending.returned (.bool a) = .returned (.bool b) := by rw [h]
theorem qeh {k : IntKind} {a b : Int} (h : a = b) : Ending.returned (.int k a) = .returned (.int k b) := by rw [h]
def qcu (c : Int) : Bool := decide (97 <= c /\ c <= 122 ∨ 65 <= c /\ c <= 90)
def qds (c : Int) : Bool := decide (48 <= c /\ c <= 57)
theorem qdQ (c : UInt8) : qcu (c.toNat : Int) = qas c := by
 unfold qcu qas
 rw [decide_eq_decide]; omega
theorem qep (c : UInt8) : qds (c.toNat : Int) = qat c := by
 unfold qds qat
 rw [decide_eq_decide]; omega
theorem qmr (c : Int) (w : World) : Calls Tryz.prog 88 #[.int .u8 c] w fun e w' => e = .returned (.bool (qcu c)) /\ w = w' := by
 by_cases h1 : 97 <= c <;> by_cases h2 : c <= 122 <;> by_cases h3 : 65 <= c <;> by_cases h4 : c <= 90
 all_goals first
   | omega
   | (go_enter Tryz.func88, Tryz.ntmps88
      go_wp2
      go_ret
      exact ⟨qae (by unfold qcu; simp; omega), rfl⟩)
theorem qnC (c : Int) (w : World) : Calls Tryz.prog 90 #[.int .u8 c] w fun e w' => e = .returned (.bool (qds c)) /\ w = w' := by
 by_cases h1 : 48 <= c <;> by_cases h2 : c <= 57
 all_goals first
   | omega
   | (go_enter Tryz.func90, Tryz.ntmps90
      go_wp2
      go_ret
      exact ⟨qae (by unfold qds; simp; omega), rfl⟩)
theorem qfe (c : UInt8) (w : World) : Calls Tryz.prog 88 #[.int .u8 (c.toNat : Int)] w fun e w' => e = .returned (.bool (qas c)) /\ w = w' :=
 qdQ c ▸ qmr _ w
theorem qgt (c : UInt8) (w : World) : Calls Tryz.prog 90 #[.int .u8 (c.toNat : Int)] w fun e w' => e = .returned (.bool (qat c)) /\ w = w' :=
 qep c ▸ qnC _ w
theorem qcN (c : Int) (w : World) : Calls Tryz.prog 128 #[.int .u8 c] w fun e w' => e = .returned (.bool (qcu c)) /\ w = w' := by
 by_cases h1 : 97 <= c <;> by_cases h2 : c <= 122 <;> by_cases h3 : 65 <= c <;> by_cases h4 : c <= 90
 all_goals first
   | omega
   | (go_enter Tryz.func128, Tryz.ntmps128
      go_wp2
      go_ret
      exact ⟨qae (by unfold qcu; simp; omega), rfl⟩)
theorem qdb (c : Int) (w : World) : Calls Tryz.prog 129 #[.int .u8 c] w fun e w' => e = .returned (.bool (qds c)) /\ w = w' := by
 by_cases h1 : 48 <= c <;> by_cases h2 : c <= 57
 all_goals first
   | omega
   | (go_enter Tryz.func129, Tryz.ntmps129
      go_wp2
      go_ret
      exact ⟨qae (by unfold qds; simp; omega), rfl⟩)
theorem qbJ (c : UInt8) (w : World) : Calls Tryz.prog 128 #[.int .u8 (c.toNat : Int)] w fun e w' => e = .returned (.bool (qas c)) /\ w = w' :=
 qdQ c ▸ qcN _ w
theorem qdc (c : UInt8) (w : World) : Calls Tryz.prog 129 #[.int .u8 (c.toNat : Int)] w fun e w' => e = .returned (.bool (qat c)) /\ w = w' :=
 qep c ▸ qdb _ w
theorem qms (c : UInt8) (w : World) : Calls Tryz.prog 85 #[.int .u8 (c.toNat : Int)] w fun e w' => e = .returned (.bool (inLine c)) /\ w = w' := by
 go_enter Tryz.func85, Tryz.ntmps85
 go_wp2
 go_ret
 refine ⟨qae ?_, rfl⟩
 unfold inLine
 rw [Bool.eq_iff_iff]
 simp
 omega
theorem qnD (c : UInt8) (w : World) : Calls Tryz.prog 89 #[.int .u8 (c.toNat : Int)] w fun e w' => e = .returned (.bool (qaA c)) /\ w = w' := by
 cases h : qas c with
 | true =>
   have hE : Hid (qaA c = true) := by
     show qaA c = true
     unfold qaA; rw [h]; rfl
   have k := hid (qfe c w)
   rw [h] at k
   clear h
   go_enter Tryz.func89, Tryz.ntmps89
   go_wp2_with (go_at_call 88; refine k.out.mono ?_; rintro e w' ⟨rfl, rfl⟩)
   go_ret
   exact ⟨qae hE.out.symm, rfl⟩
 | false =>
   have hE : Hid (qaA c = qat c) := by
     show qaA c = qat c
     unfold qaA; rw [h]; rfl
   have k := hid (qfe c w)
   rw [h] at k
   clear h
   go_enter Tryz.func89, Tryz.ntmps89
   go_wp2_with (first | (go_at_call 88; refine k.out.mono ?_; rintro e w' ⟨rfl, rfl⟩) | (go_at_call 90; refine (qgt c _).mono ?_; rintro e w' ⟨rfl, rfl⟩))
   go_ret
   exact ⟨qae hE.out.symm, rfl⟩
def qaT (s : ByteArray) (k : Nat) : UInt8 := s.data.toList.getD k 0
theorem qcn (s : ByteArray) (k : Nat) (h : k < s.size) : s[k] = qaT s k := by
 have h' : k < s.data.toList.length := by simpa using h
 unfold qaT
 rw [List.getD_eq_getElem?_getD, List.getElem?_eq_getElem h']
 rfl
theorem qnE {f : UInt8 -> Bool} : ∀ (l : List UInt8) (k : Nat), k <= l.length -> (∀ j, j < k -> f (l.getD j 0) = true) -> (k < l.length -> f (l.getD k 0) = false) -> runL f l = k
 | [], k, hk, _, _ => by simp at hk; subst hk; rfl
 | c :: l, 0, _, _, h => by
   have := h (by simp)
   rw [List.getD_cons_zero] at this
   rw [runL, if_neg (by rw [this]; simp)]
 | c :: l, k + 1, hk, h1, h2 => by
   have e0 := h1 0 (by omega)
   rw [List.getD_cons_zero] at e0
   have := qnE l k (by simp at hk; omega) (fun j hj => by have := h1 (j + 1) (by omega); rwa [List.getD_cons_succ] at this) (fun h => by have := h2 (by simp; omega); rwa [List.getD_cons_succ] at this)
   rw [runL, if_pos e0, this]
theorem qhG {f : UInt8 -> Bool} (s : ByteArray) (k : Nat) (hk : k <= s.size) (h1 : ∀ j, j < k -> f (qaT s j) = true) (h2 : k < s.size -> f (qaT s k) = false) : runL f s.data.toList = k :=
 qnE _ k (by simpa using hk) h1 (fun h => h2 (by simpa using h))
theorem qpK (s : ByteArray) (w : World) (hs : s.size <= 9223372036854775807) : Calls Tryz.prog 84 #[.string s, .func (.func 85) #[] #[]] w fun e w' => e = .returned (.int .i64 (runL inLine s.data.toList : Nat)) /\ w = w' := by
 go_enter Tryz.func84, Tryz.ntmps84
 go_wp2
 go_loop [8] (fun i => ∃ k : Nat, k <= s.size /\ i = .int .i64 k /\ Hid (∀ j, j < k -> inLine (qaT s j) = true)) (fun i => s.size - (intOf i).toNat)
 case atStart => exact ⟨0, Nat.zero_le _, rfl, fun j hj => by omega⟩
 case round =>
   obtain ⟨k, hk, rfl, hok⟩ := hrel
   by_cases hlt : k < s.size
   . have hb := hid (qcn s k hlt)
     have ka := hid (qms s[k] w)
     cases hf : inLine s[k] with
     | true =>
       have g3 : Hid (∀ j, j < k + 1 -> inLine (qaT s j) = true) := fun j hj => by
         by_cases e : j < k
         . exact hok.out j e
         . obtain rfl : j = k := by omega
           rw [<- hb.out]; exact hf
       rw [hf] at ka
       clear hf
       go_wp2_with (go_at_call 85; refine ka.out.mono ?_; rintro e w' ⟨rfl, rfl⟩)
       go_round
       case rel => exact ⟨k + 1, by omega, by go_num, g3⟩
       case measure => simp [intOf]; omega
     | false =>
       have g3 : Hid (runL inLine s.data.toList = k) := qhG s k hk hok.out fun _ => by rw [<- hb.out]; exact hf
       rw [hf] at ka
       clear hf
       go_wp2_with (go_at_call 85; refine ka.out.mono ?_; rintro e w' ⟨rfl, rfl⟩)
       go_ret
       exact ⟨qeh (by rw [g3.out]), rfl⟩
   . have g3 : Hid (runL inLine s.data.toList = s.size) := qhG s s.size (Nat.le_refl _) (fun j hj => hok.out j (by omega)) (fun h => absurd h (by omega))
     go_wp2
     go_ret
     exact ⟨qeh (by rw [g3.out]), rfl⟩
theorem qnF (s : ByteArray) (w : World) (hs : s.size <= 9223372036854775807) : Calls Tryz.prog 84 #[.string s, .func (.func 89) #[] #[]] w fun e w' => e = .returned (.int .i64 (runL qaA s.data.toList : Nat)) /\ w = w' := by
 go_enter Tryz.func84, Tryz.ntmps84
 go_wp2
 go_loop [8] (fun i => ∃ k : Nat, k <= s.size /\ i = .int .i64 k /\ Hid (∀ j, j < k -> qaA (qaT s j) = true)) (fun i => s.size - (intOf i).toNat)
 case atStart => exact ⟨0, Nat.zero_le _, rfl, fun j hj => by omega⟩
 case round =>
   obtain ⟨k, hk, rfl, hok⟩ := hrel
   by_cases hlt : k < s.size
   . have hb := hid (qcn s k hlt)
     have ka := hid (qnD s[k] w)
     cases hf : qaA s[k] with
     | true =>
       have g3 : Hid (∀ j, j < k + 1 -> qaA (qaT s j) = true) := fun j hj => by
         by_cases e : j < k
         . exact hok.out j e
         . obtain rfl : j = k := by omega
           rw [<- hb.out]; exact hf
       rw [hf] at ka
       clear hf
       go_wp2_with (go_at_call 89; refine ka.out.mono ?_; rintro e w' ⟨rfl, rfl⟩)
       go_round
       case rel => exact ⟨k + 1, by omega, by go_num, g3⟩
       case measure => simp [intOf]; omega
     | false =>
       have g3 : Hid (runL qaA s.data.toList = k) := qhG s k hk hok.out fun _ => by rw [<- hb.out]; exact hf
       rw [hf] at ka
       clear hf
       go_wp2_with (go_at_call 89; refine ka.out.mono ?_; rintro e w' ⟨rfl, rfl⟩)
       go_ret
       exact ⟨qeh (by rw [g3.out]), rfl⟩
   . have g3 : Hid (runL qaA s.data.toList = s.size) := qhG s s.size (Nat.le_refl _) (fun j hj => hok.out j (by omega)) (fun h => absurd h (by omega))
     go_wp2
     go_ret
     exact ⟨qeh (by rw [g3.out]), rfl⟩
theorem qnG (s : ByteArray) (w : World) (hs : s.size <= 9223372036854775807) : Calls Tryz.prog 84 #[.string s, .func (.func 90) #[] #[]] w fun e w' => e = .returned (.int .i64 (runL qat s.data.toList : Nat)) /\ w = w' := by
 go_enter Tryz.func84, Tryz.ntmps84
 go_wp2
 go_loop [8] (fun i => ∃ k : Nat, k <= s.size /\ i = .int .i64 k /\ Hid (∀ j, j < k -> qat (qaT s j) = true)) (fun i => s.size - (intOf i).toNat)
 case atStart => exact ⟨0, Nat.zero_le _, rfl, fun j hj => by omega⟩
 case round =>
   obtain ⟨k, hk, rfl, hok⟩ := hrel
   by_cases hlt : k < s.size
   . have hb := hid (qcn s k hlt)
     have ka := hid (qgt s[k] w)
     cases hf : qat s[k] with
     | true =>
       have g3 : Hid (∀ j, j < k + 1 -> qat (qaT s j) = true) := fun j hj => by
         by_cases e : j < k
         . exact hok.out j e
         . obtain rfl : j = k := by omega
           rw [<- hb.out]; exact hf
       rw [hf] at ka
       clear hf
       go_wp2_with (go_at_call 90; refine ka.out.mono ?_; rintro e w' ⟨rfl, rfl⟩)
       go_round
       case rel => exact ⟨k + 1, by omega, by go_num, g3⟩
       case measure => simp [intOf]; omega
     | false =>
       have g3 : Hid (runL qat s.data.toList = k) := qhG s k hk hok.out fun _ => by rw [<- hb.out]; exact hf
       rw [hf] at ka
       clear hf
       go_wp2_with (go_at_call 90; refine ka.out.mono ?_; rintro e w' ⟨rfl, rfl⟩)
       go_ret
       exact ⟨qeh (by rw [g3.out]), rfl⟩
   . have g3 : Hid (runL qat s.data.toList = s.size) := qhG s s.size (Nat.le_refl _) (fun j hj => hok.out j (by omega)) (fun h => absurd h (by omega))
     go_wp2
     go_ret
     exact ⟨qeh (by rw [g3.out]), rfl⟩
/-! lat.Name -/
def nameB (s : ByteArray) : Bool := nameL s.data.toList
theorem qnH (f : UInt8 -> Bool) (l : List UInt8) (h : ∀ j, j < l.length -> f (l.getD j 0) = true) : l.all f = true := by
 rw [List.all_eq_true]
 intro c hc
 obtain ⟨j, hj, rfl⟩ := List.getElem_of_mem hc
 have := h j hj
 rwa [List.getD_eq_getElem?_getD, List.getElem?_eq_getElem hj] at this
theorem qnI (f : UInt8 -> Bool) (l : List UInt8) (h : l.all f = true) (j : Nat) (hj : j < l.length) : f (l.getD j 0) = true := by
 rw [List.getD_eq_getElem?_getD, List.getElem?_eq_getElem hj]
 exact (List.all_eq_true.1 h) _ (List.getElem_mem hj)
theorem qgu (l : List UInt8) : nameL l = true ↔ 1 <= l.length /\ l.length <= 16 /\ qas (l.getD 0 0) = true /\ ∀ j, j < l.length -> qaA (l.getD j 0) = true := by
 cases l with
 | nil => simp [nameL]
 | cons c r =>
   unfold nameL
   rw [Bool.and_eq_true, Bool.and_eq_true, decide_eq_true_eq, List.getD_cons_zero]
   exact ⟨fun ⟨⟨h1, h2⟩, h3⟩ => ⟨by simp, h1, h2, qnI _ _ h3⟩, fun ⟨_, h1, h2, h3⟩ => ⟨⟨h1, h2⟩, qnH _ _ h3⟩⟩
theorem qdt (s : ByteArray) : nameB s = true ↔ 1 <= s.size /\ s.size <= 16 /\ qas (qaT s 0) = true /\ ∀ j, j < s.size -> qaA (qaT s j) = true := by
 unfold nameB
 rw [qgu]
 have : s.data.toList.length = s.size := by simp
 rw [this]; rfl
theorem qco {s : ByteArray} (h : ¬ (1 <= s.size /\ s.size <= 16 /\ qas (qaT s 0) = true /\ ∀ j, j < s.size -> qaA (qaT s j) = true)) : nameB s = false := by
 cases hn : nameB s with
 | false => rfl
 | true => exact absurd ((qdt s).1 hn) h
theorem qbD (s : ByteArray) (w : World) (hs : s.size <= 9223372036854775807) : Calls Tryz.prog 92 #[.string s] w fun e w' => e = .returned (.bool (nameB s)) /\ w = w' := by
 by_cases h0 : s.size = 0
 . have hE : Hid (nameB s = false) := qco fun h => by omega
   have h0' : ((s.size : Int) == 0) = true := by simp [h0]
   clear h0
   go_enter Tryz.func92, Tryz.ntmps92
   go_wp2
   go_ret
   exact ⟨qae hE.out.symm, rfl⟩
 have h0' : ((s.size : Int) == 0) = false := beq_eq_false_iff_ne.2 (by omega)
 have hpos : 0 < s.size := by omega
 clear h0
 by_cases h1 : 16 < s.size
 . have hE : Hid (nameB s = false) := qco fun h => by omega
   go_enter Tryz.func92, Tryz.ntmps92
   go_wp2
   go_ret
   exact ⟨qae hE.out.symm, rfl⟩
 have hb0 := hid (qcn s 0 hpos)
 have k0 := hid (qbJ s[0] w)
 cases h2 : qas s[0] with
 | true =>
   have hL : Hid (qas (qaT s 0) = true) := by
     show qas (qaT s 0) = true
     rw [<- hb0.out]; exact h2
   rw [h2] at k0
   clear h2
   go_enter Tryz.func92, Tryz.ntmps92
   go_wp2_with (go_at_call 128; refine k0.out.mono ?_; rintro e w' ⟨rfl, rfl⟩)
   go_loop [20] (fun i => ∃ k : Nat, k <= s.size /\ i = .int .i64 k /\ Hid (∀ j, j < k -> qaA (qaT s j) = true)) (fun i => s.size - (intOf i).toNat)
   case atStart => exact ⟨0, Nat.zero_le _, rfl, fun j hj => by omega⟩
   case round =>
     obtain ⟨k, hk, rfl, hok⟩ := hrel
     by_cases hlt : k < s.size
     . have hb := hid (qcn s k hlt)
       have ka := hid (qbJ s[k] w)
       have kd := hid (qdc s[k] w)
       cases g1 : qas s[k] with
       | true =>
         have g3 : Hid (∀ j, j < k + 1 -> qaA (qaT s j) = true) := fun j hj => by
           by_cases e : j < k
           . exact hok.out j e
           . obtain rfl : j = k := by omega
             rw [<- hb.out]; unfold qaA; rw [g1]; rfl
         rw [g1] at ka
         clear g1 kd
         go_wp2_with (go_at_call 128; refine ka.out.mono ?_; rintro e w' ⟨rfl, rfl⟩)
         go_round
         case rel => exact ⟨k + 1, by omega, by go_num, g3⟩
         case measure => simp [intOf]; omega
       | false =>
         cases g2 : qat s[k] with
         | true =>
           have g3 : Hid (∀ j, j < k + 1 -> qaA (qaT s j) = true) := fun j hj => by
             by_cases e : j < k
             . exact hok.out j e
             . obtain rfl : j = k := by omega
               rw [<- hb.out]; unfold qaA; rw [g1, g2]; rfl
           rw [g1] at ka
           rw [g2] at kd
           clear g1 g2
           go_wp2_with (first | (go_at_call 128; refine ka.out.mono ?_; rintro e w' ⟨rfl, rfl⟩) | (go_at_call 129; refine kd.out.mono ?_; rintro e w' ⟨rfl, rfl⟩))
           go_round
           case rel => exact ⟨k + 1, by omega, by go_num, g3⟩
           case measure => simp [intOf]; omega
         | false =>
           have hE : Hid (nameB s = false) := qco fun ⟨_, _, _, h⟩ => by
             have := h k hlt
             rw [<- hb.out] at this
             unfold qaA at this
             rw [g1, g2] at this
             cases this
           rw [g1] at ka
           rw [g2] at kd
           clear g1 g2
           go_wp2_with (first | (go_at_call 128; refine ka.out.mono ?_; rintro e w' ⟨rfl, rfl⟩) | (go_at_call 129; refine kd.out.mono ?_; rintro e w' ⟨rfl, rfl⟩))
           go_ret
           exact ⟨qae hE.out.symm, rfl⟩
     . have hE : Hid (nameB s = true) := (qdt s).2 ⟨by omega, by omega, hL.out, fun j hj => hok.out j (by omega)⟩
       go_wp2
       go_ret
       exact ⟨qae hE.out.symm, rfl⟩
 | false =>
   have hE : Hid (nameB s = false) := qco fun ⟨_, _, h, _⟩ => by
     rw [<- hb0.out, h2] at h; cases h
   rw [h2] at k0
   clear h2
   go_enter Tryz.func92, Tryz.ntmps92
   go_wp2_with (go_at_call 128; refine k0.out.mono ?_; rintro e w' ⟨rfl, rfl⟩)
   go_ret
   exact ⟨qae hE.out.symm, rfl⟩
structure Env (w : World) : Prop where
 keys : ∀ j, j < 14 -> w.cell? ⟨0, j, none⟩ = some (.string ⟨(keys.getD j []).toArray⟩)
 tab : Lib.TabIs Tryz.prog w "internal/strconv.uint64pow10" .u64 Lib.pow10Tab
 syn : ∃ te pe, w.cell? ⟨5, 0, none⟩ = some (.iface te pe)
 rng : ∃ te pe, w.cell? ⟨6, 0, none⟩ = some (.iface te pe)
 size : 7 <= w.heap.size
theorem gPow : Tryz.prog.globalNamed "internal/strconv.uint64pow10" = some 4 := by kernel_rfl
theorem Env.later {w w' : World} (h : Env w) (hb : Below w.heap.size w w') : Env w' where
 keys j hj := (hb.cell (p := ⟨0, j, none⟩) (Nat.lt_of_lt_of_le (show 0 < 7 by decide) h.size)).trans (h.keys j hj)
 tab := by
   have h1 := h.tab
   unfold Lib.TabIs at h1 ⊢
   rw [<- h1]
   simp only [World.var?, gPow, Option.bind_some, hb.block 4 (Nat.lt_of_lt_of_le (by decide) h.size)]
 syn := by
   obtain ⟨te, pe, e⟩ := h.syn
   exact ⟨te, pe, (hb.cell (p := ⟨5, 0, none⟩) (Nat.lt_of_lt_of_le (by decide) h.size)).trans e⟩
 rng := by
   obtain ⟨te, pe, e⟩ := h.rng
   exact ⟨te, pe, (hb.cell (p := ⟨6, 0, none⟩) (Nat.lt_of_lt_of_le (by decide) h.size)).trans e⟩
 size := Nat.le_trans h.size hb.size
theorem qff (w : World) (k : Nat) (os : Array Obj) : Below w.heap.size w (Go.Sort.grow (w.drewN k) os) :=
 ⟨rfl, rfl, rfl, by show w.heap.size <= (w.heap ++ os).size; simp, fun j hj => by show (w.heap ++ os)[j]? = _; rw [Array.getElem?_append_left hj]⟩
theorem qab (W : World) (o : Obj) : Below W.heap.size W (W.alloc o) := (Below.refl _ _).alloc (Nat.le_refl _) _
def strOf (t : List UInt8) : ByteArray := ⟨t.toArray⟩
theorem qbx (s : ByteArray) : strOf s.data.toList = s := by
 cases s; rfl
theorem qaP (t : List UInt8) : (strOf t).data.toList = t := by
 show t.toArray.toList = t; simp
theorem qbE (t : List UInt8) : (strOf t).size = t.length := by
 show t.toArray.size = t.length; simp
def tokV (t : Tok) : Value := .agg #[.int .i64 t.kind, .string (strOf t.text), .int .i64 t.num]
theorem qdu (t : Tok) : tokV t = .agg #[.int .i64 t.kind, .string (strOf t.text), .int .i64 t.num] := rfl
def noTok : Value := .agg #[.int .i64 0, .string ⟨#[]⟩, .int .i64 0]
def optV : Option Tok -> Value
 | none => .tuple #[noTok, .bool false]
 | some t => .tuple #[tokV t, .bool true]
def Toks (w : World) (B : Nat) (A : Option Addr) (ts : List Tok) : Prop :=
 ts ≠ [] -> ∃ b off, A = some ⟨b, off, none⟩ /\ b < B /\ ∀ j, j < ts.length -> w.cell? ⟨b, off + j * 3, none⟩ = some (.int .i64 (ts.getD j ⟨0, [], 0⟩).kind) /\ w.cell? ⟨b, off + j * 3 + 1, none⟩ = some (.string (strOf (ts.getD j ⟨0, [], 0⟩).text)) /\ w.cell? ⟨b, off + j * 3 + 2, none⟩ = some (.int .i64 (ts.getD j ⟨0, [], 0⟩).num)
theorem Toks.later {w w' : World} {A : Option Addr} {ts : List Tok} (h : Toks w w.heap.size A ts) (hb : Below w.heap.size w w') : Toks w' w'.heap.size A ts := fun hn => by
 obtain ⟨b, off, hA, hlt, hc⟩ := h hn
 exact ⟨b, off, hA, Nat.lt_of_lt_of_le hlt hb.size, fun j hj => ⟨(hb.cell (p := ⟨b, off + j * 3, none⟩) hlt).trans (hc j hj).1, (hb.cell (p := ⟨b, off + j * 3 + 1, none⟩) hlt).trans (hc j hj).2.1, (hb.cell (p := ⟨b, off + j * 3 + 2, none⟩) hlt).trans (hc j hj).2.2⟩⟩
theorem Toks.nil (w : World) (B : Nat) (A : Option Addr) : Toks w B A [] := fun h => absurd rfl h
def Short (ts : List Tok) : Prop := ∀ j, (ts.getD j ⟨0, [], 0⟩).text.length <= 140737488355328
end Go.Proofs.YtjnfhebbphdchaaGreatDoor.X
