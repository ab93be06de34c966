/-
  Text: an atom as a text. Condition: the names can be read; the library's table lies as laid.
-/
import Derived.Test.YtkagmkejndjepaaGreatDoorAtW1
import Derived.Test.YtkagmkejndjepaaGreatDoorShelf
import Derived.Lib.LaidTab
import Derived.Lib.ItoaNum
import Derived.Lib.ItoaLen
namespace Go.At
/-- an atom as a text -/
def textT (ns : List ByteArray) (a : Int) : ByteArray := if a < 0 then (if (-1 - a).toNat < ns.length then ns.getD (-1 - a).toNat ByteArray.empty else ⟨#[63]⟩) else ⟨#[39]⟩ ++ ⟨(Lib.itoa a).toArray⟩
end Go.At
namespace Go.Proofs.YtkagmkejndjepaaGreatDoor
open Go.RowKit Go.Shelf Go.At
attribute [local go_sem] Oper.semAt_some

/-- THE VARIABLES THAT ARE READ. -/
structure Env (w : World) : Prop where
  tab : Lib.TabIs Tryz.prog w "internal/strconv.uint64pow10" .u64 Lib.pow10Tab
  size : 4 ≤ w.heap.size
theorem gPow : Tryz.prog.globalNamed "internal/strconv.uint64pow10" = some 0 := by kernel_rfl
theorem Env.later {w w' : World} (h : Env w) (hb : Below w.heap.size w w') : Env w' where
  tab := by
    have h1 := h.tab
    unfold Lib.TabIs at h1 ⊢
    rw [← h1]
    simp only [World.var?, gPow, Option.bind_some, hb.block 0 (Nat.lt_of_lt_of_le (by decide) h.size)]
  size := Nat.le_trans h.size hb.size
theorem below_tape (w : World) (k : Nat) (os : Array Obj) : Below w.heap.size w (Go.Sort.grow (w.drewN k) os) := below_grow (belowN (Below.refl _ _) k) (Nat.le_refl _) os

set_option maxRecDepth 100000 in
theorem text_any (A : Option Addr) (ns : List ByteArray) (c : Nat) (a : Int) (w : World) (hE : Env w) (hN : Strs w A ns) (ha : I64 a) :
    Calls Tryz.prog 28 #[.slice A ns.length c, .int .i64 a] w fun e w' => e = .returned (.string (textT ns a)) ∧ Below w.heap.size w w' := by
  have kp := isPoint_any a
  have ko := fun W => pointOf_any a W ha
  obtain ⟨a1, a2⟩ := ha
  by_cases h : a < 0
  · have hp : isP a = true := decide_eq_true h
    obtain ⟨k, hk⟩ : ∃ k : Nat, -1 - a = (k : Int) := ⟨(-1 - a).toNat, by omega⟩
    have ho : pointOfT a = (k : Int) := (if_pos h).trans hk
    have hkn : (-1 - a).toNat = k := by omega
    rw [hp] at kp
    rw [ho] at ko
    unfold textT
    rw [if_pos h, hkn]
    replace hk := Lib.hid hk
    replace hkn := Lib.hid hkn
    replace ho := Lib.hid ho
    by_cases hlt : k < ns.length
    · obtain ⟨b, off, rfl, hb, hrow⟩ := hN (by intro e; subst e; simp at hlt)
      have c0 := hrow k hlt
      rw [if_pos hlt]
      clear hrow hN
      generalize ns.getD k ByteArray.empty = s at c0 ⊢
      generalize ns.length = L at hlt ⊢
      have hd : decide ((k : Int) < (L : Int)) = true := decide_eq_true (by omega)
      have hl2 : (k : Int) < (L : Int) := by omega
      go_enter Tryz.func28, Tryz.ntmps28
      go_wp2_with (first | (go_at_call 27; refine (kp _).mono ?_; rintro e w' ⟨rfl, hw⟩; cases hw) | (go_at_call 25; refine (ko _).mono ?_; rintro e w' ⟨rfl, hw⟩; cases hw))
      go_ret
      exact ⟨rfl, Below.refl _ _⟩
    · rw [if_neg hlt]
      clear hN
      generalize ns.length = L at hlt ⊢
      have hd : decide ((k : Int) < (L : Int)) = false := decide_eq_false (by omega)
      have hl2 : ¬ (k : Int) < (L : Int) := by omega
      go_enter Tryz.func28, Tryz.ntmps28
      go_wp2_with (first | (go_at_call 27; refine (kp _).mono ?_; rintro e w' ⟨rfl, hw⟩; cases hw) | (go_at_call 25; refine (ko _).mono ?_; rintro e w' ⟨rfl, hw⟩; cases hw))
      go_ret
      exact ⟨rfl, Below.refl _ _⟩
  · have hp : isP a = false := decide_eq_false h
    rw [hp] at kp
    have hi := Lib.hid (Tryz.strconv_Itoa a a1 a2 w hE.tab)
    have hlen := Lib.itoa_length_le a a1 a2
    unfold textT
    rw [if_neg h]
    obtain ⟨s, hs⟩ : ∃ s : ByteArray, (⟨(Lib.itoa a).toArray⟩ : ByteArray) = s := ⟨_, rfl⟩
    have hss : s.size ≤ 21 := by rw [← hs]; show (Lib.itoa a).toArray.size ≤ 21; simpa using hlen
    have hsz : ¬ 9223372036854775807 < (⟨#[39]⟩ : ByteArray).size + s.size := by have : (⟨#[39]⟩ : ByteArray).size = 1 := rfl; omega
    rw [hs] at hi ⊢
    replace hs := Lib.hid hs
    clear hN hlen
    go_enter Tryz.func28, Tryz.ntmps28
    go_wp2_with (first | (go_at_call 27; refine (kp _).mono ?_; rintro e w' ⟨rfl, hw⟩; cases hw) | (go_at_call 52; refine hi.out.mono ?_; rintro e w' ⟨rfl, q, os, hw⟩; have hb : Hid (Below w.heap.size w w') := (by rw [hw]; exact below_tape w q os); clear hw))
    go_ret
    exact ⟨rfl, hb.out⟩
theorem text_len (ns : List ByteArray) (a : Int) (ha : I64 a) (h : ∀ s ∈ ns, s.size ≤ 1048576) : (textT ns a).size ≤ 1048600 := by
  unfold textT
  split
  · split
    · rename_i h1
      have := h (ns.getD (-1 - a).toNat ByteArray.empty) (by rw [List.getD_eq_getElem?_getD, List.getElem?_eq_getElem h1]; exact List.getElem_mem _)
      omega
    · show 1 ≤ _; omega
  · have hlen := Lib.itoa_length_le a ha.1 ha.2
    have e : ((⟨#[39]⟩ : ByteArray) ++ ⟨(Lib.itoa a).toArray⟩).size = 1 + (Lib.itoa a).length := by
      rw [ByteArray.size_append]
      congr 1
    rw [e]
    omega
end Go.Proofs.YtkagmkejndjepaaGreatDoor
