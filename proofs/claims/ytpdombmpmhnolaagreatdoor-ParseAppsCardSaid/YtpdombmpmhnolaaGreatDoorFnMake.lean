/-
  The statements' maker of terms, its bytes told one by one. Conditions: the bytes can be read; at most 60.
-/
import Derived.Test.YtpdombmpmhnolaaGreatDoorShMade
import Derived.Deep.QuietTactic
import Derived.BigQuiet
namespace Go.Proofs.YtpdombmpmhnolaaGreatDoor.F
open Go.RowKit Go.Shelf Go.Tm Go.Lx Go.Maps
attribute [local go_sem] Oper.semAt_some

/-- a byte, and where the next one is -/
def byZ (n : Nat) (zs : Nat → Int) (a : Nat) : Int × Nat := if a < n then (zs a, a + 1) else (0, a)
def kindF (d n a1 K0 : Nat) : Nat := if d = 0 ∨ n ≤ a1 then 1 + K0 % 2 else K0
def fldF (n : Nat) (zs : Nat → Int) (K : Nat) (z5 : Int) (a5 : Nat) : ByteArray × Int × Nat :=
  if K = 1 then (⟨#[]⟩, (byZ n zs a5).1 * 8421504, (byZ n zs a5).2)
  else if K = 12 then (opAt.getD ((byZ n zs a5).1 % 5).toNat ⟨#[]⟩, 0, (byZ n zs a5).2)
  else if K = 2 ∨ binderB (K : Int) = true then (nameAt.getD (z5 % 5).toNat ⟨#[]⟩, 0, a5)
  else (⟨#[]⟩, 0, a5)
def kidsF (f : Nat → Go.Tm.T × Nat) : Nat → Nat → List Go.Tm.T × Nat
  | 0, a => ([], a)
  | k + 1, a => ((kidsF f k a).1 ++ [(f (kidsF f k a).2).1], (f (kidsF f k a).2).2)
def mkOne (n : Nat) (zs : Nat → Int) (d : Nat) (f : Nat → Go.Tm.T × Nat) (a : Nat) : Go.Tm.T × Nat :=
  (.node (kindF d n (byZ n zs a).2 (1 + (byZ n zs a).1 % 13).toNat : Nat)
    (fldF n zs (kindF d n (byZ n zs a).2 (1 + (byZ n zs a).1 % 13).toNat) (byZ n zs (byZ n zs a).2).1 (byZ n zs (byZ n zs a).2).2).1
    (fldF n zs (kindF d n (byZ n zs a).2 (1 + (byZ n zs a).1 % 13).toNat) (byZ n zs (byZ n zs a).2).1 (byZ n zs (byZ n zs a).2).2).2.1
    (kidsF f (kidsTab.getD (kindF d n (byZ n zs a).2 (1 + (byZ n zs a).1 % 13).toNat) 0) (fldF n zs (kindF d n (byZ n zs a).2 (1 + (byZ n zs a).1 % 13).toNat) (byZ n zs (byZ n zs a).2).1 (byZ n zs (byZ n zs a).2).2).2.2).1,
   (kidsF f (kidsTab.getD (kindF d n (byZ n zs a).2 (1 + (byZ n zs a).1 % 13).toNat) 0) (fldF n zs (kindF d n (byZ n zs a).2 (1 + (byZ n zs a).1 % 13).toNat) (byZ n zs (byZ n zs a).2).1 (byZ n zs (byZ n zs a).2).2).2.2).2)
/-- what is made, and where the next byte is -/
def mkT (n : Nat) (zs : Nat → Int) : Nat → Nat → Go.Tm.T × Nat
  | 0 => mkOne n zs 0 fun a => (.node 0 ⟨#[]⟩ 0 [], a)
  | d + 1 => mkOne n zs (d + 1) (mkT n zs d)
def subF (n : Nat) (zs : Nat → Int) : Nat → Nat → Go.Tm.T × Nat
  | 0 => fun a => (.node 0 ⟨#[]⟩ 0 [], a)
  | d + 1 => mkT n zs d
theorem mkT_eq (n : Nat) (zs : Nat → Int) (d a : Nat) : mkT n zs d a = mkOne n zs d (subF n zs d) a := by cases d <;> rfl
theorem mkT_of {n : Nat} {zs : Nat → Int} {d at_ a1 a5 a6 a K0 K L : Nat} {z z5 num : Int} {nm : ByteArray} {ks : List Go.Tm.T} (e1 : (z, a1) = byZ n zs at_) (e5 : (z5, a5) = byZ n zs a1) (e0 : 1 + z % 13 = (K0 : Int)) (eK : K = kindF d n a1 K0)
    (eF : (nm, num, a6) = fldF n zs K z5 a5) (eL : kidsTab.getD K 0 = L) (eR : (ks, a) = kidsF (subF n zs d) L a6) : mkT n zs d at_ = (.node K nm num ks, a) := by
  have e9 : (1 + z % 13).toNat = K0 := by omega
  rw [mkT_eq]
  unfold mkOne
  simp only [← e1, ← e5, e9, ← eK, ← eF, eL, ← eR]

set_option maxRecDepth 100000 in
set_option maxHeartbeats 2000000 in
theorem byte_any (bm : Nat) (A : Option Addr) (n c at_ : Nat) (zs : Nat → Int) (w : World) (h : Mk w bm A n c at_ zs) :
    Calls Tryz.prog 62 #[.pointer (some ⟨bm, 0, none⟩)] w fun e w' => ∃ (z : Int) (a' : Nat), e = .returned (.int .i64 z) ∧ 0 ≤ z ∧ z ≤ 255 ∧ at_ ≤ a' ∧ (at_ < n → a' = at_ + 1) ∧ Mk w' bm A n c a' zs ∧ Tk bm w w' ∧ (z, a') = byZ n zs at_ := by
  have p0 := cell_of_row w bm 0 _ _ _ h.box
  have p1 := cell_of_row w bm 1 _ _ _ h.box
  have hf1 := frozen_of_row h.box 1
  have hl := World.lt_of_get h.box
  have hle := h.le
  have hfew := h.few
  by_cases hlt : at_ < n
  · have hn := Lib.hid (h.next hlt)
    obtain ⟨bb, bo, rfl, hne, hbs⟩ := h.byt.resolve_left (by omega)
    have hb := hbs at_ hlt
    clear hbs
    have hr := h.rng at_ hlt
    obtain ⟨z, hz⟩ : ∃ z, zs at_ = z := ⟨_, rfl⟩
    rw [hz] at hb hr
    have hd : decide ((n : Int) ≤ (at_ : Int)) = false := decide_eq_false (by omega)
    have hw : IntKind.i64.wrap z = z := wrap_small z (by omega) (by omega)
    replace hz := Lib.hid hz
    replace h := Lib.hid h
    go_enter Tryz.func62, Tryz.ntmps62
    go_wp2_with fail
    go_quiet (fail)
    go_wp2_with fail
    have hN : Mk ((w.drewN nq).setCell ⟨bm, 1, none⟩ (.int .i64 ((at_ : Int) + 1))) bm (some ⟨bb, bo, none⟩) n c (at_ + 1) zs := (h.out.later (belowN (Below.refl _ _) nq)).next hlt
    have hT : Tk bm w ((w.drewN nq).setCell ⟨bm, 1, none⟩ (.int .i64 ((at_ : Int) + 1))) := (Tk.of_below (belowN (Below.refl _ _) nq)).trans (Tk.set _ _ _)
    obtain ⟨W9, hW9⟩ : ∃ W, (w.drewN nq).setCell ⟨bm, 1, none⟩ (.int .i64 ((at_ : Int) + 1)) = W := ⟨_, rfl⟩
    rw [hW9] at hN hT ⊢
    clear hW9 p0 p1 hf1 hb hd
    have p0 := cell_of_row W9 bm 0 _ _ _ hN.box
    have p1 : W9.cell? ⟨bm, 1, none⟩ = some (.int .i64 ((at_ : Int) + 1)) := cell_of_row W9 bm 1 _ _ _ hN.box
    obtain ⟨bb', bo', hA', _, hbs'⟩ := hN.byt.resolve_left (by omega)
    cases hA'
    have hb := hbs' at_ hlt
    clear hbs'
    rw [hz.out] at hb
    have hT2 := Lib.hid (fun k => hT.trans (Tk.of_below (belowN (Below.refl _ W9) k)))
    have hN2 := Lib.hid (fun k => hN.later (belowN (Below.refl _ W9) k))
    clear hN hT
    go_quiet (fail)
    go_wp2
    go_ret
    exact ⟨z, at_ + 1, rfl, hr.1, hr.2, Nat.le_succ _, fun _ => rfl, hN2.out _, hT2.out _, by unfold byZ; rw [if_pos hlt, hz.out]⟩
  · have hd : decide ((n : Int) ≤ (at_ : Int)) = true := decide_eq_true (by omega)
    replace h := Lib.hid h
    go_enter Tryz.func62, Tryz.ntmps62
    go_wp2_with fail
    go_quiet (fail)
    go_wp2
    go_ret
    exact ⟨0, at_, rfl, by decide, by decide, Nat.le_refl _, fun h => absurd h hlt, h.out.later (belowN (Below.refl _ _) _), Tk.of_below (belowN (Below.refl _ _) _), by unfold byZ; rw [if_neg hlt]⟩
end Go.Proofs.YtpdombmpmhnolaaGreatDoor.F
