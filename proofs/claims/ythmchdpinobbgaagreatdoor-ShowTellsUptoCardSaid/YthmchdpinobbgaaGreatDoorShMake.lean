/-
  The statements' maker of terms by bytes: a byte; the state. Conditions: the bytes can be read; at most 60.
-/
import Derived.Test.YthmchdpinobbgaaGreatDoorShShow
import Derived.Deep.QuietTactic
import Derived.BigQuiet
namespace Go.Proofs.YthmchdpinobbgaaGreatDoor
open Go.RowKit Go.Shelf Go.Tm Go.Lx Go.Maps
attribute [local go_sem] Oper.semAt_some

/-- the maker in its box: bytes behind a slice, how many were taken -/
structure Mk (W : World) (bm : Nat) (A : Option Addr) (n c at_ : Nat) (zs : Nat → Int) : Prop where
  box : W.heap[bm]? = some (.cells #[.slice A n c, .int .i64 at_] 49 (0, 0))
  byt : n = 0 ∨ ∃ bb bo, A = some ⟨bb, bo, none⟩ ∧ bb ≠ bm ∧ ∀ j, j < n → W.cell? ⟨bb, bo + j, none⟩ = some (.int .u8 (zs j))
  rng : ∀ j, j < n → 0 ≤ zs j ∧ zs j ≤ 255
  le : at_ ≤ n
  few : n ≤ 60
/-- what a taking of bytes does to the world: the box alone is turned -/
structure Tk (bm : Nat) (w w' : World) : Prop where
  os : w'.os = w.os
  tape : w'.tape = w.tape
  output : w'.output = w.output
  size : w.heap.size ≤ w'.heap.size
  block : ∀ k, k < w.heap.size → k ≠ bm → w'.heap[k]? = w.heap[k]?
theorem Tk.refl (bm : Nat) (w : World) : Tk bm w w := ⟨rfl, rfl, rfl, Nat.le_refl _, fun _ _ _ => rfl⟩
theorem Tk.trans {bm : Nat} {a b c : World} (h : Tk bm a b) (k : Tk bm b c) : Tk bm a c :=
  ⟨k.os.trans h.os, k.tape.trans h.tape, k.output.trans h.output, Nat.le_trans h.size k.size, fun j hj hn => (k.block j (Nat.lt_of_lt_of_le hj h.size) hn).trans (h.block j hj hn)⟩
theorem Tk.of_below {bm : Nat} {w w' : World} (h : Below w.heap.size w w') : Tk bm w w' := ⟨h.os, h.tape, h.output, h.size, fun k hk _ => h.block k hk⟩
theorem Tk.below {bm : Nat} {w w' : World} (h : Tk bm w w') (hb : bm < w.heap.size) : Below bm w w' := ⟨h.os, h.tape, h.output, h.size, fun k hk => h.block k (by omega) (by omega)⟩
theorem Tk.set {bm : Nat} (w : World) (i : Nat) (v : Value) : Tk bm w (w.setCell ⟨bm, i, none⟩ v) :=
  ⟨rfl, rfl, rfl, by simp, fun k _ hn => Below.heap_setCell _ _ _ _ hn⟩
theorem Mk.later {W W' : World} {bm n c at_ : Nat} {A : Option Addr} {zs : Nat → Int} (h : Mk W bm A n c at_ zs) (hb : Below W.heap.size W W') : Mk W' bm A n c at_ zs where
  box := (hb.block bm (World.lt_of_get h.box)).trans h.box
  byt := h.byt.imp id fun ⟨bb, bo, h1, h2, h3⟩ => ⟨bb, bo, h1, h2, fun j hj => (hb.cell (p := ⟨bb, bo + j, none⟩) (World.block_lt_of_cell? W _ (h3 j hj))).trans (h3 j hj)⟩
  rng := h.rng
  le := h.le
  few := h.few
theorem Mk.next {W : World} {bm n c at_ : Nat} {A : Option Addr} {zs : Nat → Int} (h : Mk W bm A n c at_ zs) (hl : at_ < n) : Mk (W.setCell ⟨bm, 1, none⟩ (.int .i64 (at_ + 1 : Nat))) bm A n c (at_ + 1) zs where
  box := heap_setCell_same W bm 1 _ _ _ h.box
  byt := h.byt.imp id fun ⟨bb, bo, h1, h2, h3⟩ => ⟨bb, bo, h1, h2, fun j hj => (World.cell?_of_block (a := ⟨bb, bo + j, none⟩) (Below.heap_setCell _ _ _ _ h2)).trans (h3 j hj)⟩
  rng := h.rng
  le := hl
  few := h.few

set_option maxRecDepth 100000 in
set_option maxHeartbeats 2000000 in
theorem byte_any (bm : Nat) (A : Option Addr) (n c at_ : Nat) (zs : Nat → Int) (w : World) (h : Mk w bm A n c at_ zs) :
    Calls Tryz.prog 29 #[.pointer (some ⟨bm, 0, none⟩)] w fun e w' => ∃ (z : Int) (a' : Nat), e = .returned (.int .i64 z) ∧ 0 ≤ z ∧ z ≤ 255 ∧ at_ ≤ a' ∧ (at_ < n → a' = at_ + 1) ∧ Mk w' bm A n c a' zs ∧ Tk bm w w' := by
  have p0 := cell_of_row w bm 0 _ _ _ h.box
  have p1 := cell_of_row w bm 1 _ _ _ h.box
  have hf1 := frozen_of_row h.box 1
  have hl := World.lt_of_get h.box
  have hle := h.le
  have hfew := h.few
  by_cases hlt : at_ < n
  · have hn := Lib.hid (h.next hlt)
    obtain ⟨bb, bo, rfl, hne, hbs⟩ := h.byt.resolve_left (by omega)
    have hb := hbs at_ hlt
    clear hbs
    have hr := h.rng at_ hlt
    obtain ⟨z, hz⟩ : ∃ z, zs at_ = z := ⟨_, rfl⟩
    rw [hz] at hb hr
    have hd : decide ((n : Int) ≤ (at_ : Int)) = false := decide_eq_false (by omega)
    have hw : IntKind.i64.wrap z = z := wrap_small z (by omega) (by omega)
    replace hz := Lib.hid hz
    replace h := Lib.hid h
    go_enter Tryz.func29, Tryz.ntmps29
    go_wp2_with fail
    go_quiet (fail)
    go_wp2_with fail
    have hN : Mk ((w.drewN nq).setCell ⟨bm, 1, none⟩ (.int .i64 ((at_ : Int) + 1))) bm (some ⟨bb, bo, none⟩) n c (at_ + 1) zs := (h.out.later (belowN (Below.refl _ _) nq)).next hlt
    have hT : Tk bm w ((w.drewN nq).setCell ⟨bm, 1, none⟩ (.int .i64 ((at_ : Int) + 1))) := (Tk.of_below (belowN (Below.refl _ _) nq)).trans (Tk.set _ _ _)
    obtain ⟨W9, hW9⟩ : ∃ W, (w.drewN nq).setCell ⟨bm, 1, none⟩ (.int .i64 ((at_ : Int) + 1)) = W := ⟨_, rfl⟩
    rw [hW9] at hN hT ⊢
    clear hW9 p0 p1 hf1 hb hd
    have p0 := cell_of_row W9 bm 0 _ _ _ hN.box
    have p1 : W9.cell? ⟨bm, 1, none⟩ = some (.int .i64 ((at_ : Int) + 1)) := cell_of_row W9 bm 1 _ _ _ hN.box
    obtain ⟨bb', bo', hA', _, hbs'⟩ := hN.byt.resolve_left (by omega)
    cases hA'
    have hb := hbs' at_ hlt
    clear hbs'
    rw [hz.out] at hb
    have hT2 := Lib.hid (fun k => hT.trans (Tk.of_below (belowN (Below.refl _ W9) k)))
    have hN2 := Lib.hid (fun k => hN.later (belowN (Below.refl _ W9) k))
    clear hN hT
    go_quiet (fail)
    go_wp2
    go_ret
    exact ⟨z, at_ + 1, rfl, hr.1, hr.2, Nat.le_succ _, fun _ => rfl, hN2.out _, hT2.out _⟩
  · have hd : decide ((n : Int) ≤ (at_ : Int)) = true := decide_eq_true (by omega)
    replace h := Lib.hid h
    go_enter Tryz.func29, Tryz.ntmps29
    go_wp2_with fail
    go_quiet (fail)
    go_wp2
    go_ret
    exact ⟨0, at_, rfl, by decide, by decide, Nat.le_refl _, fun h => absurd h hlt, h.out.later (belowN (Below.refl _ _) _), Tk.of_below (belowN (Below.refl _ _) _)⟩
end Go.Proofs.YthmchdpinobbgaaGreatDoor
