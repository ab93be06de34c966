/-
  Show. Conditions: as for Toks.
-/
import Derived.Test.YthmchdpinobbgaaGreatDoorShToks
namespace Go.Proofs.YthmchdpinobbgaaGreatDoor
open Go.RowKit Go.Shelf Go.Tm Go.Lx Go.Maps
attribute [local go_sem] Oper.semAt_some

/-- what is shown, as a text -/
def showS (t : Go.Tm.T) : ByteArray := if rightT t = true then X.strOf (printL (toksT t)) else ⟨#[63]⟩

set_option maxRecDepth 100000 in
set_option maxHeartbeats 2000000 in
theorem show_any (t : Go.Tm.T) (A : Option Addr) (c : Nat) (w : World) (hE : EnvS w) (hz : t.size ≤ 4194304) (hT : TmV w (· < w.heap.size) t A c) :
    Calls Tryz.prog 11 #[tmV t A c] w fun e w' => e = .returned (.string (showS t)) ∧ Below w.heap.size w w' := by
  have hbV : Below w.heap.size w (w.alloc (.cells #[.int .i64 t.kind, .string t.name, .int .i64 t.num, .slice A t.kids.length c] 24)) := later_alloc _ _
  have hbx : (w.alloc (.cells #[.int .i64 t.kind, .string t.name, .int .i64 t.num, .slice A t.kids.length c] 24)).heap[w.heap.size]? = some (.cells #[.int .i64 t.kind, .string t.name, .int .i64 t.num, .slice A t.kids.length c] 24 (0, 0)) := World.alloc_heap_new _ _
  have kt := toks_any t A c (w.alloc (.cells #[.int .i64 t.kind, .string t.name, .int .i64 t.num, .slice A t.kids.length c] 24)) (hE.later hbV) hz (hT.later hbV)
  unfold tmV at kt ⊢
  replace kt := Lib.hid kt
  replace hbV := Lib.hid hbV
  have i0 := cell_of_row _ w.heap.size 0 _ _ _ hbx
  have i1 := cell_of_row _ w.heap.size 1 _ _ _ hbx
  have i2 := cell_of_row _ w.heap.size 2 _ _ _ hbx
  have i3 := cell_of_row _ w.heap.size 3 _ _ _ hbx
  replace hbx := Lib.hid hbx
  clear hE hT
  cases hr : rightT t with
  | false =>
    have hs : Hid (showT t = []) := by show _ = _; unfold showT; rw [hr]; rfl
    have hS : Hid (showS t = ⟨#[63]⟩) := by show _ = _; unfold showS; rw [hr]; rfl
    rw [hs.out] at kt
    rw [hS.out]
    clear hr
    go_enter Tryz.func11, Tryz.ntmps11
    go_wp2_with fail
    refine kt.out.mono ?_
    rintro e w1 ⟨B, d, rfl, _, hb1⟩
    have hb := Lib.hid (hbV.out.trans (hb1.mono hbV.out.size))
    clear hb1 kt
    go_wp2_with fail
    go_ret
    exact ⟨rfl, hb.out⟩
  | true =>
    obtain ⟨hrt, hz2⟩ := right_rt hr
    have hs : showT t = toksT t := by unfold showT; rw [hr]; rfl
    have hS : Hid (showS t = X.strOf (Lib.join ((toksT t).map (·.text)) [32])) := by show _ = _; unfold showS; rw [hr]; rfl
    have h1 := (toks_len hrt).1
    have h2 := (toks_len hrt).2
    have h3 := show_len hrt
    rw [hs] at kt
    rw [hS.out]
    clear hr hs
    have kp := fun (B : Option Addr) (d : Nat) (W : World) (h : X.Toks W W.heap.size B (toksT t)) => X.print_any B (toksT t) d W h (by omega) (by unfold printL at h3; omega)
    obtain ⟨L, hL⟩ : ∃ n, (toksT t).length = n := ⟨_, rfl⟩
    rw [hL] at kt kp h1 h2
    have hLp : 0 < L := h2
    have q : ((L : Int) == 0) = false := by rw [beq_eq_false_iff_ne]; omega
    replace kp := Lib.hid kp
    clear h1 h2 h3 hz2 hL
    go_enter Tryz.func11, Tryz.ntmps11
    go_wp2_with fail
    refine kt.out.mono ?_
    rintro e w1 ⟨B, d, rfl, hTk, hb1⟩
    have hb := Lib.hid (hbV.out.trans (hb1.mono hbV.out.size))
    have kp2 := Lib.hid (kp.out B d w1 hTk)
    clear hb1 kt hTk kp
    go_wp2_with fail
    refine kp2.out.mono ?_
    rintro e w2 ⟨rfl, hb2⟩
    have hb3 := Lib.hid (hb.out.trans (hb2.mono hb.out.size))
    clear hb2 kp2
    go_wp2_with fail
    go_ret
    exact ⟨rfl, hb3.out⟩
end Go.Proofs.YthmchdpinobbgaaGreatDoor
