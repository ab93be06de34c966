/-
  lat.Bottom, lat.Top. Conditions: the lattice's slices can be read; the library's table lies as laid.
-/
import Derived.Test.YtlhfdedjboanfaaDoorLtMeet
import Derived.Deep.RegionWith
namespace Go.Proofs.YtlhfdedjboanfaaDoor.L
open Go.RowKit Go.Shelf Go.Lt

def bottomI (ns : List ByteArray) (us : List Nat) : Int := if rightB ns us then least us (Lt.all us.length) else -1
def topI (ns : List ByteArray) (us : List Nat) : Int := if rightB ns us then least (turnedL us) (Lt.all us.length) else -1

theorem undrew {B : Nat} {w w' : World} (h : Below B w.drew w') : Below B w w' := ⟨h.os, h.tape, h.output, h.size, h.block⟩
theorem all_same (n : Nat) (hn : n ≤ 64) (w : World) : Calls Tryd.prog 56 #[.int .i64 n] w fun e w' => e = .returned (.int .u64 (Lt.all n : Nat)) ∧ w' = w :=
  (all_any n hn w).mono fun _ _ ⟨h1, h2⟩ => ⟨h1, h2.symm⟩

set_option maxRecDepth 100000 in
set_option maxHeartbeats 1000000 in
theorem bottom_any (A B : Option Addr) (ns : List ByteArray) (us : List Nat) (c d : Nat) (w : World) (hE : Env w) (hL : LatAt w A B c ns us) :
    Calls Tryd.prog 28 #[.agg #[.slice A ns.length c, .slice B us.length d]] w fun e w' => e = .returned (.int .i64 (bottomI ns us)) ∧ Below w.heap.size w w' := by
  have hnl := hL.nlen
  have hul := hL.ulen
  have hb0 : Below w.heap.size w (w.alloc (.cells #[.slice A ns.length c, .slice B us.length d] 25)) := (Below.refl _ _).alloc (Nat.le_refl _) _
  have keyR := Lib.hid (right_any A B ns us c d _ (hE.later hb0) (hL.later hb0))
  by_cases h1 : rightB ns us = true
  case neg =>
    have h1 : rightB ns us = false := by simpa using h1
    have hE9 : Hid (bottomI ns us = -1) := by
      show bottomI ns us = -1
      unfold bottomI; simp [h1]
    have HB0 := Lib.hid hb0
    clear hb0
    go_enter Tryd.func28, Tryd.ntmps28
    go_wp2_with (go_at_call 38; refine keyR.out.mono ?_; rintro e w1 ⟨rfl, hb1⟩)
    go_ret
    exact ⟨ret_int hE9.out.symm, HB0.out.trans (hb1.mono (by simp))⟩
  have hpost : ∀ w1, Below (w.alloc (.cells #[.slice A ns.length c, .slice B us.length d] 25)).heap.size (w.alloc (.cells #[.slice A ns.length c, .slice B us.length d] 25)) w1 →
      w1.cell? ⟨w.heap.size, 1, none⟩ = some (.slice B us.length d) ∧ Hid (Below w.heap.size w w1) := fun w1 hb1 => by
    have hx := box_two w (.slice A ns.length c) (.slice B us.length d) 25
    exact ⟨(hb1.cell (p := ⟨w.heap.size, 1, none⟩) (by simp)).trans hx.2, hb0.trans (hb1.mono (by simp))⟩
  have HP := Lib.hid hpost
  clear hpost hb0
  obtain ⟨q1, q2, q3, q4, q5, q6, q7⟩ := right_parts h1
  have hl64 : us.length ≤ 64 := by omega
  have hE9 : Hid (bottomI ns us = least us (Lt.all us.length)) := by
    show bottomI ns us = _
    unfold bottomI; simp [h1]
  have keyL : ∀ W, Below w.heap.size w W → Calls Tryd.prog 54 #[.slice B us.length d, .int .u64 (Lt.all us.length : Nat)] W fun e w' => e = .returned (.int .i64 (least us (Lt.all us.length))) ∧ Below W.heap.size W w' := fun W hb =>
    least_any B us d _ W (hE.later hb) (hL.later hb).words hL.w64 (all_lt hl64) hl64 (fun p hp => by rw [all_bit] at hp; simpa using hp)
  have KEYL := Lib.hid keyL
  clear keyL q1 q2 q3 q4 q5 q6 q7
  go_enter Tryd.func28, Tryd.ntmps28
  go_wp2_with (go_at_call 38; refine keyR.out.mono ?_; rintro e w1 ⟨rfl, hb1⟩; obtain ⟨x1, x6⟩ := HP.out w1 hb1; clear hb1)
  refine wp_region_still_tail 6 (by kernel_rfl) (by kernel_rfl) ?_
  simp only [List.take_succ_cons, List.take_zero, List.drop_succ_cons, List.drop_zero]
  repeat still_step
  still_call (all_same us.length hl64 _)
  refine wpStill_nil ?_
  change wpList _ _ _ _ _ w1.drew
  go_wp2_with (go_at_call 54; refine (KEYL.out _ x6.out.drew).mono ?_; rintro e w9 ⟨rfl, hb9⟩)
  go_ret
  exact ⟨ret_int hE9.out.symm, x6.out.drew.trans (hb9.mono x6.out.size)⟩

set_option maxRecDepth 100000 in
set_option maxHeartbeats 4000000 in
theorem top_any (A B : Option Addr) (ns : List ByteArray) (us : List Nat) (c d : Nat) (w : World) (hE : Env w) (hL : LatAt w A B c ns us) :
    Calls Tryd.prog 27 #[.agg #[.slice A ns.length c, .slice B us.length d]] w fun e w' => e = .returned (.int .i64 (topI ns us)) ∧ Below w.heap.size w w' := by
  have hnl := hL.nlen
  have hul := hL.ulen
  have hb0 : Below w.heap.size w (w.alloc (.cells #[.slice A ns.length c, .slice B us.length d] 25)) := (Below.refl _ _).alloc (Nat.le_refl _) _
  have keyR := Lib.hid (right_any A B ns us c d _ (hE.later hb0) (hL.later hb0))
  by_cases h1 : rightB ns us = true
  case neg =>
    have h1 : rightB ns us = false := by simpa using h1
    have hE9 : Hid (topI ns us = -1) := by
      show topI ns us = -1
      unfold topI; simp [h1]
    have HB0 := Lib.hid hb0
    clear hb0
    go_enter Tryd.func27, Tryd.ntmps27
    go_wp2_with (go_at_call 38; refine keyR.out.mono ?_; rintro e w1 ⟨rfl, hb1⟩)
    go_ret
    exact ⟨ret_int hE9.out.symm, HB0.out.trans (hb1.mono (by simp))⟩
  have hpost : ∀ w1, Below (w.alloc (.cells #[.slice A ns.length c, .slice B us.length d] 25)).heap.size (w.alloc (.cells #[.slice A ns.length c, .slice B us.length d] 25)) w1 →
      w1.cell? ⟨w.heap.size, 1, none⟩ = some (.slice B us.length d) ∧ Hid (Below w.heap.size w w1) ∧ w.heap.size < w1.heap.size := fun w1 hb1 => by
    have hx := box_two w (.slice A ns.length c) (.slice B us.length d) 25
    have hs := hb1.size
    simp only [World.size_alloc] at hs
    exact ⟨(hb1.cell (p := ⟨w.heap.size, 1, none⟩) (by simp)).trans hx.2, hb0.trans (hb1.mono (by simp)), by omega⟩
  have HP := Lib.hid hpost
  clear hpost hb0
  obtain ⟨q1, q2, q3, q4, q5, q6, q7⟩ := right_parts h1
  have hl64 : us.length ≤ 64 := by omega
  have hin := within_in hL.w64 hl64 q5
  have hT64 := W64.turned us hl64
  have hE9 : Hid (topI ns us = least (turnedL us) (Lt.all us.length)) := by
    show topI ns us = _
    unfold topI; simp [h1]
  have keyT : ∀ W, Below w.heap.size w W → Calls Tryd.prog 55 #[.slice B us.length d] W fun e w' => e = .returned (.slice (some ⟨W.heap.size, 0, none⟩) us.length us.length) ∧ Hid (Words w' w'.heap.size (some ⟨W.heap.size, 0, none⟩) (turnedL us)) ∧ Below W.heap.size W w' := fun W hb =>
    turned_any B us d W (hE.later hb) (hL.later hb).words hL.w64 hl64 hin
  have KEYT := Lib.hid keyT
  clear keyT
  have keyL : ∀ (W : World) (A : Option Addr), Below w.heap.size w W → Words W W.heap.size A (turnedL us) → Calls Tryd.prog 54 #[.slice A us.length us.length, .int .u64 (Lt.all us.length : Nat)] W fun e w' => e = .returned (.int .i64 (least (turnedL us) (Lt.all us.length))) ∧ Below W.heap.size W w' := fun W A hb hw => by
    have := least_any A (turnedL us) us.length (Lt.all us.length) W (hE.later hb) hw hT64 (all_lt hl64) (by rw [turnedL_length]; exact hl64) (fun p hp => by rw [turnedL_length]; rw [all_bit] at hp; simpa using hp)
    rw [turnedL_length] at this
    exact this
  have KEYL := Lib.hid keyL
  clear keyL hin q1 q2 q3 q4 q5 q6 q7
  go_enter Tryd.func27, Tryd.ntmps27
  go_wp2_with (go_at_call 38; refine keyR.out.mono ?_; rintro e w1 ⟨rfl, hb1⟩; obtain ⟨x1, x6, x7⟩ := HP.out w1 hb1; clear hb1)
  have arm : ∀ W (_ : Below w1.heap.size w1 W), W.cell? ⟨w.heap.size, 1, none⟩ = some (.slice B us.length d) := fun W hb => (hb.cell (p := ⟨w.heap.size, 1, none⟩) x7).trans x1
  have ARM := Lib.hid arm
  clear arm
  go_region_with (first | (go_at_call 55; refine (KEYT.out _ x6.out.drew).mono ?_; rintro e w9 ⟨rfl, hw9, hb9⟩; have z1 := ARM.out w9 (undrew hb9); have hb8 : Hid (Below w.heap.size w w9) := x6.out.drew.trans (hb9.mono x6.out.size); clear hb9) | (go_at_call 56; refine (all_any _ hl64 _).mono ?_; rintro e w' ⟨rfl, rfl⟩) | (go_at_call 54; refine (KEYL.out _ _ hb8.out hw9.out).mono ?_; rintro e w10 ⟨rfl, hb10⟩))
  all_goals
    go_wp2
    go_ret
    exact ⟨ret_int hE9.out.symm, hb8.out.trans (hb10.mono hb8.out.size)⟩
end Go.Proofs.YtlhfdedjboanfaaDoor.L
