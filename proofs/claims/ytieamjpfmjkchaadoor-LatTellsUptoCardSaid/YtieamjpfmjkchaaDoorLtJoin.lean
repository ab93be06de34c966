/-
  lat.Join, lat.Meet, lat.Bottom, lat.Top. Conditions: the lattice's slices can be read; the library's table lies as laid.
-/
import Derived.Test.YtieamjpfmjkchaaDoorLtRight
import Derived.Test.YtieamjpfmjkchaaDoorLtTurn
import Derived.StillTailTactics
namespace Go.Proofs.YtieamjpfmjkchaaDoor
open Go.RowKit Go.Shelf Go.Lt

def joinI (ns : List ByteArray) (us : List Nat) (a b : Int) : Int :=
  if rightB ns us && pointB ns.length us.length a && pointB ns.length us.length b then least us (row us a.toNat &&& row us b.toNat) else -1

theorem right_parts {ns : List ByteArray} {us : List Nat} (h : rightB ns us = true) : 1 ≤ ns.length ∧ ns.length ≤ 64 ∧ us.length = ns.length ∧ namedB ns = true ∧ within us = true ∧ ordered us = true ∧ complete us = true := by
  unfold rightB at h
  simp only [Bool.and_eq_true, decide_eq_true_eq] at h
  obtain ⟨⟨⟨⟨⟨⟨h1, h2⟩, h3⟩, h4⟩, h5⟩, h6⟩, h7⟩ := h
  exact ⟨h1, h2, h3, h4, h5, h6, h7⟩

theorem box_two (w : World) (u v : Value) (t : TypeId) : (w.alloc (.cells #[u, v] t)).cell? ⟨w.heap.size, 0, none⟩ = some u ∧ (w.alloc (.cells #[u, v] t)).cell? ⟨w.heap.size, 1, none⟩ = some v := by
  have h := World.alloc_heap_new w (.cells #[u, v] t)
  exact ⟨cell_of_row _ w.heap.size 0 _ _ _ h, cell_of_row _ w.heap.size 1 _ _ _ h⟩

set_option maxRecDepth 100000 in
set_option maxHeartbeats 1000000 in
theorem join_any (A B : Option Addr) (ns : List ByteArray) (us : List Nat) (c d : Nat) (a b : Int) (w : World) (hE : Env w) (hL : LatAt w A B c ns us) :
    Calls Tryd.prog 23 #[.agg #[.slice A ns.length c, .slice B us.length d], .int .i64 a, .int .i64 b] w fun e w' => e = .returned (.int .i64 (joinI ns us a b)) ∧ Below w.heap.size w w' := by
  have hnl := hL.nlen
  have hul := hL.ulen
  have hb0 : Below w.heap.size w (w.alloc (.cells #[.slice A ns.length c, .slice B us.length d] 25)) := (Below.refl _ _).alloc (Nat.le_refl _) _
  have keyR := Lib.hid (right_any A B ns us c d _ (hE.later hb0) (hL.later hb0))
  by_cases h1 : rightB ns us = true
  case neg =>
    have h1 : rightB ns us = false := by simpa using h1
    have hE9 : Hid (joinI ns us a b = -1) := by
      show joinI ns us a b = -1
      unfold joinI; simp [h1]
    have HB0 := Lib.hid hb0
    clear hb0
    go_enter Tryd.func23, Tryd.ntmps23
    go_wp2_with (go_at_call 15; refine keyR.out.mono ?_; rintro e w1 ⟨rfl, hb1⟩)
    go_ret
    exact ⟨ret_int hE9.out.symm, HB0.out.trans (hb1.mono (by simp))⟩
  have hpost : ∀ w1, Below (w.alloc (.cells #[.slice A ns.length c, .slice B us.length d] 25)).heap.size (w.alloc (.cells #[.slice A ns.length c, .slice B us.length d] 25)) w1 →
      (w1.cell? ⟨w.heap.size, 0, none⟩ = some (.slice A ns.length c) ∧ w1.cell? ⟨w.heap.size, 1, none⟩ = some (.slice B us.length d)) ∧ w.heap.size < w1.heap.size ∧ w.heap.size < w1.heap.size + 1 ∧ w.heap.size < w1.heap.size + 1 + 1 ∧ Hid (Below w.heap.size w w1) := fun w1 hb1 => by
    have hx := box_two w (.slice A ns.length c) (.slice B us.length d) 25
    have hs := hb1.size
    simp only [World.size_alloc] at hs
    exact ⟨⟨(hb1.cell (p := ⟨w.heap.size, 0, none⟩) (by simp)).trans hx.1, (hb1.cell (p := ⟨w.heap.size, 1, none⟩) (by simp)).trans hx.2⟩, by omega, by omega, by omega, hb0.trans (hb1.mono (by simp))⟩
  have HP := Lib.hid hpost
  clear hpost hb0
  by_cases h2 : pointB ns.length us.length a = true
  case neg =>
    have h2 : pointB ns.length us.length a = false := by simpa using h2
    have hE9 : Hid (joinI ns us a b = -1) := by
      show joinI ns us a b = -1
      unfold joinI; simp [h2]
    go_enter Tryd.func23, Tryd.ntmps23
    go_wp2_with (first | (go_at_call 15; refine keyR.out.mono ?_; rintro e w1 ⟨rfl, hb1⟩; obtain ⟨⟨x1, x2⟩, x3, x4, x5, x6⟩ := HP.out w1 hb1; clear hb1) | (go_at_call 47; refine (point_any _ _ _ _ _ _ _ _).mono ?_; rintro e w2 ⟨rfl, rfl⟩))
    go_ret
    exact ⟨ret_int hE9.out.symm, x6.out.alloc (by omega) _⟩
  by_cases h3 : pointB ns.length us.length b = true
  case neg =>
    have h3 : pointB ns.length us.length b = false := by simpa using h3
    have hE9 : Hid (joinI ns us a b = -1) := by
      show joinI ns us a b = -1
      unfold joinI; simp [h3]
    go_enter Tryd.func23, Tryd.ntmps23
    go_wp2_with (first | (go_at_call 15; refine keyR.out.mono ?_; rintro e w1 ⟨rfl, hb1⟩; obtain ⟨⟨x1, x2⟩, x3, x4, x5, x6⟩ := HP.out w1 hb1; clear hb1) | (go_at_call 47; refine (point_any _ _ _ _ _ _ _ _).mono ?_; rintro e w2 ⟨rfl, rfl⟩))
    go_ret
    exact ⟨ret_int hE9.out.symm, (x6.out.alloc (by omega) _).alloc (by simp; omega) _⟩
  have e1 : 0 ≤ a ∧ a < ns.length ∧ a < us.length := by simpa [pointB] using h2
  have e2 : 0 ≤ b ∧ b < ns.length ∧ b < us.length := by simpa [pointB] using h3
  obtain ⟨ka, rfl⟩ := Int.eq_ofNat_of_zero_le e1.1
  obtain ⟨kb, rfl⟩ := Int.eq_ofNat_of_zero_le e2.1
  have hlta : ka < us.length := by omega
  have hltb : kb < us.length := by omega
  clear e1 e2
  obtain ⟨q1, q2, q3, q4, q5, q6, q7⟩ := right_parts h1
  have hl64 : us.length ≤ 64 := by omega
  have hin := within_in hL.w64 hl64 q5
  have h64a := hL.w64 ka
  have h64b := hL.w64 kb
  have hbits := u64_and_nat (row us ka) (row us kb) h64a h64b
  have hE9 : Hid (joinI ns us ka kb = least us (row us ka &&& row us kb)) := by
    show joinI ns us ka kb = _
    unfold joinI; simp [h1, h2, h3]
  have keyL : ∀ W, Below w.heap.size w W → Calls Tryd.prog 52 #[.slice B us.length d, .int .u64 (row us ka &&& row us kb : Nat)] W fun e w' => e = .returned (.int .i64 (least us (row us ka &&& row us kb))) ∧ Below W.heap.size W w' := fun W hb =>
    least_any B us d _ W (hE.later hb) (hL.later hb).words hL.w64 (Nat.lt_of_le_of_lt Nat.and_le_left h64a) hl64 (fun p hp => testBit_lt (and_lt (hin ka hlta)) hp)
  have KEYL := Lib.hid keyL
  clear keyL hin q1 q2 q3 q4 q5 q6 q7
  obtain ⟨bb, off, rfl, hb, hc⟩ := hL.words (by intro e; subst e; simp at hlta)
  have hcell : ∀ W, Below w.heap.size w W → W.cell? ⟨bb, off + ka, none⟩ = some (.int .u64 (row us ka : Nat)) ∧ W.cell? ⟨bb, off + kb, none⟩ = some (.int .u64 (row us kb : Nat)) := fun W hB =>
    ⟨(hB.cell (p := ⟨bb, off + ka, none⟩) hb).trans (hc ka hlta), (hB.cell (p := ⟨bb, off + kb, none⟩) hb).trans (hc kb hltb)⟩
  have HC := Lib.hid hcell
  clear hcell hc
  go_enter Tryd.func23, Tryd.ntmps23
  go_wp2_with (first | (go_at_call 15; refine keyR.out.mono ?_; rintro e w1 ⟨rfl, hb1⟩; obtain ⟨⟨x1, x2⟩, x3, x4, x5, x6⟩ := HP.out w1 hb1; clear hb1) | (go_at_call 47; refine (point_any _ _ _ _ _ _ _ _).mono ?_; rintro e w2 ⟨rfl, rfl⟩))
  obtain ⟨W, hW⟩ : ∃ W, (w1.alloc (.cells #[.slice A ns.length c, .slice (some ⟨bb, off, none⟩) us.length d] 25)).alloc (.cells #[.slice A ns.length c, .slice (some ⟨bb, off, none⟩) us.length d] 25) = W := ⟨_, rfl⟩
  have hBW : Below w.heap.size w W := by rw [← hW]; exact (x6.out.alloc (by omega) _).alloc (by simp; omega) _
  have hxW : W.cell? ⟨w.heap.size, 1, none⟩ = some (.slice (some ⟨bb, off, none⟩) us.length d) := by
    rw [← hW]; exact (World.cell?_alloc_lt _ _ ⟨w.heap.size, 1, none⟩ (by simp; omega)).trans ((World.cell?_alloc_lt _ _ ⟨w.heap.size, 1, none⟩ (by simp; omega)).trans x2)
  obtain ⟨y1, y2⟩ := HC.out W hBW
  rw [hW]
  clear hW
  have HBW := Lib.hid hBW
  clear hBW
  go_still_tail 13, (by kernel_rfl)
  change wpList _ _ _ _ _ W.drew
  go_wp2_with (go_at_call 52; refine (KEYL.out _ HBW.out.drew).mono ?_; rintro e w9 ⟨rfl, hb9⟩)
  go_ret
  exact ⟨ret_int hE9.out.symm, HBW.out.drew.trans (hb9.mono HBW.out.size)⟩
end Go.Proofs.YtieamjpfmjkchaaDoor
