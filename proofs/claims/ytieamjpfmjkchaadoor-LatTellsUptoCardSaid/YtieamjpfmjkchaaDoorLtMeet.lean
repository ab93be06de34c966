/-
  lat.Meet. Conditions: the lattice's slices can be read; the library's table lies as laid.
-/
import Derived.Test.YtieamjpfmjkchaaDoorLtJoin
namespace Go.Proofs.YtieamjpfmjkchaaDoor
open Go.RowKit Go.Shelf Go.Lt

def meetI (ns : List ByteArray) (us : List Nat) (a b : Int) : Int :=
  if rightB ns us && pointB ns.length us.length a && pointB ns.length us.length b then least (turnedL us) (row (turnedL us) a.toNat &&& row (turnedL us) b.toNat) else -1

set_option maxRecDepth 100000 in
set_option maxHeartbeats 1000000 in
theorem meet_any (A B : Option Addr) (ns : List ByteArray) (us : List Nat) (c d : Nat) (a b : Int) (w : World) (hE : Env w) (hL : LatAt w A B c ns us) :
    Calls Tryd.prog 25 #[.agg #[.slice A ns.length c, .slice B us.length d], .int .i64 a, .int .i64 b] w fun e w' => e = .returned (.int .i64 (meetI ns us a b)) ∧ Below w.heap.size w w' := by
  have hnl := hL.nlen
  have hul := hL.ulen
  have hb0 : Below w.heap.size w (w.alloc (.cells #[.slice A ns.length c, .slice B us.length d] 25)) := (Below.refl _ _).alloc (Nat.le_refl _) _
  have keyR := Lib.hid (right_any A B ns us c d _ (hE.later hb0) (hL.later hb0))
  by_cases h1 : rightB ns us = true
  case neg =>
    have h1 : rightB ns us = false := by simpa using h1
    have hE9 : Hid (meetI ns us a b = -1) := by
      show meetI ns us a b = -1
      unfold meetI; simp [h1]
    have HB0 := Lib.hid hb0
    clear hb0
    go_enter Tryd.func25, Tryd.ntmps25
    go_wp2_with (go_at_call 15; refine keyR.out.mono ?_; rintro e w1 ⟨rfl, hb1⟩)
    go_ret
    exact ⟨ret_int hE9.out.symm, HB0.out.trans (hb1.mono (by simp))⟩
  have hpost : ∀ w1, Below (w.alloc (.cells #[.slice A ns.length c, .slice B us.length d] 25)).heap.size (w.alloc (.cells #[.slice A ns.length c, .slice B us.length d] 25)) w1 →
      (w1.cell? ⟨w.heap.size, 0, none⟩ = some (.slice A ns.length c) ∧ w1.cell? ⟨w.heap.size, 1, none⟩ = some (.slice B us.length d)) ∧ w.heap.size < w1.heap.size ∧ w.heap.size < w1.heap.size + 1 ∧ w.heap.size < w1.heap.size + 1 + 1 ∧ Hid (Below w.heap.size w w1) := fun w1 hb1 => by
    have hx := box_two w (.slice A ns.length c) (.slice B us.length d) 25
    have hs := hb1.size
    simp only [World.size_alloc] at hs
    exact ⟨⟨(hb1.cell (p := ⟨w.heap.size, 0, none⟩) (by simp)).trans hx.1, (hb1.cell (p := ⟨w.heap.size, 1, none⟩) (by simp)).trans hx.2⟩, by omega, by omega, by omega, hb0.trans (hb1.mono (by simp))⟩
  have HP := Lib.hid hpost
  clear hpost hb0
  by_cases h2 : pointB ns.length us.length a = true
  case neg =>
    have h2 : pointB ns.length us.length a = false := by simpa using h2
    have hE9 : Hid (meetI ns us a b = -1) := by
      show meetI ns us a b = -1
      unfold meetI; simp [h2]
    go_enter Tryd.func25, Tryd.ntmps25
    go_wp2_with (first | (go_at_call 15; refine keyR.out.mono ?_; rintro e w1 ⟨rfl, hb1⟩; obtain ⟨⟨x1, x2⟩, x3, x4, x5, x6⟩ := HP.out w1 hb1; clear hb1) | (go_at_call 47; refine (point_any _ _ _ _ _ _ _ _).mono ?_; rintro e w2 ⟨rfl, rfl⟩))
    go_ret
    exact ⟨ret_int hE9.out.symm, x6.out.alloc (by omega) _⟩
  by_cases h3 : pointB ns.length us.length b = true
  case neg =>
    have h3 : pointB ns.length us.length b = false := by simpa using h3
    have hE9 : Hid (meetI ns us a b = -1) := by
      show meetI ns us a b = -1
      unfold meetI; simp [h3]
    go_enter Tryd.func25, Tryd.ntmps25
    go_wp2_with (first | (go_at_call 15; refine keyR.out.mono ?_; rintro e w1 ⟨rfl, hb1⟩; obtain ⟨⟨x1, x2⟩, x3, x4, x5, x6⟩ := HP.out w1 hb1; clear hb1) | (go_at_call 47; refine (point_any _ _ _ _ _ _ _ _).mono ?_; rintro e w2 ⟨rfl, rfl⟩))
    go_ret
    exact ⟨ret_int hE9.out.symm, (x6.out.alloc (by omega) _).alloc (by simp; omega) _⟩
  have e1 : 0 ≤ a ∧ a < ns.length ∧ a < us.length := by simpa [pointB] using h2
  have e2 : 0 ≤ b ∧ b < ns.length ∧ b < us.length := by simpa [pointB] using h3
  obtain ⟨ka, rfl⟩ := Int.eq_ofNat_of_zero_le e1.1
  obtain ⟨kb, rfl⟩ := Int.eq_ofNat_of_zero_le e2.1
  have hlta : ka < us.length := by omega
  have hltb : kb < us.length := by omega
  clear e1 e2
  obtain ⟨q1, q2, q3, q4, q5, q6, q7⟩ := right_parts h1
  have hl64 : us.length ≤ 64 := by omega
  have hin := within_in hL.w64 hl64 q5
  have hT64 := W64.turned us hl64
  have h64a := hT64 ka
  have h64b := hT64 kb
  have hbits := u64_and_nat (row (turnedL us) ka) (row (turnedL us) kb) h64a h64b
  have hE9 : Hid (meetI ns us ka kb = least (turnedL us) (row (turnedL us) ka &&& row (turnedL us) kb)) := by
    show meetI ns us ka kb = _
    unfold meetI; simp [h1, h2, h3]
  have keyT : ∀ W, Below w.heap.size w W → Calls Tryd.prog 54 #[.slice B us.length d] W fun e w' => e = .returned (.slice (some ⟨W.heap.size, 0, none⟩) us.length us.length) ∧ Hid (Words w' w'.heap.size (some ⟨W.heap.size, 0, none⟩) (turnedL us)) ∧ Below W.heap.size W w' := fun W hb =>
    turned_any B us d W (hE.later hb) (hL.later hb).words hL.w64 hl64 hin
  have KEYT := Lib.hid keyT
  clear keyT
  have keyL : ∀ (W W0 : World), Below w.heap.size w W → Words W W.heap.size (some ⟨W0.heap.size, 0, none⟩) (turnedL us) → Calls Tryd.prog 52 #[.slice (some ⟨W0.heap.size, 0, none⟩) us.length us.length, .int .u64 (row (turnedL us) ka &&& row (turnedL us) kb : Nat)] W fun e w' => e = .returned (.int .i64 (least (turnedL us) (row (turnedL us) ka &&& row (turnedL us) kb))) ∧ Below W.heap.size W w' := fun W W0 hb hw => by
    have := least_any (some ⟨W0.heap.size, 0, none⟩) (turnedL us) us.length (row (turnedL us) ka &&& row (turnedL us) kb) W (hE.later hb) hw hT64 (Nat.lt_of_le_of_lt Nat.and_le_left h64a) (by rw [turnedL_length]; exact hl64) (fun p hp => by
      rw [turnedL_length]
      rw [Nat.testBit_and, row_turned us ka hlta, down_bit] at hp
      simp at hp
      exact hp.1.1)
    rw [turnedL_length] at this
    exact this
  have KEYL := Lib.hid keyL
  clear keyL hin q1 q2 q3 q4 q5 q6 q7
  go_enter Tryd.func25, Tryd.ntmps25
  go_wp2_with (first | (go_at_call 15; refine keyR.out.mono ?_; rintro e w1 ⟨rfl, hb1⟩; obtain ⟨⟨x1, x2⟩, x3, x4, x5, x6⟩ := HP.out w1 hb1; clear hb1) | (go_at_call 47; refine (point_any _ _ _ _ _ _ _ _).mono ?_; rintro e w2 ⟨rfl, rfl⟩))
  obtain ⟨W, hW⟩ : ∃ W, (w1.alloc (.cells #[.slice A ns.length c, .slice B us.length d] 25)).alloc (.cells #[.slice A ns.length c, .slice B us.length d] 25) = W := ⟨_, rfl⟩
  have hBW : Below w.heap.size w W := by rw [← hW]; exact (x6.out.alloc (by omega) _).alloc (by simp; omega) _
  have hxW : W.cell? ⟨w.heap.size, 1, none⟩ = some (.slice B us.length d) := by
    rw [← hW]; exact (World.cell?_alloc_lt _ _ ⟨w.heap.size, 1, none⟩ (by simp; omega)).trans ((World.cell?_alloc_lt _ _ ⟨w.heap.size, 1, none⟩ (by simp; omega)).trans x2)
  have HBW := Lib.hid hBW
  rw [hW]
  clear hW x1 x2 hBW
  refine (KEYT.out W HBW.out).mono ?_
  rintro e w9 ⟨rfl, hw9, hb9⟩
  have hB9 : Hid (Below w.heap.size w w9) := HBW.out.trans (hb9.mono HBW.out.size)
  have hcells : ∀ j, j < us.length → w9.cell? ⟨W.heap.size, j, none⟩ = some (.int .u64 (row (turnedL us) j : Nat)) := fun j hj => by
    obtain ⟨b, off, hA, _, hc⟩ := hw9.out (by intro e; have := turnedL_length us; rw [e] at this; simp at this; omega)
    cases hA
    have := hc j (by rw [turnedL_length]; exact hj)
    rwa [Nat.zero_add] at this
  have y1 := hcells ka hlta
  have y2 := hcells kb hltb
  clear hcells hb9
  go_wp2_with fail
  go_still_tail 10, (by kernel_rfl)
  change wpList _ _ _ _ _ w9.drew
  go_wp2_with (go_at_call 52; refine (KEYL.out _ W hB9.out.drew hw9.out).mono ?_; rintro e w10 ⟨rfl, hb10⟩)
  go_ret
  exact ⟨ret_int hE9.out.symm, hB9.out.drew.trans (hb10.mono hB9.out.size)⟩
end Go.Proofs.YtieamjpfmjkchaaDoor
