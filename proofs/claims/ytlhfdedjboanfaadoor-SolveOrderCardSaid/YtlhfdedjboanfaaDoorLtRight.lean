/-
  lat.Right, and what hangs on it: lat.Join, lat.Meet (over lat.turned), lat.Bottom, lat.Top. Conditions: the lattice's slices can be read; the library's table lies as laid.
-/
import Derived.Test.YtlhfdedjboanfaaDoorLtOrd
import Derived.Test.YtlhfdedjboanfaaDoorLtComp
namespace Go.Proofs.YtlhfdedjboanfaaDoor.L
open Go.RowKit Go.Shelf Go.Lt

structure LatAt (w : World) (A B : Option Addr) (c : Nat) (ns : List ByteArray) (us : List Nat) : Prop where
  names : Strs w w.heap.size A ns
  words : Words w w.heap.size B us
  w64 : W64 us
  smax : SMax ns
  nlen : ns.length ≤ 9223372036854775807
  ncap : ns.length ≤ c
  ccap : c ≤ 9223372036854775807
  ulen : us.length ≤ 9223372036854775807
theorem LatAt.later {w w' : World} {A B : Option Addr} {c : Nat} {ns : List ByteArray} {us : List Nat} (h : LatAt w A B c ns us) (hb : Below w.heap.size w w') : LatAt w' A B c ns us :=
  { h with names := h.names.below hb.size hb, words := h.words.below hb.size hb }

def rightB (ns : List ByteArray) (us : List Nat) : Bool :=
  decide (1 ≤ ns.length) && decide (ns.length ≤ 64) && decide (us.length = ns.length) && namedB ns && within us && ordered us && complete us

theorem within_in {us : List Nat} (h64 : W64 us) (hl : us.length ≤ 64) (h : within us = true) : ∀ a, a < us.length → row us a < 2 ^ us.length := fun a ha => by
  unfold within at h
  rw [List.all_eq_true] at h
  have hm : row us a ∈ us := by
    unfold row
    rw [List.getD_eq_getElem?_getD, List.getElem?_eq_getElem ha]
    exact List.getElem_mem ha
  have h1 := (sub_iff (h64 a) (all_lt hl)).1 (h _ hm)
  refine lt_of_bits fun b hb => ?_
  cases hc : (row us a).testBit b with
  | false => rfl
  | true =>
    have := h1 b hc
    rw [all_bit] at this
    simp at this
    omega

set_option maxHeartbeats 1000000 in
theorem right_any (A B : Option Addr) (ns : List ByteArray) (us : List Nat) (c d : Nat) (w : World) (hE : Env w) (hL : LatAt w A B c ns us) :
    Calls Tryd.prog 38 #[.agg #[.slice A ns.length c, .slice B us.length d]] w fun e w' => e = .returned (.bool (rightB ns us)) ∧ Below w.heap.size w w' := by
  have hnl := hL.nlen
  have hul := hL.ulen
  have hb0 : ∀ o, Below w.heap.size w (w.alloc o) := fun o => (Below.refl _ _).alloc (Nat.le_refl _) o
  have HB0 := Lib.hid hb0
  clear hb0
  have fin : ∀ (v : Bool) W, rightB ns us = v → Below w.heap.size w W → Hid (Ending.returned (.bool v) = .returned (.bool (rightB ns us)) ∧ Below w.heap.size w W) := fun v W h hb => ⟨ret_bool h.symm, hb⟩
  have FIN := Lib.hid fin
  clear fin
  by_cases h1 : 1 ≤ ns.length
  case neg =>
    have hE9 : Hid (rightB ns us = false) := by
      show rightB ns us = false
      unfold rightB; simp [h1]
    go_enter Tryd.func38, Tryd.ntmps38
    go_wp2
    go_ret
    exact (FIN.out _ _ hE9.out (HB0.out _)).out
  by_cases h2 : ns.length ≤ 64
  case neg =>
    have hE9 : Hid (rightB ns us = false) := by
      show rightB ns us = false
      unfold rightB; simp [h2]
    go_enter Tryd.func38, Tryd.ntmps38
    go_wp2
    go_ret
    exact (FIN.out _ _ hE9.out (HB0.out _)).out
  by_cases h3 : us.length = ns.length
  case neg =>
    have hE9 : Hid (rightB ns us = false) := by
      show rightB ns us = false
      unfold rightB; simp [h3]
    have h3' : ((us.length : Int) == (ns.length : Int)) = false := beq_eq_false_iff_ne.2 (by omega)
    go_enter Tryd.func38, Tryd.ntmps38
    go_wp2
    go_ret
    exact (FIN.out _ _ hE9.out (HB0.out _)).out
  have h3' : ((us.length : Int) == (ns.length : Int)) = true := beq_iff_eq.2 (by omega)
  have hu64 : us.length ≤ 64 := by omega
  have H3 := Lib.hid h3
  clear h3
  have keyN : ∀ W, Below w.heap.size w W → Calls Tryd.prog 63 #[.slice A ns.length c] W fun e w' => e = .returned (.bool (namedB ns)) ∧ W = w' := fun W hb =>
    named_any A ns c W (hL.later hb).names hL.smax hL.nlen hL.ncap hL.ccap
  have KEYN := Lib.hid keyN
  clear keyN
  by_cases h4 : namedB ns = true
  case neg =>
    have h4 : namedB ns = false := by simpa using h4
    have hE9 : Hid (rightB ns us = false) := by
      show rightB ns us = false
      unfold rightB; simp [h4]
    go_enter Tryd.func38, Tryd.ntmps38
    go_wp2_with (go_at_call 63; refine (KEYN.out _ (HB0.out _)).mono ?_; rintro e w1 ⟨rfl, rfl⟩)
    go_ret
    exact (FIN.out _ _ hE9.out (HB0.out _)).out
  have keyW : ∀ W, Below w.heap.size w W → Calls Tryd.prog 64 #[.slice B us.length d] W fun e w' => e = .returned (.bool (within us)) ∧ W = w' := fun W hb =>
    within_any B us d W (hL.later hb).words hL.w64 hu64
  have KEYW := Lib.hid keyW
  clear keyW
  by_cases h5 : within us = true
  case neg =>
    have h5 : within us = false := by simpa using h5
    have hE9 : Hid (rightB ns us = false) := by
      show rightB ns us = false
      unfold rightB; simp [h5]
    go_enter Tryd.func38, Tryd.ntmps38
    go_wp2_with (first | (go_at_call 63; refine (KEYN.out _ (HB0.out _)).mono ?_; rintro e w1 ⟨rfl, rfl⟩) | (go_at_call 64; refine (KEYW.out _ (HB0.out _)).mono ?_; rintro e w1 ⟨rfl, rfl⟩))
    go_ret
    exact (FIN.out _ _ hE9.out (HB0.out _)).out
  have hin := within_in hL.w64 hu64 h5
  have keyO : ∀ W, Below w.heap.size w W → Calls Tryd.prog 65 #[.slice B us.length d] W fun e w' => e = .returned (.bool (ordered us)) ∧ Below W.heap.size W w' := fun W hb =>
    ordered_any B us d W (hE.later hb) (hL.later hb).words hL.w64 hu64 hin
  have KEYO := Lib.hid keyO
  clear keyO
  have keyC : ∀ W, Below w.heap.size w W → Calls Tryd.prog 66 #[.slice B us.length d] W fun e w' => e = .returned (.bool (complete us)) ∧ Below W.heap.size W w' := fun W hb =>
    complete_any B us d W (hE.later hb) (hL.later hb).words hL.w64 hu64 hin
  have KEYC := Lib.hid keyC
  clear keyC hin
  by_cases h6 : ordered us = true
  case neg =>
    have h6 : ordered us = false := by simpa using h6
    have hE9 : Hid (rightB ns us = false) := by
      show rightB ns us = false
      unfold rightB; simp [h6]
    go_enter Tryd.func38, Tryd.ntmps38
    go_wp2_with (first | (go_at_call 63; refine (KEYN.out _ (HB0.out _)).mono ?_; rintro e w1 ⟨rfl, rfl⟩) | (go_at_call 64; refine (KEYW.out _ (HB0.out _)).mono ?_; rintro e w1 ⟨rfl, rfl⟩) | (go_at_call 65; refine (KEYO.out _ (HB0.out _)).mono ?_; rintro e w1 ⟨rfl, hb1⟩))
    go_ret
    exact (FIN.out _ _ hE9.out ((HB0.out _).trans (hb1.mono (by simp)))).out
  have hE9 : Hid (rightB ns us = complete us) := by
    show rightB ns us = complete us
    have h3 := H3.out
    unfold rightB; simp [h1, h2, h3, h4, h5, h6]
  go_enter Tryd.func38, Tryd.ntmps38
  go_wp2_with (first | (go_at_call 63; refine (KEYN.out _ (HB0.out _)).mono ?_; rintro e w1 ⟨rfl, rfl⟩) | (go_at_call 64; refine (KEYW.out _ (HB0.out _)).mono ?_; rintro e w1 ⟨rfl, rfl⟩) | (go_at_call 65; refine (KEYO.out _ (HB0.out _)).mono ?_; rintro e w1 ⟨rfl, hb1⟩; obtain ⟨hc1, hf1⟩ := bcell hb1) | (go_at_call 66; refine (KEYC.out _ ((HB0.out _).trans (hb1.mono (by simp)))).mono ?_; rintro e w2 ⟨rfl, hb2⟩))
  go_ret
  exact (FIN.out _ _ hE9.out (((HB0.out _).trans (hb1.mono (by simp))).trans (hb2.mono (by have := hb1.size; simp at this; omega)))).out
end Go.Proofs.YtlhfdedjboanfaaDoor.L
