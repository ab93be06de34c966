/-
  LatOrder's walk: true of whatever lattice and points. Conditions: the library's variables lie as laid; the lattice can be read.
-/
import Derived.Test.YtjeelebppfhmlaaDoorLtAt
import Derived.Deep.RegionHeld3
import Derived.Deep.DrawnRows
namespace Go.Proofs.YtjeelebppfhmlaaDoor
open Go.RowKit Go.Shelf Go.Lt
attribute [local go_sem ↓] Go.wp_at_zero Go.wp_at_succ

set_option maxRecDepth 100000 in
set_option maxHeartbeats 4000000 in
theorem latOrder_any (A B : Option Addr) (ns : List ByteArray) (us : List Nat) (c d : Nat) (a1 a2 a3 : Int) (w : World) (hE : Env w) (hL : LatAt w A B c ns us) (h1 : 0 ≤ a1 ∧ a1 < 256) (h2 : 0 ≤ a2 ∧ a2 < 256) (h3 : 0 ≤ a3 ∧ a3 < 256) :
    Calls Tryd.prog 4 #[.agg #[.slice A ns.length c, .slice B us.length d], .int .u8 a1, .int .u8 a2, .int .u8 a3] w fun e w' => e = .returned (.bool true) ∧ Below w.heap.size w w' := by
  have hX := Lib.hid (At.new (d := d) hE hL)
  have hnl := hL.nlen
  clear hE hL
  go_enter Tryd.func4, Tryd.ntmps4
  go_wp2_with fail
  refine (at_examples hX.out).mono ?_
  rintro e w1 ⟨rfl, hY⟩
  clear hX
  have q1 := hY.out.box.1
  have q2 := hY.out.box.2.1
  go_wp2_with fail
  clear q1 q2
  cases hR : rightB ns us with
  | false =>
    refine (at_right hY.out hR).mono ?_
    rintro e w2 ⟨rfl, hX⟩
    clear hY
    have q1 := hX.out.box.1
    have q2 := hX.out.box.2.1
    have hR := Lib.hid hR
    go_wp2_with fail
    clear q1 q2
    refine (at_bottom hX.out (no_bottom hR.out)).mono ?_
    rintro e w3 ⟨rfl, hY⟩
    clear hX
    have q1 := hY.out.box.1
    have q2 := hY.out.box.2.1
    go_wp2_with fail
    clear q1 q2
    refine (at_top hY.out (no_top hR.out)).mono ?_
    rintro e w4 ⟨rfl, hX⟩
    clear hY
    have q1 := hX.out.box.1
    have q2 := hX.out.box.2.1
    go_wp2_with fail
    clear q1 q2
    refine (at_no hX.out hR.out).mono ?_
    rintro e w5 ⟨rfl, hY⟩
    go_wp2_with fail
    go_ret
    exact ⟨rfl, hY.out.below⟩
  | true =>
    refine (at_right hY.out hR).mono ?_
    rintro e w2 ⟨rfl, hX⟩
    clear hY
    have q1 := hX.out.box.1
    have q2 := hX.out.box.2.1
    obtain ⟨J, M, z, t, hT⟩ := told_of hX.out.lat.w64 hR
    obtain ⟨x, ex, hx⟩ := hT.modN a1
    obtain ⟨y, ey, hy⟩ := hT.modN a2
    obtain ⟨v, ev, hv⟩ := hT.modN a3
    have hT := Lib.hid hT
    have hR := Lib.hid hR
    have hx := Lib.hid hx
    have hy := Lib.hid hy
    have hv := Lib.hid hv
    have ex := Lib.hid ex
    have ey := Lib.hid ey
    have ev := Lib.hid ev
    have hpos : 1 ≤ ns.length := by have := hT.out.pos; have := hT.out.eqn; omega
    go_wp2_with fail
    rw [ex.out, ey.out, ev.out]
    clear q1 q2 ex ey ev h1 h2 h3
    refine (at_leq hX.out x x (hT.out.le (hT.out.lat.ord.refl x hx.out) hx.out hx.out)).mono ?_
    rintro e w11 ⟨rfl, hX11⟩
    clear hX
    have q1 := hX11.out.box.1
    have q2 := hX11.out.box.2.1
    go_wp2_with fail
    clear q1 q2
    have E1 := Lib.hid (hT.out.le (hT.out.isZ x hx.out) hT.out.z_lt hx.out)
    have E2 := Lib.hid (hT.out.le (hT.out.isT x hx.out) hx.out hT.out.t_lt)
    have E3 : Hid (leqB ns.length us (x : Int) (ns.length : Int) = false) := far_no
    have E4 : Hid (leqB ns.length us (-1) (x : Int) = false) := low_no
    cases kxy : le us x y with
    | false =>
      have kxy := Lib.hid kxy
      refine (at_leq hX11.out x y (hT.out.le kxy.out hx.out hy.out)).mono ?_
      rintro e w12 ⟨rfl, hX12⟩
      clear hX11
      have q1 := hX12.out.box.1
      have q2 := hX12.out.box.2.1
      go_wp2_with fail
      clear q1 q2
      refine (at_leq hX12.out x y (hT.out.le kxy.out hx.out hy.out)).mono ?_
      rintro e w13 ⟨rfl, hX13⟩
      clear hX12
      have q1 := hX13.out.box.1
      have q2 := hX13.out.box.2.1
      go_wp2_with fail
      clear q1 q2
      have hX := Lib.hid hX13.out.drew
      clear hX13
      have q1 := hX.out.box.1
      have q2 := hX.out.box.2.1
      go_region_held3 (fun w' => w'.cell? ⟨w.heap.size, 0, none⟩ = some (.slice A ns.length c) ∧ w'.cell? ⟨w.heap.size, 1, none⟩ = some (.slice B us.length d)) (exact ⟨q1, q2⟩) (first | (go_at_call 26; have hO := hX; clear hX q1 q2; refine (at_bottom hO.out hT.out.bottom).mono ?_; clear hO; rintro e w9 ⟨rfl, hX⟩; have q1 := hX.out.box.1; have q2 := hX.out.box.2.1) | (go_at_call 28; have hO := hX; clear hX q1 q2; refine (at_top hO.out hT.out.top).mono ?_; clear hO; rintro e w9 ⟨rfl, hX⟩; have q1 := hX.out.box.1; have q2 := hX.out.box.2.1) | (go_at_call 16; have hO := hX; clear hX q1 q2; refine (at_leq hO.out _ _ rfl).mono ?_; clear hO; rintro e w9 ⟨he, hX⟩; (first | rw [E1.out] at he | rw [E2.out] at he | rw [E3.out] at he | rw [E4.out] at he); subst he; have q1 := hX.out.box.1; have q2 := hX.out.box.2.1))
      all_goals
        go_wp2
        go_ret
        exact ⟨rfl, hX.out.below⟩
    | true =>
      have kxy := Lib.hid kxy
      refine (at_leq hX11.out x y (hT.out.le kxy.out hx.out hy.out)).mono ?_
      rintro e w14 ⟨rfl, hX14⟩
      clear hX11
      have q1 := hX14.out.box.1
      have q2 := hX14.out.box.2.1
      go_wp2_with fail
      clear q1 q2
      by_cases hq : x = y
      · subst hq
        refine (at_leq hX14.out x x (hT.out.le kxy.out hx.out hx.out)).mono ?_
        rintro e w15 ⟨rfl, hX15⟩
        clear hX14
        have q1 := hX15.out.box.1
        have q2 := hX15.out.box.2.1
        go_wp2_with fail
        clear q1 q2
        refine (at_leq hX15.out x x (hT.out.le kxy.out hx.out hx.out)).mono ?_
        rintro e w16 ⟨rfl, hX16⟩
        clear hX15
        have q1 := hX16.out.box.1
        have q2 := hX16.out.box.2.1
        go_wp2_with fail
        clear q1 q2
        cases kyz : le us x v with
        | false =>
          have kyz := Lib.hid kyz
          refine (at_leq hX16.out x v (hT.out.le kyz.out hx.out hv.out)).mono ?_
          rintro e w17 ⟨rfl, hX17⟩
          clear hX16
          have q1 := hX17.out.box.1
          have q2 := hX17.out.box.2.1
          go_wp2_with fail
          clear q1 q2
          have hX := Lib.hid hX17.out.drew
          clear hX17
          have q1 := hX.out.box.1
          have q2 := hX.out.box.2.1
          go_region_held3 (fun w' => w'.cell? ⟨w.heap.size, 0, none⟩ = some (.slice A ns.length c) ∧ w'.cell? ⟨w.heap.size, 1, none⟩ = some (.slice B us.length d)) (exact ⟨q1, q2⟩) (first | (go_at_call 26; have hO := hX; clear hX q1 q2; refine (at_bottom hO.out hT.out.bottom).mono ?_; clear hO; rintro e w9 ⟨rfl, hX⟩; have q1 := hX.out.box.1; have q2 := hX.out.box.2.1) | (go_at_call 28; have hO := hX; clear hX q1 q2; refine (at_top hO.out hT.out.top).mono ?_; clear hO; rintro e w9 ⟨rfl, hX⟩; have q1 := hX.out.box.1; have q2 := hX.out.box.2.1) | (go_at_call 16; have hO := hX; clear hX q1 q2; refine (at_leq hO.out _ _ rfl).mono ?_; clear hO; rintro e w9 ⟨he, hX⟩; (first | rw [E1.out] at he | rw [E2.out] at he | rw [E3.out] at he | rw [E4.out] at he); subst he; have q1 := hX.out.box.1; have q2 := hX.out.box.2.1))
          all_goals
            go_wp2
            go_ret
            exact ⟨rfl, hX.out.below⟩
        | true =>
          have kyz := Lib.hid kyz
          refine (at_leq hX16.out x v (hT.out.le kyz.out hx.out hv.out)).mono ?_
          rintro e w18 ⟨rfl, hX18⟩
          clear hX16
          have q1 := hX18.out.box.1
          have q2 := hX18.out.box.2.1
          go_wp2_with fail
          clear q1 q2
          refine (at_leq hX18.out x v (hT.out.le kyz.out hx.out hv.out)).mono ?_
          rintro e w19 ⟨rfl, hX19⟩
          clear hX18
          have q1 := hX19.out.box.1
          have q2 := hX19.out.box.2.1
          go_wp2_with fail
          clear q1 q2
          have hX := Lib.hid hX19.out.drew
          clear hX19
          have q1 := hX.out.box.1
          have q2 := hX.out.box.2.1
          go_region_held3 (fun w' => w'.cell? ⟨w.heap.size, 0, none⟩ = some (.slice A ns.length c) ∧ w'.cell? ⟨w.heap.size, 1, none⟩ = some (.slice B us.length d)) (exact ⟨q1, q2⟩) (first | (go_at_call 26; have hO := hX; clear hX q1 q2; refine (at_bottom hO.out hT.out.bottom).mono ?_; clear hO; rintro e w9 ⟨rfl, hX⟩; have q1 := hX.out.box.1; have q2 := hX.out.box.2.1) | (go_at_call 28; have hO := hX; clear hX q1 q2; refine (at_top hO.out hT.out.top).mono ?_; clear hO; rintro e w9 ⟨rfl, hX⟩; have q1 := hX.out.box.1; have q2 := hX.out.box.2.1) | (go_at_call 16; have hO := hX; clear hX q1 q2; refine (at_leq hO.out _ _ rfl).mono ?_; clear hO; rintro e w9 ⟨he, hX⟩; (first | rw [E1.out] at he | rw [E2.out] at he | rw [E3.out] at he | rw [E4.out] at he); subst he; have q1 := hX.out.box.1; have q2 := hX.out.box.2.1))
          all_goals
            go_wp2
            go_ret
            exact ⟨rfl, hX.out.below⟩
      · have kyx : le us y x = false := by
          cases h : le us y x with
          | false => rfl
          | true => exact absurd (hT.out.lat.ord.anti x y kxy.out h) hq
        have kyx := Lib.hid kyx
        refine (at_leq hX14.out y x (hT.out.le kyx.out hy.out hx.out)).mono ?_
        rintro e w20 ⟨rfl, hX20⟩
        clear hX14
        have q1 := hX20.out.box.1
        have q2 := hX20.out.box.2.1
        go_wp2_with fail
        clear q1 q2
        refine (at_leq hX20.out x y (hT.out.le kxy.out hx.out hy.out)).mono ?_
        rintro e w21 ⟨rfl, hX21⟩
        clear hX20
        have q1 := hX21.out.box.1
        have q2 := hX21.out.box.2.1
        go_wp2_with fail
        clear q1 q2
        cases kyz : le us y v with
        | false =>
          have kyz := Lib.hid kyz
          refine (at_leq hX21.out y v (hT.out.le kyz.out hy.out hv.out)).mono ?_
          rintro e w22 ⟨rfl, hX22⟩
          clear hX21
          have q1 := hX22.out.box.1
          have q2 := hX22.out.box.2.1
          go_wp2_with fail
          clear q1 q2
          have hX := Lib.hid hX22.out.drew
          clear hX22
          have q1 := hX.out.box.1
          have q2 := hX.out.box.2.1
          go_region_held3 (fun w' => w'.cell? ⟨w.heap.size, 0, none⟩ = some (.slice A ns.length c) ∧ w'.cell? ⟨w.heap.size, 1, none⟩ = some (.slice B us.length d)) (exact ⟨q1, q2⟩) (first | (go_at_call 26; have hO := hX; clear hX q1 q2; refine (at_bottom hO.out hT.out.bottom).mono ?_; clear hO; rintro e w9 ⟨rfl, hX⟩; have q1 := hX.out.box.1; have q2 := hX.out.box.2.1) | (go_at_call 28; have hO := hX; clear hX q1 q2; refine (at_top hO.out hT.out.top).mono ?_; clear hO; rintro e w9 ⟨rfl, hX⟩; have q1 := hX.out.box.1; have q2 := hX.out.box.2.1) | (go_at_call 16; have hO := hX; clear hX q1 q2; refine (at_leq hO.out _ _ rfl).mono ?_; clear hO; rintro e w9 ⟨he, hX⟩; (first | rw [E1.out] at he | rw [E2.out] at he | rw [E3.out] at he | rw [E4.out] at he); subst he; have q1 := hX.out.box.1; have q2 := hX.out.box.2.1))
          all_goals
            go_wp2
            go_ret
            exact ⟨rfl, hX.out.below⟩
        | true =>
          have kyz := Lib.hid kyz
          have kxz := Lib.hid (hT.out.lat.ord.trans x y v kxy.out kyz.out)
          refine (at_leq hX21.out y v (hT.out.le kyz.out hy.out hv.out)).mono ?_
          rintro e w23 ⟨rfl, hX23⟩
          clear hX21
          have q1 := hX23.out.box.1
          have q2 := hX23.out.box.2.1
          go_wp2_with fail
          clear q1 q2
          refine (at_leq hX23.out x v (hT.out.le kxz.out hx.out hv.out)).mono ?_
          rintro e w24 ⟨rfl, hX24⟩
          clear hX23
          have q1 := hX24.out.box.1
          have q2 := hX24.out.box.2.1
          go_wp2_with fail
          clear q1 q2
          have hX := Lib.hid hX24.out.drew
          clear hX24
          have q1 := hX.out.box.1
          have q2 := hX.out.box.2.1
          go_region_held3 (fun w' => w'.cell? ⟨w.heap.size, 0, none⟩ = some (.slice A ns.length c) ∧ w'.cell? ⟨w.heap.size, 1, none⟩ = some (.slice B us.length d)) (exact ⟨q1, q2⟩) (first | (go_at_call 26; have hO := hX; clear hX q1 q2; refine (at_bottom hO.out hT.out.bottom).mono ?_; clear hO; rintro e w9 ⟨rfl, hX⟩; have q1 := hX.out.box.1; have q2 := hX.out.box.2.1) | (go_at_call 28; have hO := hX; clear hX q1 q2; refine (at_top hO.out hT.out.top).mono ?_; clear hO; rintro e w9 ⟨rfl, hX⟩; have q1 := hX.out.box.1; have q2 := hX.out.box.2.1) | (go_at_call 16; have hO := hX; clear hX q1 q2; refine (at_leq hO.out _ _ rfl).mono ?_; clear hO; rintro e w9 ⟨he, hX⟩; (first | rw [E1.out] at he | rw [E2.out] at he | rw [E3.out] at he | rw [E4.out] at he); subst he; have q1 := hX.out.box.1; have q2 := hX.out.box.2.1))
          all_goals
            go_wp2
            go_ret
            exact ⟨rfl, hX.out.below⟩
end Go.Proofs.YtjeelebppfhmlaaDoor
