/-
  The walks of the reference's join and meet. Conditions: as many names as rows, at most 64; the two points are points.
-/
import Derived.Test.YtieamjpfmjkchaaDoorLtRf2
namespace Go.Proofs.YtieamjpfmjkchaaDoor
open Go.RowKit Go.Shelf Go.Lt

theorem joinV_yes {us : List Nat} {a b k q : Nat} (hq : q = us.length) (h : (le us a k && le us b k) = true ∧ ∀ j, j < q → joinD us a b k j = true) : joinP us a b k = true := by
  unfold joinP
  rw [h.1, Bool.true_and, List.all_eq_true]
  intro j hj
  exact h.2 j (by have := List.mem_range.1 hj; omega)
theorem joinV_no0 {us : List Nat} {a b k : Nat} (h : (le us a k && le us b k) = false) : joinP us a b k = false := by
  unfold joinP; rw [h]; rfl
theorem joinV_no {us : List Nat} {a b k q : Nat} (hq : q < us.length) (h : joinD us a b k q = false) : joinP us a b k = false := by
  unfold joinP
  have : (List.range us.length).all (joinD us a b k) = false := by
    rw [List.all_eq_false]
    exact ⟨q, List.mem_range.2 hq, by rw [h]; simp⟩
  rw [this]; simp
def joinV (us : List Nat) (a b k q : Nat) (t : Bool) : Prop := (t = true → (le us a k && le us b k) = true ∧ ∀ j, j < q → joinD us a b k j = true) ∧ (t = false → joinP us a b k = false)
theorem joinV_next {us : List Nat} {a b k q : Nat} (hq : q < us.length) (h : joinV us a b k q true) (t : Bool) (ht : joinD us a b k q = t) : joinV us a b k (q + 1) t := by
  refine ⟨fun e => ?_, fun e => ?_⟩
  · subst e
    refine ⟨(h.1 rfl).1, fun j hj => ?_⟩
    by_cases g : j < q
    · exact (h.1 rfl).2 j g
    · obtain rfl : j = q := by omega
      exact ht
  · subst e
    exact joinV_no hq ht
theorem joinV_start {us : List Nat} {a b k : Nat} (t : Bool) (ht : (le us a k && le us b k) = t) : joinV us a b k 0 t :=
  ⟨fun e => by subst e; exact ⟨ht, fun j hj => by omega⟩, fun e => by subst e; exact joinV_no0 ht⟩

set_option maxRecDepth 100000 in
set_option maxHeartbeats 1000000 in
theorem refjoin_any (A B : Option Addr) (ns : List ByteArray) (us : List Nat) (c d a b : Nat) (w : World) (hE : Env w) (hL : LatAt w A B c ns us) (hq : ns.length = us.length) (hl : us.length ≤ 64) (ha : a < us.length) (hb : b < us.length) :
    Calls Tryd.prog 53 #[.agg #[.slice A ns.length c, .slice B us.length d], .int .i64 a, .int .i64 b] w fun e w' => e = .returned (.int .i64 (joinR us a b)) ∧ Below w.heap.size w w' := by
  have hX := Lib.hid (At.newT 27 (d := d) hE hL)
  have hnl := hL.nlen
  replace hq := Lib.hid hq
  clear hE hL
  go_enter Tryd.func53, Tryd.ntmps53
  go_wp2_with fail
  refine (rf_size hX.out hq.out).mono ?_
  rintro e w1 ⟨rfl, hY⟩
  clear hX
  go_wp2_with fail
  go_loopw [8] (fun i wr => ∃ k : Nat, k ≤ us.length ∧ i = .int .i64 k ∧ Hid (∀ j, j < k → joinP us a b j = false) ∧ Hid (At w wr w.heap.size A B c d ns us)) (fun i _ => us.length - (intOf i).toNat)
  case atStart => exact ⟨0, Nat.zero_le _, rfl, fun j hj => by omega, hY⟩
  case round =>
    clear hY
    obtain ⟨k, hk, rfl, hok, hY⟩ := hrel
    obtain ⟨wo, rfl⟩ : ∃ wo : World, wo = wr := ⟨_, rfl⟩
    by_cases hlt : k < us.length
    · have q1 := hY.out.box.1
      have q2 := hY.out.box.2.1
      go_wp2_with fail
      clear q1 q2
      cases hc : le us a k with
      | false =>
        refine (rf_le hY.out hq.out a k (by omega) (by omega) hc).mono ?_
        rintro e w2 ⟨rfl, hZ⟩
        have hI : Hid (joinV us a b k 0 false) := joinV_start false (by rw [hc]; rfl)
        replace hc := Lib.hid hc
        clear hY
        go_wp2_with fail
        go_loopw [9, 10] (fun v i wr => v = .bool false ∧ i = .int .i64 (0 : Nat) ∧ Hid (At w wr w.heap.size A B c d ns us)) (fun _ i _ => us.length - (intOf i).toNat)
        case atStart => exact ⟨rfl, rfl, hZ⟩
        case round =>
          obtain ⟨rfl, rfl, hZ2⟩ := hrel
          have hok2 : Hid (∀ j, j < k + 1 → joinP us a b j = false) := fun j hj => by
            by_cases e : j < k
            · exact hok.out j e
            · obtain rfl : j = k := by omega
              exact hI.out.2 rfl
          have hpos : 0 < us.length := by omega
          clear hZ
          go_wp2_with fail
          go_roundw
          case rel => exact ⟨k + 1, by omega, by go_num, hok2, hZ2⟩
          case measure => simp [intOf]; omega
      | true =>
        refine (rf_le hY.out hq.out a k (by omega) (by omega) hc).mono ?_
        rintro e w2 ⟨rfl, hZ⟩
        clear hY
        have q1 := hZ.out.box.1
        have q2 := hZ.out.box.2.1
        replace hc := Lib.hid hc
        go_wp2_with fail
        clear q1 q2
        obtain ⟨t0, hc2⟩ : ∃ t, le us b k = t := ⟨_, rfl⟩
        · refine (rf_le hZ.out hq.out b k (by omega) (by omega) hc2).mono ?_
          rintro e w3 ⟨rfl, hY⟩
          have hI := Lib.hid (joinV_start (a := a) (b := b) (k := k) t0 (by rw [hc.out, hc2]; rfl))
          replace hc2 := Lib.hid hc2
          clear hZ
          go_wp2_with fail
          go_loopw [9, 10] (fun v i wr => ∃ (q : Nat) (t : Bool), q ≤ us.length ∧ v = .bool t ∧ i = .int .i64 q ∧ Hid (joinV us a b k q t) ∧ Hid (At w wr w.heap.size A B c d ns us)) (fun _ i _ => us.length - (intOf i).toNat)
          case atStart => exact ⟨0, _, Nat.zero_le _, rfl, rfl, hI, hY⟩
          case round =>
            clear hI hY
            obtain ⟨q, t, hqk, rfl, rfl, hI, hY⟩ := hrel
            cases t with
            | false =>
              have hok2 : Hid (∀ j, j < k + 1 → joinP us a b j = false) := fun j hj => by
                by_cases e : j < k
                · exact hok.out j e
                · obtain rfl : j = k := by omega
                  exact hI.out.2 rfl
              by_cases hql : q < us.length
              · go_wp2_with fail
                go_roundw
                case rel => exact ⟨k + 1, by omega, by go_num, hok2, hY⟩
                case measure => simp [intOf]; omega
              · go_wp2_with fail
                go_roundw
                case rel => exact ⟨k + 1, by omega, by go_num, hok2, hY⟩
                case measure => simp [intOf]; omega
            | true =>
              by_cases hql : q < us.length
              · have q1 := hY.out.box.1
                have q2 := hY.out.box.2.1
                go_wp2_with fail
                clear q1 q2
                cases h1 : le us a q with
                | false =>
                  refine (rf_le hY.out hq.out a q (by omega) (by omega) h1).mono ?_
                  rintro e w4 ⟨rfl, hZ⟩
                  have hI2 := Lib.hid (joinV_next hql hI.out true (by unfold joinD; rw [h1]; rfl))
                  replace h1 := Lib.hid h1
                  clear hY
                  go_wp2_with fail
                  go_roundw
                  case rel => exact ⟨q + 1, _, by omega, rfl, by go_num, hI2, hZ⟩
                  case measure => simp [intOf]; omega
                | true =>
                  refine (rf_le hY.out hq.out a q (by omega) (by omega) h1).mono ?_
                  rintro e w4 ⟨rfl, hZ⟩
                  have h1' := Lib.hid h1
                  clear h1
                  clear hY
                  have q1 := hZ.out.box.1
                  have q2 := hZ.out.box.2.1
                  go_wp2_with fail
                  clear q1 q2
                  cases h2 : le us b q with
                  | false =>
                    refine (rf_le hZ.out hq.out b q (by omega) (by omega) h2).mono ?_
                    rintro e w5 ⟨rfl, hY⟩
                    have hI2 := Lib.hid (joinV_next hql hI.out true (by unfold joinD; rw [h1'.out, h2]; rfl))
                    replace h2 := Lib.hid h2
                    clear hZ
                    go_wp2_with fail
                    go_roundw
                    case rel => exact ⟨q + 1, _, by omega, rfl, by go_num, hI2, hY⟩
                    case measure => simp [intOf]; omega
                  | true =>
                    refine (rf_le hZ.out hq.out b q (by omega) (by omega) h2).mono ?_
                    rintro e w5 ⟨rfl, hY⟩
                    have h2' := Lib.hid h2
                    clear h2
                    clear hZ
                    have q1 := hY.out.box.1
                    have q2 := hY.out.box.2.1
                    go_wp2_with fail
                    clear q1 q2
                    obtain ⟨t3, h3⟩ : ∃ t, le us k q = t := ⟨_, rfl⟩
                    · refine (rf_le hY.out hq.out k q (by omega) (by omega) h3).mono ?_
                      rintro e w6 ⟨rfl, hZ⟩
                      have hI2 := Lib.hid (joinV_next hql hI.out t3 (by unfold joinD; rw [h1'.out, h2'.out, h3]; rfl))
                      replace h3 := Lib.hid h3
                      clear hY
                      go_wp2_with fail
                      go_roundw
                      case rel => exact ⟨q + 1, _, by omega, rfl, by go_num, hI2, hZ⟩
                      case measure => simp [intOf]; omega
              · have hE9 : Hid (joinR us a b = (k : Int)) := firstI_hit hlt hok.out (joinV_yes (by omega) (hI.out.1 rfl))
                go_wp2_with fail
                go_ret
                exact ⟨ret_int hE9.out.symm, hY.out.below⟩
    · have hE9 : Hid (joinR us a b = -1) := firstI_none fun j hj => hok.out j (by omega)
      go_wp2_with fail
      go_ret
      exact ⟨ret_int hE9.out.symm, hY.out.below⟩

theorem meetV_yes {us : List Nat} {a b k q : Nat} (hq : q = us.length) (h : (le us k a && le us k b) = true ∧ ∀ j, j < q → meetD us a b k j = true) : meetP us a b k = true := by
  unfold meetP
  rw [h.1, Bool.true_and, List.all_eq_true]
  intro j hj
  exact h.2 j (by have := List.mem_range.1 hj; omega)
theorem meetV_no0 {us : List Nat} {a b k : Nat} (h : (le us k a && le us k b) = false) : meetP us a b k = false := by
  unfold meetP; rw [h]; rfl
theorem meetV_no {us : List Nat} {a b k q : Nat} (hq : q < us.length) (h : meetD us a b k q = false) : meetP us a b k = false := by
  unfold meetP
  have : (List.range us.length).all (meetD us a b k) = false := by
    rw [List.all_eq_false]
    exact ⟨q, List.mem_range.2 hq, by rw [h]; simp⟩
  rw [this]; simp
def meetV (us : List Nat) (a b k q : Nat) (t : Bool) : Prop := (t = true → (le us k a && le us k b) = true ∧ ∀ j, j < q → meetD us a b k j = true) ∧ (t = false → meetP us a b k = false)
theorem meetV_next {us : List Nat} {a b k q : Nat} (hq : q < us.length) (h : meetV us a b k q true) (t : Bool) (ht : meetD us a b k q = t) : meetV us a b k (q + 1) t := by
  refine ⟨fun e => ?_, fun e => ?_⟩
  · subst e
    refine ⟨(h.1 rfl).1, fun j hj => ?_⟩
    by_cases g : j < q
    · exact (h.1 rfl).2 j g
    · obtain rfl : j = q := by omega
      exact ht
  · subst e
    exact meetV_no hq ht
theorem meetV_start {us : List Nat} {a b k : Nat} (t : Bool) (ht : (le us k a && le us k b) = t) : meetV us a b k 0 t :=
  ⟨fun e => by subst e; exact ⟨ht, fun j hj => by omega⟩, fun e => by subst e; exact meetV_no0 ht⟩

set_option maxRecDepth 100000 in
set_option maxHeartbeats 1000000 in
theorem refmeet_any (A B : Option Addr) (ns : List ByteArray) (us : List Nat) (c d a b : Nat) (w : World) (hE : Env w) (hL : LatAt w A B c ns us) (hq : ns.length = us.length) (hl : us.length ≤ 64) (ha : a < us.length) (hb : b < us.length) :
    Calls Tryd.prog 55 #[.agg #[.slice A ns.length c, .slice B us.length d], .int .i64 a, .int .i64 b] w fun e w' => e = .returned (.int .i64 (meetR us a b)) ∧ Below w.heap.size w w' := by
  have hX := Lib.hid (At.newT 27 (d := d) hE hL)
  have hnl := hL.nlen
  replace hq := Lib.hid hq
  clear hE hL
  go_enter Tryd.func55, Tryd.ntmps55
  go_wp2_with fail
  refine (rf_size hX.out hq.out).mono ?_
  rintro e w1 ⟨rfl, hY⟩
  clear hX
  go_wp2_with fail
  go_loopw [8] (fun i wr => ∃ k : Nat, k ≤ us.length ∧ i = .int .i64 k ∧ Hid (∀ j, j < k → meetP us a b j = false) ∧ Hid (At w wr w.heap.size A B c d ns us)) (fun i _ => us.length - (intOf i).toNat)
  case atStart => exact ⟨0, Nat.zero_le _, rfl, fun j hj => by omega, hY⟩
  case round =>
    clear hY
    obtain ⟨k, hk, rfl, hok, hY⟩ := hrel
    obtain ⟨wo, rfl⟩ : ∃ wo : World, wo = wr := ⟨_, rfl⟩
    by_cases hlt : k < us.length
    · have q1 := hY.out.box.1
      have q2 := hY.out.box.2.1
      go_wp2_with fail
      clear q1 q2
      cases hc : le us k a with
      | false =>
        refine (rf_le hY.out hq.out k a (by omega) (by omega) hc).mono ?_
        rintro e w2 ⟨rfl, hZ⟩
        have hI : Hid (meetV us a b k 0 false) := meetV_start false (by rw [hc]; rfl)
        replace hc := Lib.hid hc
        clear hY
        go_wp2_with fail
        go_loopw [9, 10] (fun v i wr => v = .bool false ∧ i = .int .i64 (0 : Nat) ∧ Hid (At w wr w.heap.size A B c d ns us)) (fun _ i _ => us.length - (intOf i).toNat)
        case atStart => exact ⟨rfl, rfl, hZ⟩
        case round =>
          obtain ⟨rfl, rfl, hZ2⟩ := hrel
          have hok2 : Hid (∀ j, j < k + 1 → meetP us a b j = false) := fun j hj => by
            by_cases e : j < k
            · exact hok.out j e
            · obtain rfl : j = k := by omega
              exact hI.out.2 rfl
          have hpos : 0 < us.length := by omega
          clear hZ
          go_wp2_with fail
          go_roundw
          case rel => exact ⟨k + 1, by omega, by go_num, hok2, hZ2⟩
          case measure => simp [intOf]; omega
      | true =>
        refine (rf_le hY.out hq.out k a (by omega) (by omega) hc).mono ?_
        rintro e w2 ⟨rfl, hZ⟩
        clear hY
        have q1 := hZ.out.box.1
        have q2 := hZ.out.box.2.1
        replace hc := Lib.hid hc
        go_wp2_with fail
        clear q1 q2
        obtain ⟨t0, hc2⟩ : ∃ t, le us k b = t := ⟨_, rfl⟩
        · refine (rf_le hZ.out hq.out k b (by omega) (by omega) hc2).mono ?_
          rintro e w3 ⟨rfl, hY⟩
          have hI := Lib.hid (meetV_start (a := a) (b := b) (k := k) t0 (by rw [hc.out, hc2]; rfl))
          replace hc2 := Lib.hid hc2
          clear hZ
          go_wp2_with fail
          go_loopw [9, 10] (fun v i wr => ∃ (q : Nat) (t : Bool), q ≤ us.length ∧ v = .bool t ∧ i = .int .i64 q ∧ Hid (meetV us a b k q t) ∧ Hid (At w wr w.heap.size A B c d ns us)) (fun _ i _ => us.length - (intOf i).toNat)
          case atStart => exact ⟨0, _, Nat.zero_le _, rfl, rfl, hI, hY⟩
          case round =>
            clear hI hY
            obtain ⟨q, t, hqk, rfl, rfl, hI, hY⟩ := hrel
            cases t with
            | false =>
              have hok2 : Hid (∀ j, j < k + 1 → meetP us a b j = false) := fun j hj => by
                by_cases e : j < k
                · exact hok.out j e
                · obtain rfl : j = k := by omega
                  exact hI.out.2 rfl
              by_cases hql : q < us.length
              · go_wp2_with fail
                go_roundw
                case rel => exact ⟨k + 1, by omega, by go_num, hok2, hY⟩
                case measure => simp [intOf]; omega
              · go_wp2_with fail
                go_roundw
                case rel => exact ⟨k + 1, by omega, by go_num, hok2, hY⟩
                case measure => simp [intOf]; omega
            | true =>
              by_cases hql : q < us.length
              · have q1 := hY.out.box.1
                have q2 := hY.out.box.2.1
                go_wp2_with fail
                clear q1 q2
                cases h1 : le us q a with
                | false =>
                  refine (rf_le hY.out hq.out q a (by omega) (by omega) h1).mono ?_
                  rintro e w4 ⟨rfl, hZ⟩
                  have hI2 := Lib.hid (meetV_next hql hI.out true (by unfold meetD; rw [h1]; rfl))
                  replace h1 := Lib.hid h1
                  clear hY
                  go_wp2_with fail
                  go_roundw
                  case rel => exact ⟨q + 1, _, by omega, rfl, by go_num, hI2, hZ⟩
                  case measure => simp [intOf]; omega
                | true =>
                  refine (rf_le hY.out hq.out q a (by omega) (by omega) h1).mono ?_
                  rintro e w4 ⟨rfl, hZ⟩
                  have h1' := Lib.hid h1
                  clear h1
                  clear hY
                  have q1 := hZ.out.box.1
                  have q2 := hZ.out.box.2.1
                  go_wp2_with fail
                  clear q1 q2
                  cases h2 : le us q b with
                  | false =>
                    refine (rf_le hZ.out hq.out q b (by omega) (by omega) h2).mono ?_
                    rintro e w5 ⟨rfl, hY⟩
                    have hI2 := Lib.hid (meetV_next hql hI.out true (by unfold meetD; rw [h1'.out, h2]; rfl))
                    replace h2 := Lib.hid h2
                    clear hZ
                    go_wp2_with fail
                    go_roundw
                    case rel => exact ⟨q + 1, _, by omega, rfl, by go_num, hI2, hY⟩
                    case measure => simp [intOf]; omega
                  | true =>
                    refine (rf_le hZ.out hq.out q b (by omega) (by omega) h2).mono ?_
                    rintro e w5 ⟨rfl, hY⟩
                    have h2' := Lib.hid h2
                    clear h2
                    clear hZ
                    have q1 := hY.out.box.1
                    have q2 := hY.out.box.2.1
                    go_wp2_with fail
                    clear q1 q2
                    obtain ⟨t3, h3⟩ : ∃ t, le us q k = t := ⟨_, rfl⟩
                    · refine (rf_le hY.out hq.out q k (by omega) (by omega) h3).mono ?_
                      rintro e w6 ⟨rfl, hZ⟩
                      have hI2 := Lib.hid (meetV_next hql hI.out t3 (by unfold meetD; rw [h1'.out, h2'.out, h3]; rfl))
                      replace h3 := Lib.hid h3
                      clear hY
                      go_wp2_with fail
                      go_roundw
                      case rel => exact ⟨q + 1, _, by omega, rfl, by go_num, hI2, hZ⟩
                      case measure => simp [intOf]; omega
              · have hE9 : Hid (meetR us a b = (k : Int)) := firstI_hit hlt hok.out (meetV_yes (by omega) (hI.out.1 rfl))
                go_wp2_with fail
                go_ret
                exact ⟨ret_int hE9.out.symm, hY.out.below⟩
    · have hE9 : Hid (meetR us a b = -1) := firstI_none fun j hj => hok.out j (by omega)
      go_wp2_with fail
      go_ret
      exact ⟨ret_int hE9.out.symm, hY.out.below⟩
end Go.Proofs.YtieamjpfmjkchaaDoor
