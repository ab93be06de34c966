/-
  The walks of the reference's order, bounded, Right. Conditions: the lattice can be read; for order and bounded: as many names as rows, at most 64.
-/
import Derived.Test.YtieamjpfmjkchaaDoorLtRf3
namespace Go.Proofs.YtieamjpfmjkchaaDoor
open Go.RowKit Go.Shelf Go.Lt

theorem ordR_no {us : List Nat} {a : Nat} (ha : a < us.length) (h : ordA us a = false) : ordR us = false := by
  unfold ordR
  rw [List.all_eq_false]
  exact ⟨a, List.mem_range.2 ha, by rw [h]; simp⟩
theorem ordA_no {us : List Nat} {a b : Nat} (hb : b < us.length) (h : ordB us a b = false) : ordA us a = false := by
  unfold ordA
  have : (List.range us.length).all (ordB us a) = false := by
    rw [List.all_eq_false]
    exact ⟨b, List.mem_range.2 hb, by rw [h]; simp⟩
  rw [this]; simp
theorem ordB_no {us : List Nat} {a b c : Nat} (hc : c < us.length) (hab : le us a b = true) (h : ordC us a b c = false) : ordB us a b = false := by
  unfold ordB
  have : (List.range us.length).all (ordC us a b) = false := by
    rw [List.all_eq_false]
    exact ⟨c, List.mem_range.2 hc, by rw [h]; simp⟩
  rw [this, hab]; simp
theorem ordB_yes {us : List Nat} {a b : Nat} (ha : (a != b && le us b a) = false) (h : (List.range us.length).all (ordC us a b) = true) : ordB us a b = true := by
  unfold ordB
  rw [ha, h]; simp
theorem all_range {n : Nat} {P : Nat → Bool} (h : ∀ j, j < n → P j = true) : (List.range n).all P = true := by
  rw [List.all_eq_true]
  exact fun j hj => h j (List.mem_range.1 hj)
theorem below_next {P : Nat → Prop} {k : Nat} (h : ∀ j, j < k → P j) (hk : P k) : ∀ j, j < k + 1 → P j := fun j hj => by
  by_cases e : j < k
  · exact h j e
  · obtain rfl : j = k := by omega
    exact hk

set_option maxRecDepth 100000 in
set_option maxHeartbeats 2000000 in
theorem reforder_any (A B : Option Addr) (ns : List ByteArray) (us : List Nat) (c d : Nat) (w : World) (hE : Env w) (hL : LatAt w A B c ns us) (hq : ns.length = us.length) (hl : us.length ≤ 64) :
    Calls Tryd.prog 44 #[.agg #[.slice A ns.length c, .slice B us.length d]] w fun e w' => e = .returned (.bool (ordR us)) ∧ Below w.heap.size w w' := by
  have hX := Lib.hid (At.newT 27 (d := d) hE hL)
  replace hq := Lib.hid hq
  clear hE hL
  go_enter Tryd.func44, Tryd.ntmps44
  go_wp2_with fail
  refine (rf_size hX.out hq.out).mono ?_
  rintro e w1 ⟨rfl, hY⟩
  clear hX
  go_wp2_with fail
  go_loopw [4] (fun i wr => ∃ k : Nat, k ≤ us.length ∧ i = .int .i64 k ∧ Hid (∀ j, j < k → ordA us j = true) ∧ Hid (At w wr w.heap.size A B c d ns us)) (fun i _ => us.length - (intOf i).toNat)
  case atStart => exact ⟨0, Nat.zero_le _, rfl, fun j hj => by omega, hY⟩
  case round =>
    clear hY
    obtain ⟨k, hk, rfl, hok, hY⟩ := hrel
    obtain ⟨wo, rfl⟩ : ∃ wo : World, wo = wr := ⟨_, rfl⟩
    by_cases hlt : k < us.length
    · have q1 := hY.out.box.1
      have q2 := hY.out.box.2.1
      go_wp2_with fail
      clear q1 q2
      cases hkk : le us k k with
      | false =>
        refine (rf_le hY.out hq.out k k (by omega) (by omega) hkk).mono ?_
        rintro e w2 ⟨rfl, hZ⟩
        have hE9 : Hid (ordR us = false) := ordR_no hlt (by unfold ordA; rw [hkk]; rfl)
        replace hkk := Lib.hid hkk
        go_wp2_with fail
        go_ret
        exact ⟨ret_bool hE9.out.symm, hZ.out.below⟩
      | true =>
        refine (rf_le hY.out hq.out k k (by omega) (by omega) hkk).mono ?_
        rintro e w2 ⟨rfl, hZ⟩
        have hkk' := Lib.hid hkk
        clear hkk hY
        go_wp2_with fail
        go_loopw [5] (fun i wr => ∃ q : Nat, q ≤ us.length ∧ i = .int .i64 q ∧ Hid (∀ j, j < q → ordB us k j = true) ∧ Hid (At w wr w.heap.size A B c d ns us)) (fun i _ => us.length - (intOf i).toNat)
        case atStart => exact ⟨0, Nat.zero_le _, rfl, fun j hj => by omega, hZ⟩
        case round =>
          clear hZ
          obtain ⟨q, hqk, rfl, hok2, hY⟩ := hrel
          obtain ⟨wp, rfl⟩ : ∃ wp : World, wp = wr := ⟨_, rfl⟩
          by_cases hql : q < us.length
          · have q1 := hY.out.box.1
            have q2 := hY.out.box.2.1
            go_wp2_with fail
            clear q1 q2
            cases hkq : le us k q with
            | false =>
              refine (rf_le hY.out hq.out k q (by omega) (by omega) hkq).mono ?_
              rintro e w3 ⟨rfl, hZ⟩
              have hok3 := Lib.hid (below_next hok2.out (by unfold ordB; rw [hkq]; rfl))
              replace hkq := Lib.hid hkq
              clear hY
              go_wp2_with fail
              go_roundw
              case rel => exact ⟨q + 1, by omega, by go_num, hok3, hZ⟩
              case measure => simp [intOf]; omega
            | true =>
              refine (rf_le hY.out hq.out k q (by omega) (by omega) hkq).mono ?_
              rintro e w3 ⟨rfl, hZ⟩
              have hkq' := Lib.hid hkq
              clear hkq hY
              have key : ∀ wx, Hid (At w wx w.heap.size A B c d ns us) → Hid ((k != q && le us q k) = false) → True := fun _ _ _ => trivial
              clear key
              by_cases hne : k = q
              · subst hne
                have hne2 : ((k : Int) == (k : Int)) = true := by simp
                have hanti : Hid ((k != k && le us k k) = false) := by show (k != k && le us k k) = false; simp
                go_wp2_with fail
                go_loopw [6] (fun i wr => ∃ x : Nat, x ≤ us.length ∧ i = .int .i64 x ∧ Hid (∀ j, j < x → ordC us k k j = true) ∧ Hid (At w wr w.heap.size A B c d ns us)) (fun i _ => us.length - (intOf i).toNat)
                case atStart => exact ⟨0, Nat.zero_le _, rfl, fun j hj => by omega, hZ⟩
                case round =>
                  clear hZ
                  obtain ⟨x, hxk, rfl, hok4, hY⟩ := hrel
                  by_cases hxl : x < us.length
                  · have q1 := hY.out.box.1
                    have q2 := hY.out.box.2.1
                    go_wp2_with fail
                    clear q1 q2
                    cases hqx : le us k x with
                    | false =>
                      refine (rf_le hY.out hq.out k x (by omega) (by omega) hqx).mono ?_
                      rintro e w4 ⟨rfl, hZ⟩
                      have hok5 := Lib.hid (below_next hok4.out (by unfold ordC; rw [hqx]; rfl))
                      replace hqx := Lib.hid hqx
                      clear hY
                      go_wp2_with fail
                      go_roundw
                      case rel => exact ⟨x + 1, by omega, by go_num, hok5, hZ⟩
                      case measure => simp [intOf]; omega
                    | true =>
                      refine (rf_le hY.out hq.out k x (by omega) (by omega) hqx).mono ?_
                      rintro e w4 ⟨rfl, hZ⟩
                      have hok5 := Lib.hid (below_next hok4.out (by unfold ordC; rw [hqx]; rfl))
                      have hqx' := Lib.hid hqx
                      clear hqx hY
                      have q1 := hZ.out.box.1
                      have q2 := hZ.out.box.2.1
                      go_wp2_with fail
                      clear q1 q2
                      refine (rf_le hZ.out hq.out k x (by omega) (by omega) hqx'.out).mono ?_
                      rintro e w5 ⟨rfl, hY⟩
                      clear hZ
                      go_wp2_with fail
                      go_roundw
                      case rel => exact ⟨x + 1, by omega, by go_num, hok5, hY⟩
                      case measure => simp [intOf]; omega
                  · have hok3 := Lib.hid (below_next hok2.out (ordB_yes hanti.out (all_range fun j hj => hok4.out j (by omega))))
                    go_wp2_with fail
                    go_roundw
                    case rel => exact ⟨k + 1, by omega, by go_num, hok3, hY⟩
                    case measure => simp [intOf]; omega
              · have hne2 : ((k : Int) == (q : Int)) = false := by rw [beq_eq_false_iff_ne]; omega
                have q1 := hZ.out.box.1
                have q2 := hZ.out.box.2.1
                go_wp2_with fail
                clear q1 q2
                cases hqk2 : le us q k with
                | true =>
                  refine (rf_le hZ.out hq.out q k (by omega) (by omega) hqk2).mono ?_
                  rintro e w4 ⟨rfl, hY⟩
                  have hE9 : Hid (ordR us = false) := ordR_no hlt (ordA_no hql (by
                    unfold ordB
                    have : (k != q) = true := by rw [bne_iff_ne]; exact hne
                    rw [hqk2, hkq'.out, this]; rfl))
                  replace hqk2 := Lib.hid hqk2
                  go_wp2_with fail
                  go_ret
                  exact ⟨ret_bool hE9.out.symm, hY.out.below⟩
                | false =>
                  refine (rf_le hZ.out hq.out q k (by omega) (by omega) hqk2).mono ?_
                  rintro e w4 ⟨rfl, hY⟩
                  have hanti : Hid ((k != q && le us q k) = false) := by show (k != q && le us q k) = false; rw [hqk2]; simp
                  replace hqk2 := Lib.hid hqk2
                  clear hZ
                  go_wp2_with fail
                  go_loopw [6] (fun i wr => ∃ x : Nat, x ≤ us.length ∧ i = .int .i64 x ∧ Hid (∀ j, j < x → ordC us k q j = true) ∧ Hid (At w wr w.heap.size A B c d ns us)) (fun i _ => us.length - (intOf i).toNat)
                  case atStart => exact ⟨0, Nat.zero_le _, rfl, fun j hj => by omega, hY⟩
                  case round =>
                    clear hY
                    obtain ⟨x, hxk, rfl, hok4, hY⟩ := hrel
                    by_cases hxl : x < us.length
                    · have q1 := hY.out.box.1
                      have q2 := hY.out.box.2.1
                      go_wp2_with fail
                      clear q1 q2
                      cases hqx : le us q x with
                      | false =>
                        refine (rf_le hY.out hq.out q x (by omega) (by omega) hqx).mono ?_
                        rintro e w5 ⟨rfl, hZ⟩
                        have hok5 := Lib.hid (below_next hok4.out (by unfold ordC; rw [hqx]; rfl))
                        replace hqx := Lib.hid hqx
                        clear hY
                        go_wp2_with fail
                        go_roundw
                        case rel => exact ⟨x + 1, by omega, by go_num, hok5, hZ⟩
                        case measure => simp [intOf]; omega
                      | true =>
                        refine (rf_le hY.out hq.out q x (by omega) (by omega) hqx).mono ?_
                        rintro e w5 ⟨rfl, hZ⟩
                        have hqx' := Lib.hid hqx
                        clear hqx hY
                        have q1 := hZ.out.box.1
                        have q2 := hZ.out.box.2.1
                        go_wp2_with fail
                        clear q1 q2
                        cases hkx : le us k x with
                        | true =>
                          refine (rf_le hZ.out hq.out k x (by omega) (by omega) hkx).mono ?_
                          rintro e w6 ⟨rfl, hY⟩
                          have hok5 := Lib.hid (below_next hok4.out (by unfold ordC; rw [hkx]; simp))
                          replace hkx := Lib.hid hkx
                          clear hZ
                          go_wp2_with fail
                          go_roundw
                          case rel => exact ⟨x + 1, by omega, by go_num, hok5, hY⟩
                          case measure => simp [intOf]; omega
                        | false =>
                          refine (rf_le hZ.out hq.out k x (by omega) (by omega) hkx).mono ?_
                          rintro e w6 ⟨rfl, hY⟩
                          have hE9 : Hid (ordR us = false) := ordR_no hlt (ordA_no hql (ordB_no hxl hkq'.out (by unfold ordC; rw [hkx, hqx'.out]; rfl)))
                          replace hkx := Lib.hid hkx
                          go_wp2_with fail
                          go_ret
                          exact ⟨ret_bool hE9.out.symm, hY.out.below⟩
                    · have hok3 := Lib.hid (below_next hok2.out (ordB_yes hanti.out (all_range fun j hj => hok4.out j (by omega))))
                      go_wp2_with fail
                      go_roundw
                      case rel => exact ⟨q + 1, by omega, by go_num, hok3, hY⟩
                      case measure => simp [intOf]; omega
          · have hok3 := Lib.hid (below_next hok.out (by unfold ordA; rw [hkk'.out, all_range fun j hj => hok2.out j (by omega)]; rfl))
            go_wp2_with fail
            go_roundw
            case rel => exact ⟨k + 1, by omega, by go_num, hok3, hY⟩
            case measure => simp [intOf]; omega
    · have hE9 : Hid (ordR us = true) := all_range fun j hj => hok.out j (by omega)
      go_wp2_with fail
      go_ret
      exact ⟨ret_bool hE9.out.symm, hY.out.below⟩

theorem boundR_no {us : List Nat} {a b : Nat} (ha : a < us.length) (hb : b < us.length) (h : boundB us a b = false) : boundR us = false := by
  unfold boundR
  rw [List.all_eq_false]
  refine ⟨a, List.mem_range.2 ha, ?_⟩
  have : boundA us a = false := by
    unfold boundA
    rw [List.all_eq_false]
    exact ⟨b, List.mem_range.2 hb, by rw [h]; simp⟩
  rw [this]; simp

section
variable {w W : World} {p : Nat} {A B : Option Addr} {c d : Nat} {ns : List ByteArray} {us : List Nat}
theorem rf_join (hX : At w W p A B c d ns us) (hq : ns.length = us.length) (hl : us.length ≤ 64) (a b : Nat) (ha : a < us.length) (hb : b < us.length) {r : Int} (hr : joinR us a b = r) : Calls Tryd.prog 53 #[.agg #[.slice A ns.length c, .slice B us.length d], .int .i64 a, .int .i64 b] W fun e w' => e = .returned (.int .i64 r) ∧ Hid (At w w' p A B c d ns us) :=
  (refjoin_any A B ns us c d a b W hX.env hX.lat hq hl ha hb).mono fun _ _ ⟨h1, h2⟩ => ⟨by rw [h1, hr], hX.later h2⟩
theorem rf_meet (hX : At w W p A B c d ns us) (hq : ns.length = us.length) (hl : us.length ≤ 64) (a b : Nat) (ha : a < us.length) (hb : b < us.length) {r : Int} (hr : meetR us a b = r) : Calls Tryd.prog 55 #[.agg #[.slice A ns.length c, .slice B us.length d], .int .i64 a, .int .i64 b] W fun e w' => e = .returned (.int .i64 r) ∧ Hid (At w w' p A B c d ns us) :=
  (refmeet_any A B ns us c d a b W hX.env hX.lat hq hl ha hb).mono fun _ _ ⟨h1, h2⟩ => ⟨by rw [h1, hr], hX.later h2⟩
theorem rf_order (hX : At w W p A B c d ns us) (hq : ns.length = us.length) (hl : us.length ≤ 64) {r : Bool} (hr : ordR us = r) : Calls Tryd.prog 44 #[.agg #[.slice A ns.length c, .slice B us.length d]] W fun e w' => e = .returned (.bool r) ∧ Hid (At w w' p A B c d ns us) :=
  (reforder_any A B ns us c d W hX.env hX.lat hq hl).mono fun _ _ ⟨h1, h2⟩ => ⟨by rw [h1, hr], hX.later h2⟩
end

set_option maxRecDepth 100000 in
set_option maxHeartbeats 1000000 in
theorem refbounded_any (A B : Option Addr) (ns : List ByteArray) (us : List Nat) (c d : Nat) (w : World) (hE : Env w) (hL : LatAt w A B c ns us) (hq : ns.length = us.length) (hl : us.length ≤ 64) :
    Calls Tryd.prog 45 #[.agg #[.slice A ns.length c, .slice B us.length d]] w fun e w' => e = .returned (.bool (boundR us)) ∧ Below w.heap.size w w' := by
  have hX := Lib.hid (At.newT 27 (d := d) hE hL)
  replace hq := Lib.hid hq
  clear hE hL
  go_enter Tryd.func45, Tryd.ntmps45
  go_wp2_with fail
  refine (rf_size hX.out hq.out).mono ?_
  rintro e w1 ⟨rfl, hY⟩
  clear hX
  go_wp2_with fail
  go_loopw [4] (fun i wr => ∃ k : Nat, k ≤ us.length ∧ i = .int .i64 k ∧ Hid (∀ j, j < k → boundA us j = true) ∧ Hid (At w wr w.heap.size A B c d ns us)) (fun i _ => us.length - (intOf i).toNat)
  case atStart => exact ⟨0, Nat.zero_le _, rfl, fun j hj => by omega, hY⟩
  case round =>
    clear hY
    obtain ⟨k, hk, rfl, hok, hY⟩ := hrel
    obtain ⟨wo, rfl⟩ : ∃ wo : World, wo = wr := ⟨_, rfl⟩
    by_cases hlt : k < us.length
    · go_wp2_with fail
      go_loopw [5] (fun i wr => ∃ q : Nat, q ≤ us.length ∧ i = .int .i64 q ∧ Hid (∀ j, j < q → boundB us k j = true) ∧ Hid (At w wr w.heap.size A B c d ns us)) (fun i _ => us.length - (intOf i).toNat)
      case atStart => exact ⟨0, Nat.zero_le _, rfl, fun j hj => by omega, hY⟩
      case round =>
        clear hY
        obtain ⟨q, hqk, rfl, hok2, hY⟩ := hrel
        by_cases hql : q < us.length
        · have q1 := hY.out.box.1
          have q2 := hY.out.box.2.1
          go_wp2_with fail
          clear q1 q2
          obtain ⟨J, hJ⟩ : ∃ J, joinR us k q = J := ⟨_, rfl⟩
          refine (rf_join hY.out hq.out hl k q (by omega) (by omega) hJ).mono ?_
          rintro e w2 ⟨rfl, hZ⟩
          clear hY
          by_cases hJ0 : J < 0
          · have hE9 : Hid (boundR us = false) := boundR_no hlt hql (by unfold boundB; rw [hJ]; have : decide (0 ≤ J) = false := by simp; omega
                                                                        rw [this]; rfl)
            replace hJ := Lib.hid hJ
            go_wp2_with fail
            go_ret
            exact ⟨ret_bool hE9.out.symm, hZ.out.below⟩
          · have hJ' := Lib.hid hJ
            clear hJ
            have q1 := hZ.out.box.1
            have q2 := hZ.out.box.2.1
            go_wp2_with fail
            clear q1 q2
            obtain ⟨M, hM⟩ : ∃ M, meetR us k q = M := ⟨_, rfl⟩
            refine (rf_meet hZ.out hq.out hl k q (by omega) (by omega) hM).mono ?_
            rintro e w3 ⟨rfl, hY⟩
            clear hZ
            by_cases hM0 : M < 0
            · have hE9 : Hid (boundR us = false) := boundR_no hlt hql (by unfold boundB; rw [hM]; have : decide (0 ≤ M) = false := by simp; omega
                                                                          rw [this]; simp)
              replace hM := Lib.hid hM
              go_wp2_with fail
              go_ret
              exact ⟨ret_bool hE9.out.symm, hY.out.below⟩
            · have hok3 := Lib.hid (below_next hok2.out (by
                unfold boundB; rw [hM, hJ'.out, decide_eq_true (show 0 ≤ J by omega), decide_eq_true (show 0 ≤ M by omega)]; rfl))
              replace hM := Lib.hid hM
              go_wp2_with fail
              go_roundw
              case rel => exact ⟨q + 1, by omega, by go_num, hok3, hY⟩
              case measure => simp [intOf]; omega
        · have hok3 := Lib.hid (below_next hok.out (all_range (P := boundB us k) fun j hj => hok2.out j (by omega)))
          go_wp2_with fail
          go_roundw
          case rel => exact ⟨k + 1, by omega, by go_num, hok3, hY⟩
          case measure => simp [intOf]; omega
    · have hE9 : Hid (boundR us = true) := all_range fun j hj => hok.out j (by omega)
      go_wp2_with fail
      go_ret
      exact ⟨ret_bool hE9.out.symm, hY.out.below⟩
end Go.Proofs.YtieamjpfmjkchaaDoor
