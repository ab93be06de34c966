/-
  The walks of the reference's Right, Join, Meet, Bottom, Top, Find. Condition: the lattice can be read.
-/
import Derived.Test.YtieamjpfmjkchaaDoorLtRf4
namespace Go.Proofs.YtieamjpfmjkchaaDoor
open Go.RowKit Go.Shelf Go.Lt

theorem within_of {us : List Nat} (h64 : W64 us) (hl : us.length ≤ 64) (h : ∀ a, a < us.length → row us a < 2 ^ us.length) : within us = true := by
  unfold within
  rw [List.all_eq_true]
  intro r hr
  obtain ⟨a, ha, rfl⟩ := List.getElem_of_mem hr
  have e : us[a] = row us a := by
    unfold row
    rw [List.getD_eq_getElem?_getD, List.getElem?_eq_getElem ha]; rfl
  rw [e]
  refine (sub_iff (h64 a) (all_lt hl)).2 fun b hb => ?_
  rw [all_bit]
  exact decide_eq_true (testBit_lt (h a ha) hb)
theorem shr_none {r n : Nat} (h : r < 2 ^ n) : (((r : Int) / 2 ^ n) == 0) = true := by
  have e1 : ((r : Int) / 2 ^ n) = ((r / 2 ^ n : Nat) : Int) := by rw [Int.natCast_ediv]; simp
  rw [e1, Nat.div_eq_of_lt h]; rfl
theorem shr_some {r n : Nat} (h : ¬ r < 2 ^ n) : (((r : Int) / 2 ^ n) == 0) = false := by
  have e1 : ((r : Int) / 2 ^ n) = ((r / 2 ^ n : Nat) : Int) := by rw [Int.natCast_ediv]; simp
  have := Nat.div_pos (Nat.le_of_not_lt h) (Nat.two_pow_pos n)
  rw [e1, beq_eq_false_iff_ne]
  omega
section
variable {w W : World} {p : Nat} {A B : Option Addr} {c d : Nat} {ns : List ByteArray} {us : List Nat}
theorem rf_names (hX : At w W p A B c d ns us) {r : Bool} (hr : namedB ns = r) : Calls Tryd.prog 42 #[.slice A ns.length c] W fun e w' => e = .returned (.bool r) ∧ Hid (At w w' p A B c d ns us) :=
  (refnames_any A ns c W hX.lat.names hX.lat.smax hX.lat.nlen).mono fun _ _ ⟨h1, h2⟩ => ⟨by rw [h1, hr], hX.later h2⟩
theorem rf_bounded (hX : At w W p A B c d ns us) (hq : ns.length = us.length) (hl : us.length ≤ 64) {r : Bool} (hr : boundR us = r) : Calls Tryd.prog 45 #[.agg #[.slice A ns.length c, .slice B us.length d]] W fun e w' => e = .returned (.bool r) ∧ Hid (At w w' p A B c d ns us) :=
  (refbounded_any A B ns us c d W hX.env hX.lat hq hl).mono fun _ _ ⟨h1, h2⟩ => ⟨by rw [h1, hr], hX.later h2⟩
end

set_option maxRecDepth 100000 in
set_option maxHeartbeats 1000000 in
theorem refright_any (A B : Option Addr) (ns : List ByteArray) (us : List Nat) (c d : Nat) (w : World) (hE : Env w) (hL : LatAt w A B c ns us) :
    Calls Tryd.prog 16 #[.agg #[.slice A ns.length c, .slice B us.length d]] w fun e w' => e = .returned (.bool (rightB ns us)) ∧ Below w.heap.size w w' := by
  have hX := Lib.hid (At.newT 27 (d := d) hE hL)
  have hnl := hL.nlen
  have hul := hL.ulen
  have h64 := Lib.hid hL.w64
  clear hE hL
  by_cases h1 : 1 ≤ ns.length
  case neg =>
    have hE9 : Hid (rightB ns us = false) := by
      show rightB ns us = false
      unfold rightB; simp [h1]
    go_enter Tryd.func16, Tryd.ntmps16
    go_wp2_with fail
    go_ret
    exact ⟨ret_bool hE9.out.symm, hX.out.below⟩
  by_cases h2 : ns.length ≤ 64
  case neg =>
    have hE9 : Hid (rightB ns us = false) := by
      show rightB ns us = false
      unfold rightB; simp [h2]
    go_enter Tryd.func16, Tryd.ntmps16
    go_wp2_with fail
    go_ret
    exact ⟨ret_bool hE9.out.symm, hX.out.below⟩
  by_cases h3 : us.length = ns.length
  case neg =>
    have hE9 : Hid (rightB ns us = false) := by
      show rightB ns us = false
      unfold rightB; simp [h3]
    have h3' : ((us.length : Int) == (ns.length : Int)) = false := by rw [beq_eq_false_iff_ne]; omega
    go_enter Tryd.func16, Tryd.ntmps16
    go_wp2_with fail
    go_ret
    exact ⟨ret_bool hE9.out.symm, hX.out.below⟩
  have h3' : ((us.length : Int) == (ns.length : Int)) = true := by rw [beq_iff_eq]; omega
  have hq : Hid (ns.length = us.length) := h3.symm
  have hul64 : us.length ≤ 64 := by omega
  have hfin : Hid (∀ v : Bool, rightB ns us = (namedB ns && within us && ordered us && complete us)) := fun v => by
    unfold rightB
    rw [decide_eq_true h1, decide_eq_true h2, decide_eq_true h3]; simp
  clear h3
  go_enter Tryd.func16, Tryd.ntmps16
  go_wp2_with fail
  rotate_left
  · have := hq.out
    exfalso
    omega
  cases h4 : namedB ns with
  | false =>
    refine (rf_names hX.out h4).mono ?_
    rintro e w1 ⟨rfl, hY⟩
    have hE9 : Hid (rightB ns us = false) := by
      show rightB ns us = false
      rw [hfin.out true, h4]; rfl
    replace h4 := Lib.hid h4
    go_wp2_with fail
    go_ret
    exact ⟨ret_bool hE9.out.symm, hY.out.below⟩
  | true =>
    refine (rf_names hX.out h4).mono ?_
    rintro e w1 ⟨rfl, hY⟩
    have h4' := Lib.hid h4
    clear h4 hX
    go_wp2_with fail
    go_loopw [4] (fun i wr => ∃ k : Nat, k ≤ us.length ∧ i = .int .i64 k ∧ Hid (∀ j, j < k → row us j < 2 ^ us.length) ∧ Hid (At w wr w.heap.size A B c d ns us)) (fun i _ => us.length - (intOf i).toNat)
    case atStart => exact ⟨0, Nat.zero_le _, rfl, fun j hj => by omega, hY⟩
    case round =>
      clear hY
      obtain ⟨k, hk, rfl, hok, hY⟩ := hrel
      have hkn : k ≤ ns.length := by have := hq.out; omega
      by_cases hlt : k < us.length
      · have hltn : k < ns.length := by have := hq.out; omega
        have q1 := hY.out.box.1
        have q2 := hY.out.box.2.1
        by_cases hn64 : ns.length < 64
        · obtain ⟨bb, off, rfl, hb, hc⟩ := hY.out.lat.words (by intro e; subst e; simp at hlt)
          have hck := hc k hlt
          have hr := h64.out k
          clear hc
          by_cases hrow : row us k < 2 ^ ns.length
          · have hsh := shr_none hrow
            have hok2 := Lib.hid (below_next hok.out (show row us k < 2 ^ us.length by rw [← hq.out]; exact hrow))
            clear hrow
            go_wp2_with fail
            go_roundw
            case rel => exact ⟨k + 1, by omega, by go_num, hok2, hY⟩
            case measure => simp [intOf]; omega
          · have hsh := shr_some hrow
            have hE9 : Hid (rightB ns us = false) := by
              show rightB ns us = false
              have : within us = false := by
                rw [← Bool.not_eq_true]
                intro e
                have := within_in h64.out hul64 e k hlt
                rw [← hq.out] at this
                exact hrow this
              rw [hfin.out true, this]; simp
            clear hrow
            go_wp2_with fail
            go_ret
            exact ⟨ret_bool hE9.out.symm, hY.out.below⟩
        · have hok2 : Hid (∀ j, j < k + 1 → row us j < 2 ^ us.length) := below_next hok.out (by
            have e : us.length = 64 := by have := hq.out; omega
            rw [e]; exact h64.out k)
          go_wp2_with fail
          go_roundw
          case rel => exact ⟨k + 1, by omega, by go_num, hok2, hY⟩
          case measure => simp [intOf]; omega
      · have hw := Lib.hid (within_of h64.out hul64 fun j hj => hok.out j (by omega))
        have hkn2 : ¬ k < ns.length := by have := hq.out; omega
        have q1 := hY.out.box.1
        have q2 := hY.out.box.2.1
        go_wp2_with fail
        clear q1 q2
        have ho := ordR_eq h64.out hul64 hw.out
        cases h5 : ordered us with
        | false =>
          refine (rf_order hY.out hq.out hul64 (ho.trans h5)).mono ?_
          rintro e w2 ⟨rfl, hZ⟩
          have hE9 : Hid (rightB ns us = false) := by
            show rightB ns us = false
            rw [hfin.out true, h5]; simp
          replace ho := Lib.hid ho
          replace h5 := Lib.hid h5
          go_wp2_with fail
          go_ret
          exact ⟨ret_bool hE9.out.symm, hZ.out.below⟩
        | true =>
          refine (rf_order hY.out hq.out hul64 (ho.trans h5)).mono ?_
          rintro e w2 ⟨rfl, hZ⟩
          replace ho := Lib.hid ho
          have h5' := Lib.hid h5
          clear h5
          have q1 := hZ.out.box.1
          have q2 := hZ.out.box.2.1
          go_wp2_with fail
          clear q1 q2
          have hpos : 1 ≤ us.length := by have := hq.out; omega
          refine (rf_bounded hZ.out hq.out hul64 (boundR_eq h64.out hul64 hw.out h5'.out hpos)).mono ?_
          rintro e w3 ⟨rfl, hY2⟩
          have hE9 : Hid (rightB ns us = complete us) := by
            show rightB ns us = _
            rw [hfin.out true, h4'.out, hw.out, h5'.out]; rfl
          go_wp2_with fail
          go_ret
          exact ⟨ret_bool hE9.out.symm, hY2.out.below⟩

section
variable {w W : World} {p : Nat} {A B : Option Addr} {c d : Nat} {ns : List ByteArray} {us : List Nat}
theorem rf_right (hX : At w W p A B c d ns us) {r : Bool} (hr : rightB ns us = r) : Calls Tryd.prog 16 #[.agg #[.slice A ns.length c, .slice B us.length d]] W fun e w' => e = .returned (.bool r) ∧ Hid (At w w' p A B c d ns us) :=
  (refright_any A B ns us c d W hX.env hX.lat).mono fun _ _ ⟨h1, h2⟩ => ⟨by rw [h1, hr], hX.later h2⟩
end
theorem right_ord {ns : List ByteArray} {us : List Nat} (h64 : W64 us) (hR : rightB ns us = true) : IsOrd us := by
  obtain ⟨q1, q2, q3, q4, q5, q6, q7⟩ := right_parts hR
  exact isOrd_of h64 (by omega) q5 q6
theorem right_bound {ns : List ByteArray} {us : List Nat} (h64 : W64 us) (hR : rightB ns us = true) : ∀ a, a < us.length → ∀ b, b < us.length → 0 ≤ joinR us a b ∧ 0 ≤ meetR us a b := by
  obtain ⟨q1, q2, q3, q4, q5, q6, q7⟩ := right_parts hR
  have := boundR_eq h64 (by omega) q5 q6 (by omega)
  rw [q7] at this
  exact boundR_iff.1 this
theorem join_hi {ns : List ByteArray} {us : List Nat} (h64 : W64 us) (hR : rightB ns us = true) {a b : Nat} (ha : a < us.length) (hb : b < us.length) : ∃ j : Nat, joinR us a b = (j : Int) ∧ j < us.length ∧ le us a j = true ∧ le us b j = true := by
  obtain ⟨k, hk, hp, e⟩ := firstI_some (right_bound h64 hR a ha b hb).1
  have := (joinP_iff (right_ord h64 hR)).1 hp
  exact ⟨k, e, hk, this.left, this.right⟩
theorem meet_lo {ns : List ByteArray} {us : List Nat} (h64 : W64 us) (hR : rightB ns us = true) {a b : Nat} (ha : a < us.length) (hb : b < us.length) : ∃ j : Nat, meetR us a b = (j : Int) ∧ j < us.length ∧ le us j a = true ∧ le us j b = true := by
  obtain ⟨k, hk, hp, e⟩ := firstI_some (right_bound h64 hR a ha b hb).2
  have : meetP us a b k = true := hp
  unfold meetP at this
  rw [Bool.and_eq_true, Bool.and_eq_true] at this
  exact ⟨k, e, hk, this.1.1, this.1.2⟩
theorem bottom_is {ns : List ByteArray} {us : List Nat} (h64 : W64 us) (hR : rightB ns us = true) {x : Nat} (h : ∀ c, c < us.length → le us x c = true) : bottomI ns us = (x : Int) := by
  obtain ⟨q1, q2, q3, q4, q5, q6, q7⟩ := right_parts hR
  unfold bottomI
  rw [hR, if_pos rfl]
  exact least_of (right_ord h64 hR) (all_lt (by omega)) ⟨by rw [all_bit]; simpa using le_left (h 0 (by omega)), fun b hb => h b (by rw [all_bit] at hb; simpa using hb)⟩
theorem top_is {ns : List ByteArray} {us : List Nat} (h64 : W64 us) (hR : rightB ns us = true) {x : Nat} (h : ∀ c, c < us.length → le us c x = true) : topI ns us = (x : Int) := by
  obtain ⟨q1, q2, q3, q4, q5, q6, q7⟩ := right_parts hR
  have hO := right_ord h64 hR
  unfold topI
  rw [hR, if_pos rfl]
  exact least_of hO.turned (all_lt (by omega)) ⟨by rw [all_bit]; simpa using (hO.inn _ _ (h 0 (by omega))).2, fun b hb => by rw [le_turned us _ _ hO.inn]; exact h b (by rw [all_bit] at hb; simpa using hb)⟩

set_option maxRecDepth 100000 in
set_option maxHeartbeats 1000000 in
theorem refJoin_any (A B : Option Addr) (ns : List ByteArray) (us : List Nat) (c d : Nat) (a b : Int) (w : World) (hE : Env w) (hL : LatAt w A B c ns us) :
    Calls Tryd.prog 24 #[.agg #[.slice A ns.length c, .slice B us.length d], .int .i64 a, .int .i64 b] w fun e w' => e = .returned (.int .i64 (joinI ns us a b)) ∧ Below w.heap.size w w' := by
  have hX := Lib.hid (At.newT 27 (d := d) hE hL)
  have h64 := Lib.hid hL.w64
  clear hE hL
  go_enter Tryd.func24, Tryd.ntmps24
  go_wp2_with fail
  cases hR : rightB ns us with
  | false =>
    refine (rf_right hX.out hR).mono ?_
    rintro e w1 ⟨rfl, hY⟩
    have hE9 : Hid (joinI ns us a b = -1) := no_join hR
    replace hR := Lib.hid hR
    go_wp2_with fail
    go_ret
    exact ⟨ret_int hE9.out.symm, hY.out.below⟩
  | true =>
    refine (rf_right hX.out hR).mono ?_
    rintro e w1 ⟨rfl, hY⟩
    obtain ⟨z1, z2, z3, -, -, -, -⟩ := right_parts hR
    have hq : Hid (ns.length = us.length) := z3.symm
    have hl : us.length ≤ 64 := by omega
    replace hR := Lib.hid hR
    clear hX z1 z2 z3
    have hno : Hid (¬ (0 ≤ a ∧ 0 ≤ b ∧ a < us.length ∧ b < us.length) → joinI ns us a b = -1) := fun h => by
      have : (pointB ns.length us.length a && pointB ns.length us.length b) = false := by
        rw [← Bool.not_eq_true, Bool.and_eq_true]
        rintro ⟨e1, e2⟩
        have e1 : 0 ≤ a ∧ a < ns.length ∧ a < us.length := by simpa [pointB] using e1
        have e2 : 0 ≤ b ∧ b < ns.length ∧ b < us.length := by simpa [pointB] using e2
        exact h ⟨e1.1, e2.1, e1.2.2, e2.2.2⟩
      unfold joinI
      rw [hR.out, Bool.true_and, this]; rfl
    by_cases ha0 : a < 0
    · have hE9 := Lib.hid (hno.out (by omega))
      go_wp2_with fail
      go_ret
      exact ⟨ret_int hE9.out.symm, hY.out.below⟩
    by_cases hb0 : b < 0
    · have hE9 := Lib.hid (hno.out (by omega))
      go_wp2_with fail
      go_ret
      exact ⟨ret_int hE9.out.symm, hY.out.below⟩
    obtain ⟨ka, rfl⟩ := Int.eq_ofNat_of_zero_le (show 0 ≤ a by omega)
    obtain ⟨kb, rfl⟩ := Int.eq_ofNat_of_zero_le (show 0 ≤ b by omega)
    have q1 := hY.out.box.1
    have q2 := hY.out.box.2.1
    go_wp2_with fail
    clear q1 q2
    refine (rf_size hY.out hq.out).mono ?_
    rintro e w2 ⟨rfl, hZ⟩
    clear hY
    by_cases ha : ka < us.length
    case neg =>
      have hE9 := Lib.hid (hno.out (by omega))
      go_wp2_with fail
      go_ret
      exact ⟨ret_int hE9.out.symm, hZ.out.below⟩
    have q1 := hZ.out.box.1
    have q2 := hZ.out.box.2.1
    go_wp2_with fail
    clear q1 q2
    refine (rf_size hZ.out hq.out).mono ?_
    rintro e w3 ⟨rfl, hY⟩
    clear hZ
    by_cases hb : kb < us.length
    case neg =>
      have hE9 := Lib.hid (hno.out (by omega))
      go_wp2_with fail
      go_ret
      exact ⟨ret_int hE9.out.symm, hY.out.below⟩
    have hE9 : Hid (joinR us ka kb = joinI ns us ka kb) := by
      have hO := right_ord h64.out hR.out
      have e1 : pointB ns.length us.length (ka : Int) = true := by unfold pointB; rw [decide_eq_true_eq]; have := hq.out; omega
      have e2 : pointB ns.length us.length (kb : Int) = true := by unfold pointB; rw [decide_eq_true_eq]; have := hq.out; omega
      show joinR us ka kb = _
      unfold joinI
      rw [hR.out, e1, e2, if_pos (by rfl), joinR_eq hO]; rfl
    have q1 := hY.out.box.1
    have q2 := hY.out.box.2.1
    go_wp2_with fail
    clear q1 q2
    refine (rf_join hY.out hq.out hl ka kb ha hb hE9.out).mono ?_
    rintro e w4 ⟨rfl, hZ⟩
    go_wp2_with fail
    go_ret
    exact ⟨rfl, hZ.out.below⟩

set_option maxRecDepth 100000 in
set_option maxHeartbeats 1000000 in
theorem refMeet_any (A B : Option Addr) (ns : List ByteArray) (us : List Nat) (c d : Nat) (a b : Int) (w : World) (hE : Env w) (hL : LatAt w A B c ns us) :
    Calls Tryd.prog 26 #[.agg #[.slice A ns.length c, .slice B us.length d], .int .i64 a, .int .i64 b] w fun e w' => e = .returned (.int .i64 (meetI ns us a b)) ∧ Below w.heap.size w w' := by
  have hX := Lib.hid (At.newT 27 (d := d) hE hL)
  have h64 := Lib.hid hL.w64
  clear hE hL
  go_enter Tryd.func26, Tryd.ntmps26
  go_wp2_with fail
  cases hR : rightB ns us with
  | false =>
    refine (rf_right hX.out hR).mono ?_
    rintro e w1 ⟨rfl, hY⟩
    have hE9 : Hid (meetI ns us a b = -1) := no_meet hR
    replace hR := Lib.hid hR
    go_wp2_with fail
    go_ret
    exact ⟨ret_int hE9.out.symm, hY.out.below⟩
  | true =>
    refine (rf_right hX.out hR).mono ?_
    rintro e w1 ⟨rfl, hY⟩
    obtain ⟨z1, z2, z3, -, -, -, -⟩ := right_parts hR
    have hq : Hid (ns.length = us.length) := z3.symm
    have hl : us.length ≤ 64 := by omega
    replace hR := Lib.hid hR
    clear hX z1 z2 z3
    have hno : Hid (¬ (0 ≤ a ∧ 0 ≤ b ∧ a < us.length ∧ b < us.length) → meetI ns us a b = -1) := fun h => by
      have : (pointB ns.length us.length a && pointB ns.length us.length b) = false := by
        rw [← Bool.not_eq_true, Bool.and_eq_true]
        rintro ⟨e1, e2⟩
        have e1 : 0 ≤ a ∧ a < ns.length ∧ a < us.length := by simpa [pointB] using e1
        have e2 : 0 ≤ b ∧ b < ns.length ∧ b < us.length := by simpa [pointB] using e2
        exact h ⟨e1.1, e2.1, e1.2.2, e2.2.2⟩
      unfold meetI
      rw [hR.out, Bool.true_and, this]; rfl
    by_cases ha0 : a < 0
    · have hE9 := Lib.hid (hno.out (by omega))
      go_wp2_with fail
      go_ret
      exact ⟨ret_int hE9.out.symm, hY.out.below⟩
    by_cases hb0 : b < 0
    · have hE9 := Lib.hid (hno.out (by omega))
      go_wp2_with fail
      go_ret
      exact ⟨ret_int hE9.out.symm, hY.out.below⟩
    obtain ⟨ka, rfl⟩ := Int.eq_ofNat_of_zero_le (show 0 ≤ a by omega)
    obtain ⟨kb, rfl⟩ := Int.eq_ofNat_of_zero_le (show 0 ≤ b by omega)
    have q1 := hY.out.box.1
    have q2 := hY.out.box.2.1
    go_wp2_with fail
    clear q1 q2
    refine (rf_size hY.out hq.out).mono ?_
    rintro e w2 ⟨rfl, hZ⟩
    clear hY
    by_cases ha : ka < us.length
    case neg =>
      have hE9 := Lib.hid (hno.out (by omega))
      go_wp2_with fail
      go_ret
      exact ⟨ret_int hE9.out.symm, hZ.out.below⟩
    have q1 := hZ.out.box.1
    have q2 := hZ.out.box.2.1
    go_wp2_with fail
    clear q1 q2
    refine (rf_size hZ.out hq.out).mono ?_
    rintro e w3 ⟨rfl, hY⟩
    clear hZ
    by_cases hb : kb < us.length
    case neg =>
      have hE9 := Lib.hid (hno.out (by omega))
      go_wp2_with fail
      go_ret
      exact ⟨ret_int hE9.out.symm, hY.out.below⟩
    have hE9 : Hid (meetR us ka kb = meetI ns us ka kb) := by
      have hO := right_ord h64.out hR.out
      have e1 : pointB ns.length us.length (ka : Int) = true := by unfold pointB; rw [decide_eq_true_eq]; have := hq.out; omega
      have e2 : pointB ns.length us.length (kb : Int) = true := by unfold pointB; rw [decide_eq_true_eq]; have := hq.out; omega
      show meetR us ka kb = _
      unfold meetI
      rw [hR.out, e1, e2, if_pos (by rfl), meetR_eq hO, joinR_eq hO.turned]; rfl
    have q1 := hY.out.box.1
    have q2 := hY.out.box.2.1
    go_wp2_with fail
    clear q1 q2
    refine (rf_meet hY.out hq.out hl ka kb ha hb hE9.out).mono ?_
    rintro e w4 ⟨rfl, hZ⟩
    go_wp2_with fail
    go_ret
    exact ⟨rfl, hZ.out.below⟩

set_option maxRecDepth 100000 in
set_option maxHeartbeats 1000000 in
theorem refBottom_any (A B : Option Addr) (ns : List ByteArray) (us : List Nat) (c d : Nat) (w : World) (hE : Env w) (hL : LatAt w A B c ns us) :
    Calls Tryd.prog 28 #[.agg #[.slice A ns.length c, .slice B us.length d]] w fun e w' => e = .returned (.int .i64 (bottomI ns us)) ∧ Below w.heap.size w w' := by
  have hX := Lib.hid (At.newT 27 (d := d) hE hL)
  have h64 := Lib.hid hL.w64
  clear hE hL
  go_enter Tryd.func28, Tryd.ntmps28
  go_wp2_with fail
  cases hR : rightB ns us with
  | false =>
    refine (rf_right hX.out hR).mono ?_
    rintro e w1 ⟨rfl, hY⟩
    have hE9 : Hid (bottomI ns us = -1) := no_bottom hR
    replace hR := Lib.hid hR
    go_wp2_with fail
    go_ret
    exact ⟨ret_int hE9.out.symm, hY.out.below⟩
  | true =>
    refine (rf_right hX.out hR).mono ?_
    rintro e w1 ⟨rfl, hY⟩
    obtain ⟨z1, z2, z3, -, -, -, -⟩ := right_parts hR
    have hq : Hid (ns.length = us.length) := z3.symm
    have hl : us.length ≤ 64 := by omega
    have hpos : 0 < us.length := by omega
    replace hR := Lib.hid hR
    clear hX z1 z2 z3
    go_wp2_with fail
    go_loopw [3, 4] (fun v i wr => ∃ k x : Nat, k ≤ us.length ∧ x < us.length ∧ i = .int .i64 k ∧ v = .int .i64 x ∧ Hid (∀ j, j < k → le us x j = true) ∧ Hid (At w wr w.heap.size A B c d ns us)) (fun _ i _ => us.length - (intOf i).toNat)
    case atStart => exact ⟨0, 0, Nat.zero_le _, hpos, rfl, rfl, fun j hj => by omega, hY⟩
    case round =>
      clear hY
      obtain ⟨k, x, hk, hx, rfl, rfl, hok, hY⟩ := hrel
      have q1 := hY.out.box.1
      have q2 := hY.out.box.2.1
      go_wp2_with fail
      clear q1 q2
      refine (rf_size hY.out hq.out).mono ?_
      rintro e w2 ⟨rfl, hZ⟩
      clear hY
      by_cases hlt : k < us.length
      · have q1 := hZ.out.box.1
        have q2 := hZ.out.box.2.1
        go_wp2_with fail
        clear q1 q2
        obtain ⟨m, hm, hmx, hm1, hm2⟩ := meet_lo h64.out hR.out hx hlt
        refine (rf_meet hZ.out hq.out hl x k hx hlt hm).mono ?_
        rintro e w3 ⟨rfl, hY⟩
        have hok2 : Hid (∀ j, j < k + 1 → le us m j = true) := below_next (fun j hj => (right_ord h64.out hR.out).trans _ _ _ hm1 (hok.out j hj)) hm2
        replace hm := Lib.hid hm
        replace hm1 := Lib.hid hm1
        replace hm2 := Lib.hid hm2
        clear hZ
        go_wp2_with fail
        go_roundw
        case rel => exact ⟨k + 1, m, by omega, hmx, by go_num, rfl, hok2, hY⟩
        case measure => simp [intOf]; omega
      · have hE9 : Hid (bottomI ns us = (x : Int)) := bottom_is h64.out hR.out fun c hc => hok.out c (by omega)
        go_wp2_with fail
        go_ret
        exact ⟨ret_int hE9.out.symm, hZ.out.below⟩

set_option maxRecDepth 100000 in
set_option maxHeartbeats 1000000 in
theorem refTop_any (A B : Option Addr) (ns : List ByteArray) (us : List Nat) (c d : Nat) (w : World) (hE : Env w) (hL : LatAt w A B c ns us) :
    Calls Tryd.prog 30 #[.agg #[.slice A ns.length c, .slice B us.length d]] w fun e w' => e = .returned (.int .i64 (topI ns us)) ∧ Below w.heap.size w w' := by
  have hX := Lib.hid (At.newT 27 (d := d) hE hL)
  have h64 := Lib.hid hL.w64
  clear hE hL
  go_enter Tryd.func30, Tryd.ntmps30
  go_wp2_with fail
  cases hR : rightB ns us with
  | false =>
    refine (rf_right hX.out hR).mono ?_
    rintro e w1 ⟨rfl, hY⟩
    have hE9 : Hid (topI ns us = -1) := no_top hR
    replace hR := Lib.hid hR
    go_wp2_with fail
    go_ret
    exact ⟨ret_int hE9.out.symm, hY.out.below⟩
  | true =>
    refine (rf_right hX.out hR).mono ?_
    rintro e w1 ⟨rfl, hY⟩
    obtain ⟨z1, z2, z3, -, -, -, -⟩ := right_parts hR
    have hq : Hid (ns.length = us.length) := z3.symm
    have hl : us.length ≤ 64 := by omega
    have hpos : 0 < us.length := by omega
    replace hR := Lib.hid hR
    clear hX z1 z2 z3
    go_wp2_with fail
    go_loopw [3, 4] (fun v i wr => ∃ k x : Nat, k ≤ us.length ∧ x < us.length ∧ i = .int .i64 k ∧ v = .int .i64 x ∧ Hid (∀ j, j < k → le us j x = true) ∧ Hid (At w wr w.heap.size A B c d ns us)) (fun _ i _ => us.length - (intOf i).toNat)
    case atStart => exact ⟨0, 0, Nat.zero_le _, hpos, rfl, rfl, fun j hj => by omega, hY⟩
    case round =>
      clear hY
      obtain ⟨k, x, hk, hx, rfl, rfl, hok, hY⟩ := hrel
      have q1 := hY.out.box.1
      have q2 := hY.out.box.2.1
      go_wp2_with fail
      clear q1 q2
      refine (rf_size hY.out hq.out).mono ?_
      rintro e w2 ⟨rfl, hZ⟩
      clear hY
      by_cases hlt : k < us.length
      · have q1 := hZ.out.box.1
        have q2 := hZ.out.box.2.1
        go_wp2_with fail
        clear q1 q2
        obtain ⟨m, hm, hmx, hm1, hm2⟩ := join_hi h64.out hR.out hx hlt
        refine (rf_join hZ.out hq.out hl x k hx hlt hm).mono ?_
        rintro e w3 ⟨rfl, hY⟩
        have hok2 : Hid (∀ j, j < k + 1 → le us j m = true) := below_next (fun j hj => (right_ord h64.out hR.out).trans _ _ _ (hok.out j hj) hm1) hm2
        replace hm := Lib.hid hm
        replace hm1 := Lib.hid hm1
        replace hm2 := Lib.hid hm2
        clear hZ
        go_wp2_with fail
        go_roundw
        case rel => exact ⟨k + 1, m, by omega, hmx, by go_num, rfl, hok2, hY⟩
        case measure => simp [intOf]; omega
      · have hE9 : Hid (topI ns us = (x : Int)) := top_is h64.out hR.out fun c hc => hok.out c (by omega)
        go_wp2_with fail
        go_ret
        exact ⟨ret_int hE9.out.symm, hZ.out.below⟩

set_option maxRecDepth 100000 in
set_option maxHeartbeats 1000000 in
theorem reffind_any (A B : Option Addr) (ss : List ByteArray) (c m d : Nat) (x : ByteArray) (w : World) (hU : Strs w w.heap.size A ss) (hl : ss.length ≤ 9223372036854775807) :
    Calls Tryd.prog 22 #[.agg #[.slice A ss.length c, .slice B m d], .string x] w fun e w' => e = .returned (.int .i64 (findI ss x)) ∧ Below w.heap.size w w' := by
  have hb0 := later_alloc w (.cells #[.slice A ss.length c, .slice B m d] 27)
  have hbox := Box2.new w (.slice A ss.length c) (.slice B m d) 27
  replace hb0 := Lib.hid hb0
  replace hbox := Lib.hid hbox
  go_enter Tryd.func22, Tryd.ntmps22
  go_wp2_with fail
  go_loopw [5] (fun i wr => ∃ k : Nat, k ≤ ss.length ∧ i = .int .i64 k ∧ Hid (∀ j, j < k → Lt.nm ss j ≠ x) ∧ Hid (Box2 wr w.heap.size (.slice A ss.length c) (.slice B m d)) ∧ Hid (Below w.heap.size w wr)) (fun i _ => ss.length - (intOf i).toNat)
  case atStart => exact ⟨0, Nat.zero_le _, rfl, fun j hj => by omega, hbox, hb0⟩
  case round =>
    clear hbox hb0
    obtain ⟨k, hk, rfl, hok, hX, hB⟩ := hrel
    have q1 := hX.out.1
    have q2 := hX.out.2.1
    by_cases hlt : k < ss.length
    · obtain ⟨b, off, rfl, hb, hc⟩ := hU (by intro e; subst e; simp at hlt)
      have hck := (hB.out.cell (p := ⟨b, off + k, none⟩) hb).trans (hc k hlt)
      clear hc
      cases hq2 : ((Lt.nm ss k).toList == x.toList) with
      | true =>
        have hE9 : Hid (findI ss x = (k : Int)) := by
          have := Lib.idxOfS_hit ss ss.length k x hlt (Nat.le_refl _) (bytes_eq.1 hq2) (fun j hj => hok.out j hj)
          rwa [List.take_length] at this
        generalize Lt.nm ss k = X0 at hck hq2
        go_wp2_with fail
        go_ret
        exact ⟨ret_int hE9.out.symm, hB.out⟩
      | false =>
        have hok2 : Hid (∀ j, j < k + 1 → Lt.nm ss j ≠ x) := below_next hok.out (fun e => by rw [bytes_eq.2 e] at hq2; cases hq2)
        generalize hX0 : Lt.nm ss k = X0 at hck hq2
        replace hX0 := Lib.hid hX0
        go_wp2_with fail
        go_roundw
        case rel => exact ⟨k + 1, by omega, by go_num, hok2, hX, hB⟩
        case measure => simp [intOf]; omega
    · have hE9 : Hid (findI ss x = -1) := by
        have := Lib.idxOfS_miss ss ss.length x (fun j hj => hok.out j (by omega))
        rwa [List.take_length] at this
      go_wp2_with fail
      go_ret
      exact ⟨ret_int hE9.out.symm, hB.out⟩
end Go.Proofs.YtieamjpfmjkchaaDoor
