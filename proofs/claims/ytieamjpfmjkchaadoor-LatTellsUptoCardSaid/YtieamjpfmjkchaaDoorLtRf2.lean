/-
  The walks of the reference's size, Leq, names, order. Conditions: the lattice can be read; for order: as many names as rows, at most 64.
-/
import Derived.Test.YtieamjpfmjkchaaDoorLtRf1
import Derived.BigQuiet
import Derived.Deep.QuietTactic
namespace Go.Proofs.YtieamjpfmjkchaaDoor
open Go.RowKit Go.Shelf Go.Lt

section
variable {w W : World} {p : Nat} {A B : Option Addr} {c d : Nat} {ns : List ByteArray} {us : List Nat}
theorem At.newT (t : TypeId) (hE : Env w) (hL : LatAt w A B c ns us) : At w (w.alloc (.cells #[.slice A ns.length c, .slice B us.length d] t)) w.heap.size A B c d ns us :=
  ⟨later_alloc _ _, hE.later (later_alloc _ _), Box2.new w _ _ _, hL.later (later_alloc _ _)⟩

theorem refsize_any (A B : Option Addr) (n m c d : Nat) (w : World) :
    Calls Tryd.prog 48 #[.agg #[.slice A n c, .slice B m d]] w fun e w' => e = .returned (.int .i64 (min n m : Nat)) ∧ w.alloc (.cells #[.slice A n c, .slice B m d] 27) = w' := by
  by_cases h : n ≤ m
  · go_enter Tryd.func48, Tryd.ntmps48
    go_wp2
    go_ret
    exact ⟨ret_int (by omega), rfl⟩
  · go_enter Tryd.func48, Tryd.ntmps48
    go_wp2
    go_ret
    exact ⟨ret_int (by omega), rfl⟩
theorem rf_size (hX : At w W p A B c d ns us) (hq : ns.length = us.length) : Calls Tryd.prog 48 #[.agg #[.slice A ns.length c, .slice B us.length d]] W fun e w' => e = .returned (.int .i64 (us.length : Nat)) ∧ Hid (At w w' p A B c d ns us) :=
  (refsize_any A B ns.length us.length c d W).mono fun _ _ ⟨h1, h2⟩ => ⟨by rw [h1, hq, Nat.min_self], hX.later (h2 ▸ later_alloc _ _)⟩

theorem shr_odd (r k : Nat) : (((r : Int) / 2 ^ k % 2) == 1) = r.testBit k := by
  have e1 : ((r : Int) / 2 ^ k) = ((r / 2 ^ k : Nat) : Int) := by rw [Int.natCast_ediv]; simp
  rw [e1, Nat.testBit_eq_decide_div_mod_eq]
  rcases Nat.mod_two_eq_zero_or_one (r / 2 ^ k) with e | e
  · have : ((r / 2 ^ k : Nat) : Int) % 2 = 0 := by omega
    rw [this, e]; rfl
  · have : ((r / 2 ^ k : Nat) : Int) % 2 = 1 := by omega
    rw [this, e]; rfl
end

set_option maxHeartbeats 1000000 in
theorem refleq_any (A B : Option Addr) (us : List Nat) (n c d : Nat) (a b : Int) (w : World) (hU : Words w w.heap.size B us) (h64 : W64 us) (hl : us.length ≤ 9223372036854775807) :
    Calls Tryd.prog 18 #[.agg #[.slice A n c, .slice B us.length d], .int .i64 a, .int .i64 b] w fun e w' => e = .returned (.bool (leqB n us a b)) ∧ Below w.heap.size w w' := by
  have hb1 : Below w.heap.size w ((w.alloc (.cells #[.slice A n c, .slice B us.length d] 27)).alloc (.cells #[.slice A n c, .slice B us.length d] 27)) := (later_alloc _ _).alloc (by simp) _
  replace hb1 := Lib.hid hb1
  by_cases h : pointB n us.length a = true ∧ pointB n us.length b = true ∧ b < 64
  · obtain ⟨h1, h2, h3⟩ := h
    have e1 : 0 ≤ a ∧ a < n ∧ a < us.length := by simpa [pointB] using h1
    have e2 : 0 ≤ b ∧ b < n ∧ b < us.length := by simpa [pointB] using h2
    obtain ⟨ka, rfl⟩ := Int.eq_ofNat_of_zero_le e1.1
    obtain ⟨kb, rfl⟩ := Int.eq_ofNat_of_zero_le e2.1
    have hlt : ka < us.length := by omega
    have hk : kb < 64 := by omega
    obtain ⟨bb, off, rfl, hb, hc⟩ := hU (by intro e; subst e; simp at hlt)
    have hck := hc ka hlt
    have hr := h64 ka
    have hbb1 : bb < w.heap.size + 1 := by omega
    have hbb2 : bb < w.heap.size + 1 + 1 := by omega
    have g1 : ka < min n us.length := by omega
    have g2 : kb < min n us.length := by omega
    have hE : Hid (leqB n us ka kb = (row us ka).testBit kb) := by
      show leqB n us ka kb = _
      unfold leqB; rw [h1, h2]; simp
    have hS := Lib.hid (shr_odd (row us ka) kb)
    clear hc e1 e2 h1 h2
    generalize hm : min n us.length = mn at g1 g2
    have hz := Lib.hid (fun W => hm ▸ refsize_any A (some ⟨bb, off, none⟩) n us.length c d W)
    go_enter Tryd.func18, Tryd.ntmps18
    go_wp2_with fail
    refine (hz.out _).mono ?_
    rintro e w1 ⟨rfl, rfl⟩
    go_wp2_with fail
    go_ret
    exact ⟨ret_bool (by rw [hE.out]; exact hS.out), hb1.out⟩
  · have hE : Hid (leqB n us a b = false) := by
      show leqB n us a b = false
      unfold leqB
      cases h1 : pointB n us.length a with
      | false => rfl
      | true =>
        cases h2 : pointB n us.length b with
        | false => rfl
        | true =>
          have e2 : 0 ≤ b ∧ b < n ∧ b < us.length := by simpa [pointB] using h2
          have h3 : ¬ b < 64 := fun h3 => h ⟨h1, h2, h3⟩
          have := h64 a.toNat
          rw [Nat.testBit_lt_two_pow (Nat.lt_of_lt_of_le this (Nat.pow_le_pow_right (n := 2) (by omega) (show 64 ≤ b.toNat by omega)))]
          rfl
    have hc : a < 0 ∨ (0 ≤ a ∧ b < 0) ∨ (0 ≤ a ∧ 0 ≤ b ∧ ¬ a < (min n us.length : Nat)) ∨ (0 ≤ a ∧ 0 ≤ b ∧ a < (min n us.length : Nat) ∧ ¬ b < (min n us.length : Nat)) ∨ (0 ≤ a ∧ 0 ≤ b ∧ a < (min n us.length : Nat) ∧ b < (min n us.length : Nat) ∧ ¬ b < 64) := by
      unfold pointB at h
      simp only [decide_eq_true_eq] at h
      omega
    clear h
    have hz := Lib.hid (fun W => refsize_any A B n us.length c d W)
    generalize min n us.length = mn at hz hc
    rcases hc with hc | ⟨hc, hc2⟩ | ⟨hc, hc2, hc3⟩ | ⟨hc, hc2, hc3, hc4⟩ | ⟨hc, hc2, hc3, hc4, hc5⟩
    all_goals
      go_enter Tryd.func18, Tryd.ntmps18
      go_wp2_with fail
      refine (hz.out _).mono ?_
      rintro e w1 ⟨rfl, rfl⟩
      go_wp2_with fail
      go_ret
      exact ⟨ret_bool hE.out.symm, hb1.out⟩

section
variable {w W : World} {p : Nat} {A B : Option Addr} {c d : Nat} {ns : List ByteArray} {us : List Nat}
theorem rf_leq (hX : At w W p A B c d ns us) (a b : Int) {r : Bool} (hr : leqB ns.length us a b = r) : Calls Tryd.prog 18 #[.agg #[.slice A ns.length c, .slice B us.length d], .int .i64 a, .int .i64 b] W fun e w' => e = .returned (.bool r) ∧ Hid (At w w' p A B c d ns us) :=
  (refleq_any A B us ns.length c d a b W hX.lat.words hX.lat.w64 hX.lat.ulen).mono fun _ _ ⟨h1, h2⟩ => ⟨by rw [h1, hr], hX.later h2⟩
theorem rf_le (hX : At w W p A B c d ns us) (hq : ns.length = us.length) (a b : Nat) (ha : a < us.length) (hb : b < us.length) {r : Bool} (hr : le us a b = r) : Calls Tryd.prog 18 #[.agg #[.slice A ns.length c, .slice B us.length d], .int .i64 a, .int .i64 b] W fun e w' => e = .returned (.bool r) ∧ Hid (At w w' p A B c d ns us) :=
  rf_leq hX a b (by
    rw [← hr]
    unfold leqB le pointB
    have e1 : decide ((0 : Int) ≤ (a : Int) ∧ (a : Int) < (ns.length : Int) ∧ (a : Int) < (us.length : Int)) = true := by rw [decide_eq_true_eq]; omega
    have e2 : decide ((0 : Int) ≤ (b : Int) ∧ (b : Int) < (ns.length : Int) ∧ (b : Int) < (us.length : Int)) = true := by rw [decide_eq_true_eq]; omega
    rw [e1, e2]; rfl)
end

theorem twice_iff {ss : List ByteArray} {k : Nat} (hk : k ≤ ss.length) : twice ss k = true ↔ ∃ j, j < k ∧ Lt.nm ss j = Lt.nm ss k := by
  unfold twice
  rw [Lib.containsS_iff]
  constructor
  · intro h
    obtain ⟨j, hj, e⟩ := List.getElem_of_mem h
    rw [List.length_take] at hj
    refine ⟨j, by omega, ?_⟩
    rw [← e, List.getElem_take]
    unfold Lt.nm
    rw [List.getD_eq_getElem?_getD, List.getElem?_eq_getElem (by omega)]; rfl
  · rintro ⟨j, hj, e⟩
    rw [← e]
    unfold Lt.nm
    rw [List.getD_eq_getElem?_getD, List.getElem?_eq_getElem (by omega)]
    exact List.mem_take_iff_getElem.2 ⟨j, by omega, rfl⟩
theorem bytes_eq {a b : ByteArray} : (a.toList == b.toList) = true ↔ a = b := by
  rw [beq_iff_eq]
  constructor
  · intro h
    rw [ByteArray.toList_eq, ByteArray.toList_eq] at h
    exact toList_inj h
  · rintro rfl; rfl

set_option maxRecDepth 100000 in
set_option maxHeartbeats 1000000 in
theorem refnames_any (A : Option Addr) (ss : List ByteArray) (c : Nat) (w : World) (hU : Strs w w.heap.size A ss) (hm : SMax ss) (hl : ss.length ≤ 9223372036854775807) :
    Calls Tryd.prog 42 #[.slice A ss.length c] w fun e w' => e = .returned (.bool (namedB ss)) ∧ Below w.heap.size w w' := by
  have hno : Hid (∀ k, k < ss.length → namedAt ss k = false → namedB ss = false) := fun k hk h => by
    unfold namedB
    rw [List.all_eq_false]
    exact ⟨k, List.mem_range.2 hk, by rw [h]; simp⟩
  go_enter Tryd.func42, Tryd.ntmps42
  go_wp2_with fail
  go_loopw [3] (fun i wr => ∃ k : Nat, k ≤ ss.length ∧ i = .int .i64 k ∧ Hid (∀ j, j < k → namedAt ss j = true) ∧ Hid (Below w.heap.size w wr)) (fun i _ => ss.length - (intOf i).toNat)
  case atStart => exact ⟨0, Nat.zero_le _, rfl, fun j hj => by omega, Below.refl _ _⟩
  case round =>
    obtain ⟨k, hk, rfl, hok, hB⟩ := hrel
    obtain ⟨wo, rfl⟩ : ∃ wo : World, wo = wr := ⟨_, rfl⟩
    by_cases hlt : k < ss.length
    · obtain ⟨b, off, rfl, hb, hc⟩ := hU (by intro e; subst e; simp at hlt)
      have hck := (hB.out.cell (p := ⟨b, off + k, none⟩) hb).trans (hc k hlt)
      have hmk := hm k
      have HC := Lib.hid hc
      clear hc
      go_wp2_with fail
      refine (refname_any _ _ hmk).mono ?_
      rintro e w1 ⟨rfl, rfl⟩
      cases h1 : nameB (Lt.nm ss k) with
      | false =>
        have hE := Lib.hid (hno.out k hlt (by unfold namedAt; rw [h1]; rfl))
        replace h1 := Lib.hid h1
        go_wp2_with fail
        go_ret
        exact ⟨ret_bool hE.out.symm, hB.out⟩
      | true =>
        have h1' := Lib.hid h1
        clear h1
        go_wp2_with fail
        go_loopw [4] (fun i wr => ∃ q : Nat, q ≤ k ∧ i = .int .i64 q ∧ Hid (∀ j, j < q → Lt.nm ss j ≠ Lt.nm ss k) ∧ Hid (Below w.heap.size w wr)) (fun i _ => k - (intOf i).toNat)
        case atStart => exact ⟨0, Nat.zero_le _, rfl, fun j hj => by omega, hB⟩
        case round =>
          clear hck
          obtain ⟨q, hq, rfl, hok2, hB2⟩ := hrel
          by_cases hqk : q < k
          · have hck := (hB2.out.cell (p := ⟨b, off + k, none⟩) hb).trans (HC.out k hlt)
            have hcq := (hB2.out.cell (p := ⟨b, off + q, none⟩) hb).trans (HC.out q (by omega))
            have hql : q < ss.length := by omega
            cases hq2 : ((Lt.nm ss q).toList == (Lt.nm ss k).toList) with
            | true =>
              have hE := Lib.hid (hno.out k hlt (by
                unfold namedAt
                rw [(twice_iff hk).2 ⟨q, hqk, bytes_eq.1 hq2⟩]; simp))
              generalize Lt.nm ss q = X0 at hcq hq2
              generalize Lt.nm ss k = X1 at hck hq2
              go_wp2_with fail
              go_quiet (fail)
              all_goals go_wp2
              all_goals go_ret
              all_goals exact ⟨ret_bool hE.out.symm, belowN hB2.out _⟩
            | false =>
              have hok3 : Hid (∀ j, j < q + 1 → Lt.nm ss j ≠ Lt.nm ss k) := fun j hj => by
                by_cases e : j < q
                · exact hok2.out j e
                · obtain rfl : j = q := by omega
                  intro e
                  rw [bytes_eq.2 e] at hq2
                  cases hq2
              generalize hX0 : Lt.nm ss q = X0 at hcq hq2
              generalize hX1 : Lt.nm ss k = X1 at hck hq2 hok3
              replace hX0 := Lib.hid hX0
              replace hX1 := Lib.hid hX1
              go_wp2_with fail
              go_quiet (fail)
              all_goals go_wp2
              all_goals go_roundw
              case rel => exact ⟨q + 1, by omega, by go_num, hok3, belowN hB2.out _⟩
              case measure => simp [intOf]; omega
          · have hok3 : Hid (∀ j, j < k + 1 → namedAt ss j = true) := fun j hj => by
              by_cases e : j < k
              · exact hok.out j e
              · obtain rfl : j = k := by omega
                unfold namedAt
                rw [h1'.out]
                have : ¬ twice ss j = true := fun e => by
                  obtain ⟨i, hi, e⟩ := (twice_iff hk).1 e
                  exact hok2.out i (by omega) e
                rw [Bool.not_eq_true] at this
                rw [this]; rfl
            go_wp2_with fail
            go_roundw
            case rel => exact ⟨k + 1, by omega, by go_num, hok3, hB2⟩
            case measure => simp [intOf]; omega
    · have hE : Hid (namedB ss = true) := by
        show namedB ss = true
        unfold namedB
        rw [List.all_eq_true]
        intro j hj
        exact hok.out j (by have := List.mem_range.1 hj; omega)
      go_wp2_with fail
      go_ret
      exact ⟨ret_bool hE.out.symm, hB.out⟩
end Go.Proofs.YtieamjpfmjkchaaDoor
