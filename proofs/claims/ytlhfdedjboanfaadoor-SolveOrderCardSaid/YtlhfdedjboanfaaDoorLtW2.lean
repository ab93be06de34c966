/-
  The walks of lat.point, lat.within, lat.named, lat.Find, lat.Leq: what each returns. Conditions: slices shorter than 2^62.
-/
import Derived.Test.YtlhfdedjboanfaaDoorLtW1
namespace Go.Proofs.YtlhfdedjboanfaaDoor.L
open Go.RowKit Go.Shelf Go.Lt

def pointB (n m : Nat) (i : Int) : Bool := decide (0 ≤ i ∧ i < n ∧ i < m)
theorem point_any (A B : Option Addr) (n m c d : Nat) (i : Int) (w : World) :
    Calls Tryd.prog 51 #[.agg #[.slice A n c, .slice B m d], .int .i64 i] w fun e w' => e = .returned (.bool (pointB n m i)) ∧ w.alloc (.cells #[.slice A n c, .slice B m d] 25) = w' := by
  by_cases h1 : 0 ≤ i <;> by_cases h2 : i < n <;> by_cases h3 : i < m
  all_goals
    go_enter Tryd.func51, Tryd.ntmps51
    go_wp2
    go_ret
    exact ⟨ret_bool (by unfold pointB; simp; omega), rfl⟩

set_option maxHeartbeats 400000 in
theorem within_any (A : Option Addr) (us : List Nat) (c : Nat) (w : World) (hU : Words w w.heap.size A us) (h64 : W64 us) (hl : us.length ≤ 64) :
    Calls Tryd.prog 64 #[.slice A us.length c] w fun e w' => e = .returned (.bool (within us)) ∧ w = w' := by
  have hall := all_lt hl
  go_enter Tryd.func64, Tryd.ntmps64
  go_wp2
  go_loop [7] (fun i => ∃ k : Nat, k ≤ us.length ∧ i = .int .i64 k ∧ Hid (∀ j, j < k → sub (row us j) (Lt.all us.length) = true)) (fun i => us.length - (intOf i).toNat)
  case atStart => exact ⟨0, Nat.zero_le _, rfl, fun j hj => by omega⟩
  case round =>
    obtain ⟨k, hk, rfl, hok⟩ := hrel
    by_cases hlt : k < us.length
    · obtain ⟨b, off, rfl, hb, hc⟩ := hU (by intro e; subst e; simp at hlt)
      have hck := hc k hlt
      clear hc
      have hr := h64 k
      have hbits := u64_andNot_nat (row us k) (Lt.all us.length) hr hall
      by_cases hs : sub (row us k) (Lt.all us.length) = true
      · have hz : (bits BinOp.andNot IntKind.u64 (row us k : Nat) (Lt.all us.length : Nat) != 0) = false := by
          rw [hbits]; unfold sub at hs; simp only [bne_eq_false_iff_eq]; have := beq_iff_eq.1 hs; omega
        have hok2 : Hid (∀ j, j < k + 1 → sub (row us j) (Lt.all us.length) = true) := fun j hj => by
          by_cases e : j < k
          · exact hok.out j e
          · obtain rfl : j = k := by omega
            exact hs
        clear hbits hs
        go_wp2_with (go_at_call 56; refine (all_any _ hl _).mono ?_; rintro e w' ⟨rfl, rfl⟩)
        go_round
        case rel => exact ⟨k + 1, by omega, by go_num, hok2⟩
        case measure => simp [intOf]; omega
      · have hz : (bits BinOp.andNot IntKind.u64 (row us k : Nat) (Lt.all us.length : Nat) != 0) = true := by
          rw [hbits]; unfold sub at hs; rw [bne_iff_ne]; intro e; exact hs (beq_iff_eq.2 (by omega))
        have hE : Hid (within us = false) := by
          show within us = false
          unfold within
          rw [List.all_eq_false]
          refine ⟨row us k, ?_, by simpa using hs⟩
          unfold row
          rw [List.getD_eq_getElem?_getD, List.getElem?_eq_getElem hlt]
          exact List.getElem_mem hlt
        clear hbits hs
        go_wp2_with (go_at_call 56; refine (all_any _ hl _).mono ?_; rintro e w' ⟨rfl, rfl⟩)
        go_ret
        exact ⟨ret_bool hE.out.symm, rfl⟩
    · have hE : Hid (within us = true) := by
        show within us = true
        unfold within
        rw [List.all_eq_true]
        intro r hr
        obtain ⟨j, hj, rfl⟩ := List.getElem_of_mem hr
        have := hok.out j (by omega)
        unfold row at this
        rw [List.getD_eq_getElem?_getD, List.getElem?_eq_getElem hj] at this
        exact this
      go_wp2
      go_ret
      exact ⟨ret_bool hE.out.symm, rfl⟩

/-- is it the name of one ahead of it? -/
def twice (ss : List ByteArray) (i : Nat) : Bool := Lib.containsS (ss.take i) (Lt.nm ss i)
def namedAt (ss : List ByteArray) (i : Nat) : Bool := nameB (Lt.nm ss i) && !twice ss i
def namedB (ss : List ByteArray) : Bool := (List.range ss.length).all (namedAt ss)

/-- every string is one that a machine can hold -/
def SMax (ss : List ByteArray) : Prop := ∀ j, (Lt.nm ss j).size ≤ 9223372036854775807

set_option maxHeartbeats 400000 in
theorem named_any (A : Option Addr) (ss : List ByteArray) (c : Nat) (w : World) (hU : Strs w w.heap.size A ss) (hm : SMax ss) (hl : ss.length ≤ 9223372036854775807) (hcap : ss.length ≤ c) (hcap2 : c ≤ 9223372036854775807) :
    Calls Tryd.prog 63 #[.slice A ss.length c] w fun e w' => e = .returned (.bool (namedB ss)) ∧ w = w' := by
  go_enter Tryd.func63, Tryd.ntmps63
  go_wp2
  go_loop [7] (fun i => ∃ k : Nat, k ≤ ss.length ∧ i = .int .i64 k ∧ Hid (∀ j, j < k → namedAt ss j = true)) (fun i => ss.length - (intOf i).toNat)
  case atStart => exact ⟨0, Nat.zero_le _, rfl, fun j hj => by omega⟩
  case round =>
    obtain ⟨k, hk, rfl, hok⟩ := hrel
    by_cases hlt : k < ss.length
    · obtain ⟨b, off, rfl, hb, hc⟩ := hU (by intro e; subst e; simp at hlt)
      have hck := hc k hlt
      have hmk := hm k
      have HC := Lib.hid hc
      clear hc
      have key : ∀ (ww : World), ww = w → Calls Tryd.prog 78 #[.slice (some ⟨b, off, none⟩) k c, .string (Lt.nm ss k)] ww fun e w' => e = .returned (.bool (twice ss k)) ∧ ww = w' := fun ww e => by
        subst e
        exact (Tryd.slices_Contains_string b off k c ss (Lt.nm ss k) ww (by omega) (by omega) (fun j hj => HC.out j hj)).mono fun e w' ⟨h1, h2⟩ => ⟨h1, h2.symm⟩
      have KEY := Lib.hid key
      clear key
      by_cases h1 : nameB (Lt.nm ss k) = true
      · by_cases h2 : twice ss k = true
        · have hE : Hid (namedB ss = false) := by
            show namedB ss = false
            unfold namedB
            rw [List.all_eq_false]
            exact ⟨k, List.mem_range.2 hlt, by unfold namedAt; simp [h1, h2]⟩
          go_wp2_with (first | (go_at_call 77; refine (name_any _ _ hmk).mono ?_; rintro e w' ⟨rfl, rfl⟩) | (go_at_call 78; refine (KEY.out _ rfl).mono ?_; rintro e w' ⟨rfl, rfl⟩))
          go_ret
          exact ⟨ret_bool hE.out.symm, rfl⟩
        · have h2 : twice ss k = false := by simpa using h2
          have hok2 : Hid (∀ j, j < k + 1 → namedAt ss j = true) := fun j hj => by
            by_cases e : j < k
            · exact hok.out j e
            · obtain rfl : j = k := by omega
              unfold namedAt; simp [h1, h2]
          go_wp2_with (first | (go_at_call 77; refine (name_any _ _ hmk).mono ?_; rintro e w' ⟨rfl, rfl⟩) | (go_at_call 78; refine (KEY.out _ rfl).mono ?_; rintro e w' ⟨rfl, rfl⟩))
          go_round
          case rel => exact ⟨k + 1, by omega, by go_num, hok2⟩
          case measure => simp [intOf]; omega
      · have h1 : nameB (Lt.nm ss k) = false := by simpa using h1
        have hE : Hid (namedB ss = false) := by
          show namedB ss = false
          unfold namedB
          rw [List.all_eq_false]
          exact ⟨k, List.mem_range.2 hlt, by unfold namedAt; simp [h1]⟩
        go_wp2_with (first | (go_at_call 77; refine (name_any _ _ hmk).mono ?_; rintro e w' ⟨rfl, rfl⟩) | (go_at_call 78; refine (KEY.out _ rfl).mono ?_; rintro e w' ⟨rfl, rfl⟩))
        go_ret
        exact ⟨ret_bool hE.out.symm, rfl⟩
    · have hE : Hid (namedB ss = true) := by
        show namedB ss = true
        unfold namedB
        rw [List.all_eq_true]
        intro j hj
        exact hok.out j (by have := List.mem_range.1 hj; omega)
      go_wp2
      go_ret
      exact ⟨ret_bool hE.out.symm, rfl⟩

/-- is a below b? -/
def leqB (n : Nat) (us : List Nat) (a b : Int) : Bool := pointB n us.length a && pointB n us.length b && (Lt.row us a.toNat).testBit b.toNat

set_option maxHeartbeats 400000 in
theorem leq_any (A B : Option Addr) (us : List Nat) (n c d : Nat) (a b : Int) (w : World) (hU : Words w w.heap.size B us) (h64 : W64 us) (hl : us.length ≤ 9223372036854775807) :
    Calls Tryd.prog 23 #[.agg #[.slice A n c, .slice B us.length d], .int .i64 a, .int .i64 b] w fun e w' => e = .returned (.bool (leqB n us a b)) ∧ Below w.heap.size w w' := by
  by_cases h1 : pointB n us.length a = true
  · by_cases h2 : pointB n us.length b = true
    · have e1 : 0 ≤ a ∧ a < n ∧ a < us.length := by simpa [pointB] using h1
      have e2 : 0 ≤ b ∧ b < n ∧ b < us.length := by simpa [pointB] using h2
      obtain ⟨ka, rfl⟩ := Int.eq_ofNat_of_zero_le e1.1
      obtain ⟨kb, rfl⟩ := Int.eq_ofNat_of_zero_le e2.1
      have hlt : ka < us.length := by omega
      obtain ⟨bb, off, rfl, hb, hc⟩ := hU (by intro e; subst e; simp at hlt)
      have hck := hc ka hlt
      have hr := h64 ka
      clear hc e1 e2
      have hb1 : bb < w.heap.size + 1 := by omega
      have hb2 : bb < w.heap.size + 1 + 1 := by omega
      go_enter Tryd.func23, Tryd.ntmps23
      go_wp2_with (go_at_call 51; refine (point_any _ _ _ _ _ _ _ _).mono ?_; rintro e w' ⟨rfl, rfl⟩)
      go_ret
      exact ⟨ret_bool (by rw [shr_eq1 _ _ hr]; unfold leqB; rw [h1, h2]; rfl), (((Below.refl _ _).alloc (Nat.le_refl _) _).alloc (by simp) _).alloc (by simp; omega) _⟩
    · have h2 : pointB n us.length b = false := by simpa using h2
      have hE : Hid (leqB n us a b = false) := by
        show leqB n us a b = false
        unfold leqB; rw [h2]; simp
      go_enter Tryd.func23, Tryd.ntmps23
      go_wp2_with (go_at_call 51; refine (point_any _ _ _ _ _ _ _ _).mono ?_; rintro e w' ⟨rfl, rfl⟩)
      go_ret
      exact ⟨ret_bool hE.out.symm, (((Below.refl _ _).alloc (Nat.le_refl _) _).alloc (by simp) _).alloc (by simp; omega) _⟩
  · have h1 : pointB n us.length a = false := by simpa using h1
    have hE : Hid (leqB n us a b = false) := by
      show leqB n us a b = false
      unfold leqB; rw [h1]; simp
    go_enter Tryd.func23, Tryd.ntmps23
    go_wp2_with (go_at_call 51; refine (point_any _ _ _ _ _ _ _ _).mono ?_; rintro e w' ⟨rfl, rfl⟩)
    go_ret
    exact ⟨ret_bool hE.out.symm, ((Below.refl _ _).alloc (Nat.le_refl _) _).alloc (by simp) _⟩
end Go.Proofs.YtlhfdedjboanfaaDoor.L
