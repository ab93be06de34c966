import Derived.Lib.TrailingZeros
namespace Go.Lt

/-! Bits of a set in one word. -/
def upto (u k : Nat) : List Nat := (List.range k).filter (fun b => u.testBit b)
def places (u : Nat) : List Nat := upto u 64

theorem upto_bit {u k : Nat} (h : u.testBit k = true) : upto u (k + 1) = upto u k ++ [k] := by
  unfold upto
  rw [List.range_succ, List.filter_append]
  simp [h]
theorem upto_nobit {u k : Nat} (h : u.testBit k = false) : upto u (k + 1) = upto u k := by
  unfold upto
  rw [List.range_succ, List.filter_append]
  simp [h]
theorem upto_gap {u k : Nat} : ∀ (d : Nat), (∀ i, k ≤ i → i < k + d → u.testBit i = false) → upto u (k + d) = upto u k
  | 0, _ => rfl
  | d + 1, h => by
    rw [show k + (d + 1) = (k + d) + 1 from rfl, upto_nobit (h (k + d) (by omega) (by omega))]
    exact upto_gap d fun i h1 h2 => h i h1 (by omega)
theorem mem_upto {u k b : Nat} : b ∈ upto u k ↔ b < k ∧ u.testBit b = true := by
  unfold upto
  simp
theorem testBit_lt {u b n : Nat} (hu : u < 2 ^ n) (hb : u.testBit b = true) : b < n := by
  refine Decidable.byContradiction fun h => ?_
  rw [Nat.testBit_lt_two_pow (Nat.lt_of_lt_of_le hu (Nat.pow_le_pow_right (by omega) (by omega)))] at hb
  cases hb
theorem lt_of_bits {u n : Nat} (h : ∀ b, n ≤ b → u.testBit b = false) : u < 2 ^ n := Nat.lt_pow_two_of_testBit u fun b hb => h b hb

theorem low (x : Nat) (h0 : x ≠ 0) (h : x < 2 ^ 64) : ∃ m, x = 2 ^ Lib.ctz 64 x * (2 * m + 1) ∧ Lib.ctz 64 x < 64 := by
  unfold Lib.ctz
  rw [if_neg h0]
  exact Lib.ctzFrom_spec 64 x (by omega) h
theorem low_lt (x : Nat) (h0 : x ≠ 0) (h : x < 2 ^ 64) : Lib.ctz 64 x < 64 := by
  obtain ⟨_, _, h2⟩ := low x h0 h
  exact h2
theorem low_bit (x : Nat) (h0 : x ≠ 0) (h : x < 2 ^ 64) : x.testBit (Lib.ctz 64 x) = true := by
  obtain ⟨m, e, _⟩ := low x h0 h
  generalize Lib.ctz 64 x = c at e
  rw [e, Nat.testBit_two_pow_mul]
  simp
theorem low_none (x : Nat) (h0 : x ≠ 0) (h : x < 2 ^ 64) (i : Nat) (hi : i < Lib.ctz 64 x) : x.testBit i = false := by
  obtain ⟨m, e, _⟩ := low x h0 h
  generalize Lib.ctz 64 x = c at e hi
  rw [e, Nat.testBit_two_pow_mul]
  simp; omega
theorem clear_low (x : Nat) (h0 : x ≠ 0) (h : x < 2 ^ 64) (i : Nat) : (x &&& (x - 1)).testBit i = (x.testBit i && i != Lib.ctz 64 x) := by
  obtain ⟨m, e, _⟩ := low x h0 h
  generalize Lib.ctz 64 x = c at e
  have e1 : x - 1 = 2 ^ c * (2 * m) + (2 ^ c - 1) := by
    rw [e]
    have : 0 < 2 ^ c := Nat.two_pow_pos c
    rw [Nat.mul_add]; omega
  rw [Nat.testBit_and, e1, Nat.testBit_two_pow_mul_add _ (by have : 0 < 2 ^ c := Nat.two_pow_pos c; omega), e, Nat.testBit_two_pow_mul]
  by_cases h1 : i < c
  · simp [h1]; omega
  · rw [if_neg h1]
    by_cases h2 : i = c
    · subst h2; simp
    · obtain ⟨j, rfl⟩ : ∃ j, i = c + 1 + j := ⟨i - c - 1, by omega⟩
      have e2 : c + 1 + j - c = j + 1 := by omega
      rw [e2]
      have e3 : (2 * m + 1).testBit (j + 1) = (2 * m).testBit (j + 1) := by
        rw [Nat.testBit_succ, Nat.testBit_succ]
        congr 1
        omega
      rw [e3]
      have h3 : (c + 1 + j != c) = true := by rw [bne_iff_ne]; omega
      rw [h3]
      cases (2 * m).testBit (j + 1) <;> simp

theorem upto_prefix {u k : Nat} : ∀ d, upto u k <+: upto u (k + d)
  | 0 => List.prefix_refl _
  | d + 1 => by
    refine (upto_prefix (u := u) (k := k) d).trans ?_
    rw [show k + (d + 1) = (k + d) + 1 from rfl]
    cases h : u.testBit (k + d)
    · rw [upto_nobit h]; exact List.prefix_refl _
    · rw [upto_bit h]; exact List.prefix_append _ _
theorem upto_places {u k : Nat} (hk : k ≤ 64) : upto u k <+: places u := by
  have := upto_prefix (u := u) (k := k) (64 - k)
  rwa [show k + (64 - k) = 64 by omega] at this
/-- one step of the iterator: what is left has the bits of u from k on -/
def Left (u k left : Nat) : Prop := ∀ i, left.testBit i = (decide (k ≤ i) && u.testBit i)
theorem left_zero (u : Nat) : Left u 0 u := fun i => by simp
theorem Left.lt {u k left : Nat} (h : Left u k left) (hu : u < 2 ^ 64) : left < 2 ^ 64 :=
  lt_of_bits fun b hb => by
    rw [h b, Nat.testBit_lt_two_pow (Nat.lt_of_lt_of_le hu (Nat.pow_le_pow_right (by omega) hb))]
    simp
theorem Left.done {u k : Nat} (h : Left u k 0) (hk : k ≤ 64) : upto u k = places u := by
  have := upto_gap (u := u) (k := k) (64 - k) fun i h1 h2 => by
    have h3 := h i
    simp at h3
    exact h3 h1
  rw [show k + (64 - k) = 64 by omega] at this
  exact this.symm
theorem Left.next {u k left : Nat} (h : Left u k left) (hu : u < 2 ^ 64) (h0 : left ≠ 0) :
    u.testBit (Lib.ctz 64 left) = true ∧ k ≤ Lib.ctz 64 left ∧ Lib.ctz 64 left < 64 ∧ upto u (Lib.ctz 64 left + 1) = upto u k ++ [Lib.ctz 64 left] ∧ Left u (Lib.ctz 64 left + 1) (left &&& (left - 1)) := by
  have hl := h.lt hu
  have h1 := low_bit left h0 hl
  have h2 := low_none left h0 hl
  have h3 := clear_low left h0 hl
  have h4 := low_lt left h0 hl
  generalize Lib.ctz 64 left = c at h1 h2 h3 h4 ⊢
  have h5 := h c
  rw [h1] at h5
  simp at h5
  obtain ⟨hk, hb⟩ := h5
  refine ⟨hb, hk, h4, ?_, ?_⟩
  · rw [upto_bit hb]
    have := upto_gap (u := u) (k := k) (c - k) fun i g1 g2 => by
      have g3 := h i
      rw [h2 i (by omega)] at g3
      simpa [g1] using g3.symm
    rw [show k + (c - k) = c by omega] at this
    rw [this]
  · intro i
    rw [h3 i, h i]
    by_cases g : c + 1 ≤ i
    · have g1 : (i != c) = true := by rw [bne_iff_ne]; omega
      simp [g, g1]; omega
    · by_cases g2 : i = c
      · subst g2; simp [g]
      · have g3 := h i
        rw [h2 i (by omega)] at g3
        simp [g]
        intro g4 g5
        simp [g4] at g3
        rw [g3] at g5; cases g5
/-- the measure: how many places are left -/
theorem clear_less {left : Nat} (h0 : left ≠ 0) : left &&& (left - 1) < left := by
  have : left &&& (left - 1) ≤ left - 1 := Nat.and_le_right
  omega

/-- s is within r -/
def sub (s r : Nat) : Bool := s &&& (18446744073709551615 - r) == 0
theorem bit_compl {r : Nat} (hr : r < 2 ^ 64) (i : Nat) : (18446744073709551615 - r).testBit i = (decide (i < 64) && !r.testBit i) := by
  have := Nat.testBit_two_pow_sub_succ (x := r) (n := 64) hr i
  rw [← this]
  congr 1
  omega
theorem sub_iff {s r : Nat} (hs : s < 2 ^ 64) (hr : r < 2 ^ 64) : sub s r = true ↔ ∀ b, s.testBit b = true → r.testBit b = true := by
  unfold sub
  rw [beq_iff_eq]
  constructor
  · intro h b hb
    have h1 : (s &&& (18446744073709551615 - r)).testBit b = false := by rw [h]; simp
    rw [Nat.testBit_and, bit_compl hr, hb] at h1
    have := testBit_lt hs hb
    simpa [this] using h1
  · intro h
    apply Nat.eq_of_testBit_eq
    intro i
    rw [Nat.testBit_and, bit_compl hr]
    by_cases hb : s.testBit i = true
    · simp [hb, h i hb]
    · simp [hb]

/-- the set of the first n places -/
def all (n : Nat) : Nat := 2 ^ n - 1
theorem all_lt {n : Nat} (hn : n ≤ 64) : all n < 2 ^ 64 := by
  unfold all
  have := Nat.pow_le_pow_right (n := 2) (by omega) hn
  have := Nat.two_pow_pos n
  omega
theorem all_bit (n i : Nat) : (all n).testBit i = decide (i < n) := by
  unfold all
  exact Nat.testBit_two_pow_sub_one n i

def row (rows : List Nat) (a : Nat) : Nat := rows.getD a 0

def leastP (rows : List Nat) (set a : Nat) : Bool := sub set (row rows a)
def least (rows : List Nat) (set : Nat) : Int :=
  match (places set).find? (leastP rows set) with
  | some a => (a : Int)
  | none => -1

def within (rows : List Nat) : Bool := rows.all fun r => sub r (all rows.length)

def ordPlace (rows : List Nat) (a b : Nat) : Bool := sub (row rows b) (row rows a) && !(a != b && (row rows b).testBit a)
def ordRow (rows : List Nat) (a : Nat) : Bool := (row rows a).testBit a && (places (row rows a)).all (ordPlace rows a)
def ordered (rows : List Nat) : Bool := (List.range rows.length).all (ordRow rows)

def compTo (rows : List Nat) (a b : Nat) : Bool := decide (0 ≤ least rows (row rows a &&& row rows b))
def compRow (rows : List Nat) (a : Nat) : Bool := (List.range a).all (compTo rows a)
def complete (rows : List Nat) : Bool := (List.range rows.length).all (compRow rows) && decide (0 ≤ least rows (all rows.length))

end Go.Lt
