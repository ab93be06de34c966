/-
  What follows of shifting and of renaming, as plain words. No condition.
-/
import Derived.Test.YtlhfdedjboanfaaDoorAtMath
namespace Go.At
theorem wrapI {x : Int} (h : I64 x) : IntKind.i64.wrap x = x := by
  unfold I64 at h
  simp [IntKind.wrap, IntKind.bits, IntKind.signed]
  split <;> omega
/-- an atom that is small enough -/
def smallA (a : Int) : Bool := decide (a < 1099511627776)
def smallP (p : Pr) : Bool := smallA p.1 && smallA p.2
theorem shift_up {n a : Int} (hn : 0 ≤ n ∧ n < 65536) (hs : smallA a = true) : shiftT n a = if a < 0 then a else a + n := by
  have h : a < 1099511627776 := of_decide_eq_true hs
  unfold shiftT
  split
  · rfl
  · unfold maxI addW
    rw [wrapI ⟨by omega, by omega⟩, if_neg (by omega)]
theorem shift_back {n a : Int} (hn : 0 ≤ n ∧ n < 65536) (ha : I64 a) (hs : smallA a = true) : shiftT (-n) (shiftT n a) = a := by
  have h : a < 1099511627776 := of_decide_eq_true hs
  rw [shift_up hn hs]
  by_cases h0 : a < 0
  · rw [if_pos h0]; unfold shiftT; rw [if_pos h0]
  · rw [if_neg h0]
    unfold shiftT
    rw [if_neg (by omega)]
    unfold maxI addW
    rw [show a + n + -n = a by omega, wrapI ha, if_neg h0]
theorem shift_lt {n a b : Int} (hn : 0 ≤ n ∧ n < 65536) (sa : smallA a = true) (sb : smallA b = true) : (shiftT n a < shiftT n b ↔ a < b) ∧ (shiftT n a = shiftT n b ↔ a = b) := by
  rw [shift_up hn sa, shift_up hn sb]
  constructor
  · split <;> split <;> omega
  · split <;> split <;> omega
theorem map_back {n : Int} (hn : 0 ≤ n ∧ n < 65536) : ∀ l : List Pr, (∀ p ∈ l, I64 p.1 ∧ I64 p.2) → (∀ p ∈ l, smallP p = true) → mapL (shiftT (-n)) (mapL (shiftT n) l) = l
  | [], _, _ => rfl
  | p :: r, h6, hs => by
    have ih := map_back hn r (fun q hq => h6 q (List.mem_cons_of_mem _ hq)) (fun q hq => hs q (List.mem_cons_of_mem _ hq))
    obtain ⟨i1, i2⟩ := h6 p (List.mem_cons_self ..)
    have hp := hs p (List.mem_cons_self ..)
    unfold smallP at hp
    rw [Bool.and_eq_true] at hp
    show (shiftT (-n) (shiftT n p.1), shiftT (-n) (shiftT n p.2)) :: mapL (shiftT (-n)) (mapL (shiftT n) r) = p :: r
    rw [ih, shift_back hn i1 hp.1, shift_back hn i2 hp.2]
theorem norm_map {f : Int → Int} {l : List Pr} (hf : ∀ p ∈ l, ∀ q ∈ l, ltP (f p.1, f p.2) (f q.1, f q.2) = ltP p q) (hu : ∀ p ∈ l, unlike (f p.1, f p.2) = unlike p) : normL (mapL f l) = mapL f (normL l) := by
  have hmem : ∀ p, p ∈ normL l → p ∈ l ∧ unlike p = true := fun p hp => by
    have := (ord_mem linP _ p).1 hp
    exact List.mem_filter.1 this
  symm
  refine ord_of linP ?_ fun z => ?_
  · refine List.pairwise_map.2 ((ord_asc linP (l.filter unlike)).imp_of_mem fun {a b} ha hb h => ?_)
    rw [hf a (hmem a ha).1 b (hmem b hb).1]
    exact h
  · rw [List.mem_filter]
    simp only [mapL, List.mem_map]
    constructor
    · rintro ⟨p, hp, rfl⟩
      obtain ⟨h1, h2⟩ := hmem p hp
      exact ⟨⟨p, h1, rfl⟩, by rw [hu p h1]; exact h2⟩
    · rintro ⟨⟨p, hp, rfl⟩, h2⟩
      rw [hu p hp] at h2
      exact ⟨p, (ord_mem linP _ p).2 (List.mem_filter.2 ⟨hp, h2⟩), rfl⟩
theorem norm_shift {n : Int} (hn : 0 ≤ n ∧ n < 65536) {l : List Pr} (hs : ∀ p ∈ l, smallP p = true) : normL (mapL (shiftT n) l) = mapL (shiftT n) (normL l) := by
  have sm : ∀ p ∈ l, smallA p.1 = true ∧ smallA p.2 = true := fun p hp => by
    have := hs p hp
    unfold smallP at this
    rwa [Bool.and_eq_true] at this
  refine norm_map (fun p hp q hq => ?_) (fun p hp => ?_)
  · obtain ⟨x1, x2⟩ := shift_lt hn (sm p hp).1 (sm q hq).1
    obtain ⟨y1, y2⟩ := shift_lt hn (sm p hp).2 (sm q hq).2
    simp only [ltP]
    rw [decide_eq_decide.2 x1, decide_eq_decide.2 x2, decide_eq_decide.2 y1]
  · obtain ⟨x1, x2⟩ := shift_lt hn (sm p hp).1 (sm p hp).2
    unfold unlike
    by_cases h : p.1 = p.2
    · simp [h]
    · have h' : shiftT n p.1 ≠ shiftT n p.2 := fun e => h (x2.1 e)
      rw [beq_eq_false_iff_ne.2 h, beq_eq_false_iff_ne.2 h']
theorem shift_i64 {n a : Int} (ha : I64 a) : I64 (shiftT n a) := by
  unfold shiftT
  split
  · exact ha
  · unfold maxI
    split
    · exact ⟨by omega, by omega⟩
    · rename_i h
      unfold addW at h ⊢
      refine ⟨by omega, ?_⟩
      simp [IntKind.wrap, IntKind.bits, IntKind.signed]
      split <;> omega
theorem map_i64 {f : Int → Int} (hf : ∀ a, I64 a → I64 (f a)) {l : List Pr} (h6 : ∀ p ∈ l, I64 p.1 ∧ I64 p.2) : ∀ p ∈ mapL f l, I64 p.1 ∧ I64 p.2 := by
  intro p hp
  simp only [mapL, List.mem_map] at hp
  obtain ⟨q, hq, rfl⟩ := hp
  exact ⟨hf _ (h6 q hq).1, hf _ (h6 q hq).2⟩
theorem norm_i64 {l : List Pr} (h6 : ∀ p ∈ l, I64 p.1 ∧ I64 p.2) : ∀ p ∈ normL l, I64 p.1 ∧ I64 p.2 := by
  intro p hp
  have := (ord_mem linP _ p).1 hp
  exact h6 p (List.mem_filter.1 this).1
theorem norm_len (l : List Pr) : (normL l).length ≤ l.length := Nat.le_trans (ord_len _) (List.length_filter_le _ _)
end Go.At
