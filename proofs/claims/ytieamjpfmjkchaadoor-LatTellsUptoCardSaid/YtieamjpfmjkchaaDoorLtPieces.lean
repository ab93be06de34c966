/-
  A text cut at one byte, and put together again: both ways round. Conditions: none but those named.
-/
import Derived.Lib.SplitLaws
import Derived.Lib.Join
namespace Go.Lt

theorem idx_none (c : UInt8) : ∀ l : List UInt8, c ∉ l → Lib.index l [c] = -1
  | [], _ => by simp [Lib.index]
  | b :: l, h => by
    have h1 : c ≠ b := fun e => h (by simp [e])
    have h2 := idx_none c l (fun hm => h (List.mem_cons_of_mem _ hm))
    rw [Lib.index, h2]
    simp [List.isPrefixOf, h1]
theorem idx_at (c : UInt8) : ∀ (x r : List UInt8), c ∉ x → Lib.index (x ++ c :: r) [c] = (x.length : Int)
  | [], r, _ => by simp [Lib.index, List.isPrefixOf]
  | b :: x, r, h => by
    have h1 : c ≠ b := fun e => h (by simp [e])
    have h2 := idx_at c x r (fun hm => h (List.mem_cons_of_mem _ hm))
    rw [List.cons_append, Lib.index, h2]
    have h3 : ((x.length : Int) == -1) = false := beq_eq_false_iff_ne.2 (by omega)
    simp [List.isPrefixOf, h1]
theorem join_two (x y : List UInt8) (r : List (List UInt8)) (s : List UInt8) : Lib.join (x :: y :: r) s = x ++ s ++ Lib.join (y :: r) s := by simp [Lib.join]
theorem splitK_ne (sep : List UInt8) (v : Nat) : ∀ k s, Lib.splitK sep v k s ≠ []
  | 0, s => by simp [Lib.splitK]
  | k + 1, s => by
    unfold Lib.splitK
    split <;> simp
theorem splitK_hit (c : UInt8) (k : Nat) (x r : List UInt8) (h : c ∉ x) : Lib.splitK [c] 0 (k + 1) (x ++ c :: r) = x :: Lib.splitK [c] 0 k r := by
  rw [Lib.splitK, idx_at c x r h, if_neg (by rw [beq_iff_eq]; omega)]
  simp
theorem join_split (c : UInt8) : ∀ (k : Nat) (l : List UInt8), l.count c = k → Lib.join (Lib.splitK [c] 0 k l) [c] = l
  | 0, l, _ => by rw [Lib.splitK, Lib.join_one]
  | k + 1, l, h => by
    have hm : c ∈ l := List.count_pos_iff.1 (by omega)
    obtain ⟨x, r, rfl, hx⟩ := List.eq_append_cons_of_mem hm
    have hr : r.count c = k := by
      rw [List.count_append, List.count_eq_zero.2 hx, List.count_cons_self] at h
      omega
    rw [splitK_hit c k x r hx]
    have ih := join_split c k r hr
    cases hs : Lib.splitK [c] 0 k r with
    | nil => exact absurd hs (splitK_ne _ _ _ _)
    | cons y t =>
      rw [join_two, ← hs, ih]
      simp
theorem split_join (c : UInt8) : ∀ (x : List UInt8) (r : List (List UInt8)), (∀ y ∈ x :: r, c ∉ y) → Lib.splitK [c] 0 r.length (Lib.join (x :: r) [c]) = x :: r ∧ (Lib.join (x :: r) [c]).count c = r.length
  | x, [], h => by
    rw [Lib.join_one]
    exact ⟨rfl, List.count_eq_zero.2 (h x (by simp))⟩
  | x, y :: r, h => by
    obtain ⟨h1, h2⟩ := split_join c y r (fun z hz => h z (List.mem_cons_of_mem _ hz))
    have hx := h x (by simp)
    have e : x ++ [c] ++ Lib.join (y :: r) [c] = x ++ c :: Lib.join (y :: r) [c] := by simp
    rw [join_two, e]
    refine ⟨?_, ?_⟩
    · rw [List.length_cons, splitK_hit c _ x _ hx, h1]
    · rw [List.count_append, List.count_eq_zero.2 hx, List.count_cons_self, h2, List.length_cons]
      omega
theorem cut_at (c : UInt8) (x r : List UInt8) (h : c ∉ x) : Lib.cut (x ++ c :: r) [c] = (x, r, true) := by
  unfold Lib.cut
  rw [idx_at c x r h, if_pos (by omega)]
  simp
theorem cut_none (c : UInt8) (l : List UInt8) (h : c ∉ l) : Lib.cut l [c] = (l, [], false) := by
  unfold Lib.cut
  rw [idx_none c l h, if_neg (by decide)]
end Go.Lt
