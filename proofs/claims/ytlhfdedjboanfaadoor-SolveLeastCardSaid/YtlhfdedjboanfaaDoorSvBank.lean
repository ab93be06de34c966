/-
  Rows that a call owns, side by side: one cell set, one row grown, the others as they were. No condition.
-/
import Derived.Test.YtlhfdedjboanfaaDoorAtMem
import Derived.Test.YtlhfdedjboanfaaDoorSvAbs
namespace Go.Proofs.YtlhfdedjboanfaaDoor
open Go.RowKit Go.Shelf Go.At Go.Sv

theorem own_form' {W : World} {base size n : Nat} {e : TypeId} {v : Value} {xs : List Value} (h : W.ownsRow base e size v n xs) : ∃ A c, v = .slice A n c ∧ n ≤ c ∧ c ≤ maxLen := by
  obtain ⟨_, ⟨rfl, h2⟩ | ⟨g, cap, cur, rfl, _, _, h3, h4, _⟩⟩ := h
  · subst h2; exact ⟨none, 0, rfl, Nat.le_refl _, Nat.zero_le _⟩
  · exact ⟨_, cap, rfl, h3, h4⟩
theorem own_at {W : World} {base size n : Nat} {e : TypeId} {v : Value} {xs : List Value} (h : W.ownsRow base e size v n xs) {k : Nat} (hk : v.ownBlock = some k) : base ≤ k ∧ k < W.heap.size := by
  obtain ⟨_, ⟨rfl, _⟩ | ⟨g, cap, cur, rfl, hb, hg, _⟩⟩ := h
  · cases hk
  · cases hk; exact ⟨hb, World.lt_of_get hg⟩
theorem own_same {W W' : World} {base size n : Nat} {e : TypeId} {v : Value} {xs : List Value} (h : W.ownsRow base e size v n xs) (he : ∀ g, v.ownBlock = some g → W'.heap[g]? = W.heap[g]?) : W'.ownsRow base e size v n xs := by
  obtain ⟨h0, ⟨h1, h2⟩ | ⟨g, cap, cur, rfl, hb, hg, h3⟩⟩ := h
  · exact ⟨h0, .inl ⟨h1, h2⟩⟩
  · exact ⟨h0, .inr ⟨g, cap, cur, rfl, hb, (he g rfl).trans hg, h3⟩⟩
/-- a cell of a row of one's own -/
theorem own_cellAt {W : World} {base size n c : Nat} {e : TypeId} {A : Option Addr} {xs : List Value} (h : W.ownsRow base e size (.slice A n c) n xs) (hp : 0 < n) : ∃ g, A = some ⟨g, 0, none⟩ ∧ base ≤ g ∧ ∀ i u, xs[i]? = some u → W.cell? ⟨g, i, none⟩ = some u ∧ W.frozen? ⟨g, i, none⟩ = false := by
  obtain ⟨h0, h1 | ⟨g, cap, cur, hv, hb, hg, h2, h3, h4, h5⟩⟩ := h
  · obtain ⟨_, h1⟩ := h1; omega
  · injection hv with e1 e2 e3
    subst e1
    refine ⟨g, rfl, hb, fun i u hu => ⟨?_, frozen_of_row W g i _ _ hg⟩⟩
    have hi := (List.getElem?_eq_some_iff.1 hu).1
    have e : cur[i]? = some u := by
      rw [← h5, List.getElem?_take_of_lt (by omega), Array.getElem?_toList] at hu
      exact hu
    rw [cell_of_row W g i cur _ _ hg]
    exact e
/-- a cell of a row is set -/
theorem own_setAt {W : World} {base size n c g : Nat} {e : TypeId} {xs : List Value} (h : W.ownsRow base e size (.slice (some ⟨g, 0, none⟩) n c) n xs) (i : Nat) (u : Value) : (W.setCell ⟨g, i, none⟩ u).ownsRow base e size (.slice (some ⟨g, 0, none⟩) n c) n (xs.set i u) := by
  obtain ⟨h0, h1 | ⟨g', cap, cur, hv, hb, hg, h2, h3, h4, h5⟩⟩ := h
  · obtain ⟨h1, _⟩ := h1; cases h1
  · injection hv with e1 e2 e3
    injection e1 with e1
    injection e1 with e1
    subst e1; subst e3
    refine ⟨by rw [List.length_set]; exact h0, .inr ⟨g, _, cur.setIfInBounds i u, rfl, hb, heap_setCell_same W g i _ _ u hg, h2, h3, by rw [Array.size_setIfInBounds]; exact h4, ?_⟩⟩
    rw [Array.toList_setIfInBounds, List.take_set, h5]
/-- .. is made one shorter -/
theorem own_short {W : World} {base n c : Nat} {e : TypeId} {A : Option Addr} {xs : List Value} {x : Value} (h : W.ownsRow base e 1 (.slice A (n + 1) c) (n + 1) (xs ++ [x])) : W.ownsRow base e 1 (.slice A n c) n xs := by
  obtain ⟨h0, h1 | ⟨g, cap, cur, hv, hb, hg, h2, h3, h4, h5⟩⟩ := h
  · obtain ⟨_, h1⟩ := h1; cases h1
  · injection hv with e1 e2 e3
    subst e1; subst e3
    have hx : xs.length = n := by simpa using h0
    refine ⟨by rw [hx]; omega, .inr ⟨g, _, cur, rfl, hb, hg, by omega, h3, h4, ?_⟩⟩
    have := congrArg (List.take n) h5
    rw [List.take_take, Nat.mul_one, Nat.min_eq_left (Nat.le_succ n), List.take_append_of_le_length (Nat.le_of_eq hx.symm), List.take_of_length_le (l := xs) (Nat.le_of_eq hx)] at this
    rw [Nat.mul_one]
    exact this

/-- no block of both -/
def Sep (u v : Value) : Prop := ∀ k, u.ownBlock = some k → v.ownBlock ≠ some k
theorem Sep.symm {u v : Value} (h : Sep u v) : Sep v u := fun k h1 h2 => h k h2 h1
/-- rows, each its own, beside a block q -/
structure Bank (W : World) (base q K : Nat) (ty : Nat → TypeId) (va : Nat → Value) (le : Nat → Nat) (xs : Nat → List Value) : Prop where
  own : ∀ k, k < K → W.ownsRow base (ty k) 1 (va k) (le k) (xs k)
  sep : ∀ j k, j < K → k < K → j ≠ k → Sep (va j) (va k)
  out : ∀ k, k < K → (va k).ownBlock ≠ some q
  low : base ≤ q
  qlt : q < W.heap.size
section
variable {W W' : World} {base q K : Nat} {ty : Nat → TypeId} {va : Nat → Value} {le : Nat → Nat} {xs : Nat → List Value}
theorem Bank.same (h : Bank W base q K ty va le xs) (hs : W.heap.size ≤ W'.heap.size) (he : ∀ k, k < K → ∀ g, (va k).ownBlock = some g → W'.heap[g]? = W.heap[g]?) : Bank W' base q K ty va le xs :=
  ⟨fun k hk => own_same (h.own k hk) (he k hk), h.sep, h.out, h.low, Nat.lt_of_lt_of_le h.qlt hs⟩
theorem Bank.later (h : Bank W base q K ty va le xs) (hb : Below W.heap.size W W') : Bank W' base q K ty va le xs :=
  h.same hb.size fun k hk g hg => hb.block g (own_at (h.own k hk) hg).2
/-- q's block turned -/
theorem Bank.setq (h : Bank W base q K ty va le xs) (i : Nat) (u : Value) : Bank (W.setCell ⟨q, i, none⟩ u) base q K ty va le xs :=
  h.same (by simp) fun k hk g hg => Below.heap_setCell _ _ _ _ fun e => h.out k hk (by rw [hg, e])
/-- a cell of a row turned -/
theorem Bank.set (h : Bank W base q K ty va le xs) {k g c : Nat} (hk : k < K) (hv : va k = .slice (some ⟨g, 0, none⟩) (le k) c) (i : Nat) (u : Value) :
    Bank (W.setCell ⟨g, i, none⟩ u) base q K ty va le (upd xs k ((xs k).set i u)) := by
  have hg : (va k).ownBlock = some g := by rw [hv]; rfl
  refine ⟨fun j hj => ?_, h.sep, h.out, h.low, by have := h.qlt; simpa using this⟩
  by_cases e : j = k
  · subst e
    rw [upd_same]
    have h1 := h.own j hj
    rw [hv] at h1 ⊢
    exact own_setAt h1 i u
  · rw [upd_other _ _ e]
    exact own_same (h.own j hj) fun g' hg' => Below.heap_setCell _ _ _ _ fun e2 => h.sep j k hj hk e g' hg' (by rw [hg]; exact congrArg some e2.symm)
/-- a row grown -/
theorem Bank.grow (h : Bank W base q K ty va le xs) {k n' : Nat} {v' : Value} {ys : List Value} (hk : k < K) {W1 : World} (hb : Below W.heap.size W W1) (ho : W'.ownsRow base (ty k) 1 v' n' ys) (hg : W1.grownBy W' (va k).ownBlock)
    (hat : v'.ownBlock = (va k).ownBlock ∨ ∃ z, v'.ownBlock = some z ∧ W.heap.size ≤ z) :
    Bank W' base q K ty (upd va k v') (upd le k n') (upd xs k ys) := by
  have hs : W.heap.size ≤ W'.heap.size := Nat.le_trans hb.size hg.size
  have kept : ∀ z, z < W.heap.size → (va k).ownBlock ≠ some z → W'.heap[z]? = W.heap[z]? := fun z hz hv => (hg.block z (Nat.lt_of_lt_of_le hz hb.size) (fun e => hv e.symm)).trans (hb.block z hz)
  have hsep : ∀ j, j < K → j ≠ k → Sep (va j) v' := fun j hj e z hz hz2 => by
    rcases hat with h1 | ⟨y, h1, h2⟩
    · rw [h1] at hz2; exact h.sep j k hj hk e z hz hz2
    · rw [h1] at hz2; injection hz2 with hz2
      have := (own_at (h.own j hj) hz).2
      omega
  refine ⟨fun j hj => ?_, fun i j hi hj e => ?_, fun j hj => ?_, h.low, Nat.lt_of_lt_of_le h.qlt hs⟩
  · by_cases e : j = k
    · subst e; rw [upd_same, upd_same, upd_same]; exact ho
    · rw [upd_other _ _ e, upd_other _ _ e, upd_other _ _ e]
      exact own_same (h.own j hj) fun g' hg' => kept g' (own_at (h.own j hj) hg').2 fun e2 => h.sep j k hj hk e g' hg' e2
  · by_cases e1 : i = k
    · subst e1
      rw [upd_same, upd_other _ _ (Ne.symm e)]
      exact (hsep j hj (Ne.symm e)).symm
    · rw [upd_other _ _ e1]
      by_cases e2 : j = k
      · subst e2; rw [upd_same]; exact hsep i hi e1
      · rw [upd_other _ _ e2]; exact h.sep i j hi hj e
  · by_cases e : j = k
    · subst e
      rw [upd_same]
      rcases hat with h1 | ⟨y, h1, h2⟩
      · rw [h1]; exact h.out j hj
      · rw [h1]; intro e2; injection e2 with e2; have := h.qlt; omega
    · rw [upd_other _ _ e]; exact h.out j hj
/-- a row made one shorter -/
theorem Bank.short (h : Bank W base q K ty va le xs) {k n c : Nat} {A : Option Addr} {ys : List Value} {x : Value} (hk : k < K) (hv : va k = .slice A (n + 1) c) (hn : le k = n + 1) (hx : xs k = ys ++ [x]) :
    Bank W base q K ty (upd va k (.slice A n c)) (upd le k n) (upd xs k ys) := by
  have ho := h.own k hk
  rw [hv, hn, hx] at ho
  have e0 : (Value.slice A n c).ownBlock = (va k).ownBlock := by rw [hv]; cases A <;> rfl
  refine h.grow hk (Below.refl _ _) (own_short ho) (World.grownBy.refl _ _) (.inl e0)
/-- a row's first cell is there -/
theorem Bank.row (h : Bank W base q K ty va le xs) {k : Nat} (hk : k < K) : ∃ A c, va k = .slice A (le k) c ∧ le k ≤ c ∧ c ≤ maxLen := own_form' (h.own k hk)
theorem Bank.cells (h : Bank W base q K ty va le xs) {k : Nat} (hk : k < K) (hp : 0 < le k) : ∃ g c, va k = .slice (some ⟨g, 0, none⟩) (le k) c ∧ le k ≤ c ∧ c ≤ maxLen ∧ base ≤ g ∧ g ≠ q ∧ ∀ i u, (xs k)[i]? = some u → W.cell? ⟨g, i, none⟩ = some u ∧ W.frozen? ⟨g, i, none⟩ = false := by
  obtain ⟨A, c, e, h1, h2⟩ := h.row hk
  have ho := h.own k hk
  rw [e] at ho
  obtain ⟨g, rfl, h3, h4⟩ := own_cellAt ho hp
  exact ⟨g, c, e, h1, h2, h3, fun e2 => h.out k hk (by rw [e, ← e2]; rfl), h4⟩
end
end Go.Proofs.YtlhfdedjboanfaaDoor
