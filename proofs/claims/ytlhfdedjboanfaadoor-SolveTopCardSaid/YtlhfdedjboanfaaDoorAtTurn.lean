/-
  turned: each atom by a function value. Condition: the pairs can be read, at most 2^43; the function value leaves the world as it is.
-/
import Derived.Test.YtlhfdedjboanfaaDoorAtW1
namespace Go.Proofs.YtlhfdedjboanfaaDoor
open Go.RowKit Go.Shelf Go.At
attribute [local go_sem] Oper.semAt_some

theorem infoPr : (Tryd.prog.info? 58).map (fun i => (i.zero, i.size, i.bytes)) = some (some (.agg #[.int .i64 0, .int .i64 0]), 2, 16) := by kernel_rfl
/-- a row of L pairs, the first of which are told -/
def PMade (W : World) (ty : TypeId) (g L : Nat) (m : List Pr) : Prop := ∃ cur : Array Value, W.heap[g]? = some (.cells cur ty (0, 0)) ∧ cur.size = L * 2 ∧ ∀ j, j < m.length → cur[j * 2]? = some (.int .i64 (m.getD j (0, 0)).1) ∧ cur[j * 2 + 1]? = some (.int .i64 (m.getD j (0, 0)).2)
theorem PMade.block {W W' : World} {ty : TypeId} {g L : Nat} {m : List Pr} (h : PMade W ty g L m) (e : W'.heap[g]? = W.heap[g]?) : PMade W' ty g L m := by
  obtain ⟨cur, h1, h2⟩ := h
  exact ⟨cur, e.trans h1, h2⟩
theorem PMade.lt {W : World} {ty : TypeId} {g L : Nat} {m : List Pr} (h : PMade W ty g L m) : g < W.heap.size := by
  obtain ⟨cur, h1, _⟩ := h
  exact World.lt_of_get h1
theorem PMade.old {W : World} {ty : TypeId} {g L : Nat} {m : List Pr} (h : PMade W ty g L m) {k : Nat} (hk : k < L) : (∃ u, W.cell? ⟨g, k * 2, none⟩ = some u) ∧ (∃ u, W.cell? ⟨g, k * 2 + 1, none⟩ = some u) ∧ W.frozen? ⟨g, k * 2, none⟩ = false ∧ W.frozen? ⟨g, k * 2 + 1, none⟩ = false := by
  obtain ⟨cur, h1, h2, _⟩ := h
  refine ⟨⟨cur[k * 2]'(by omega), ?_⟩, ⟨cur[k * 2 + 1]'(by omega), ?_⟩, by simp [World.frozen?, h1], by simp [World.frozen?, h1]⟩
  · simp [World.cell?, h1]
  · simp [World.cell?, h1]
theorem PMade.put {W : World} {ty : TypeId} {g L : Nat} {m : List Pr} (h : PMade W ty g L m) (hk : m.length < L) (p : Pr) : PMade ((W.setCell ⟨g, m.length * 2, none⟩ (.int .i64 p.1)).setCell ⟨g, m.length * 2 + 1, none⟩ (.int .i64 p.2)) ty g L (m ++ [p]) := by
  obtain ⟨cur, h1, h2, h3⟩ := h
  have e1 := heap_setCell_same W g (m.length * 2) _ _ (.int .i64 p.1) h1
  have e2 := heap_setCell_same _ g (m.length * 2 + 1) _ _ (.int .i64 p.2) e1
  refine ⟨_, e2, by simpa using h2, fun j hj => ?_⟩
  rw [List.length_append, List.length_singleton] at hj
  by_cases e : j = m.length
  · subst e
    have e3 : (m ++ [p]).getD m.length (0, 0) = p := by simp
    rw [e3]
    constructor
    · rw [Array.getElem?_setIfInBounds, if_neg (by omega), Array.getElem?_setIfInBounds, if_pos rfl, if_pos (by omega)]
    · rw [Array.getElem?_setIfInBounds, if_pos rfl, if_pos (by simp; omega)]
  · have e3 : (m ++ [p]).getD j (0, 0) = m.getD j (0, 0) := by
      rw [List.getD_eq_getElem?_getD, List.getD_eq_getElem?_getD, List.getElem?_append_left (by omega)]
    rw [e3]
    obtain ⟨x1, x2⟩ := h3 j (by omega)
    constructor
    · rw [Array.getElem?_setIfInBounds, if_neg (by omega), Array.getElem?_setIfInBounds, if_neg (by omega)]; exact x1
    · rw [Array.getElem?_setIfInBounds, if_neg (by omega), Array.getElem?_setIfInBounds, if_neg (by omega)]; exact x2
theorem PMade.prs {W : World} {ty : TypeId} {g L : Nat} {m : List Pr} (h : PMade W ty g L m) : Prs W (some ⟨g, 0, none⟩) m := fun _ => by
  have hl := h.lt
  obtain ⟨cur, h1, h2, h3⟩ := h
  refine ⟨g, 0, rfl, hl, fun j hj => ?_⟩
  obtain ⟨x1, x2⟩ := h3 j hj
  rw [Nat.zero_add]
  exact ⟨by simpa [World.cell?, h1] using x1, by simpa [World.cell?, h1] using x2⟩

end Go.Proofs.YtlhfdedjboanfaaDoor
