/-
  A row of pairs that may be written; the closures of Norm; DeleteFunc. Condition: the row lies in a block of the call's own.
-/
import Derived.Test.YtkagmkejndjepaaGreatDoorAtEq
import Derived.Test.YtkagmkejndjepaaGreatDoorAtTurn
import Derived.Shelf.SlicesQ.IndexFunc
import Derived.Test.YtkagmkejndjepaaGreatDoorAtLay
import Derived.Lib.SlKept
import Derived.Lib.SliceRun
namespace Go.Proofs.YtkagmkejndjepaaGreatDoor
open Go.RowKit Go.Shelf Go.At Go.Lib
attribute [local go_sem] Oper.semAt_some

/-- pairs at the head of a block of the call's own -/
def PArr (W : World) (g : Nat) (d : Array Pr) : Prop := ∃ cur : Array Value, W.heap[g]? = some (.cells cur 53 (0, 0)) ∧ d.size * 2 ≤ cur.size ∧ ∀ j, j < d.size → cur[j * 2]? = some (.int .i64 d[j]!.1) ∧ cur[j * 2 + 1]? = some (.int .i64 d[j]!.2)
theorem PArr.block {W W' : World} {g : Nat} {d : Array Pr} (h : PArr W g d) (e : W'.heap[g]? = W.heap[g]?) : PArr W' g d := by
  obtain ⟨cur, h1, h2⟩ := h
  exact ⟨cur, e.trans h1, h2⟩
theorem PArr.lt {W : World} {g : Nat} {d : Array Pr} (h : PArr W g d) : g < W.heap.size := by
  obtain ⟨cur, h1, _⟩ := h
  exact World.lt_of_get h1
theorem PArr.cell {W : World} {g : Nat} {d : Array Pr} (h : PArr W g d) {j : Nat} (hj : j < d.size) : W.cell? ⟨g, j * 2, none⟩ = some (.int .i64 d[j]!.1) ∧ W.cell? ⟨g, j * 2 + 1, none⟩ = some (.int .i64 d[j]!.2) := by
  obtain ⟨cur, h1, h2, h3⟩ := h
  obtain ⟨x1, x2⟩ := h3 j hj
  exact ⟨by simpa [World.cell?, h1] using x1, by simpa [World.cell?, h1] using x2⟩
theorem PArr.frozen {W : World} {g : Nat} {d : Array Pr} (h : PArr W g d) (j : Nat) : W.frozen? ⟨g, j, none⟩ = false := by
  obtain ⟨cur, h1, _⟩ := h
  simp [World.frozen?, h1]
theorem PArr.sub {W : World} {g : Nat} {d d' : Array Pr} (h : PArr W g d) (hs : d'.size ≤ d.size) (he : ∀ j, j < d'.size → d'[j]! = d[j]!) : PArr W g d' := by
  obtain ⟨cur, h1, h2, h3⟩ := h
  exact ⟨cur, h1, by omega, fun j hj => by rw [he j hj]; exact h3 j (by omega)⟩
theorem PArr.put {W : World} {g : Nat} {d : Array Pr} (h : PArr W g d) {i : Nat} (hi : i < d.size) (p : Pr) : PArr ((W.setCell ⟨g, i * 2, none⟩ (.int .i64 p.1)).setCell ⟨g, i * 2 + 1, none⟩ (.int .i64 p.2)) g (d.setIfInBounds i p) := by
  obtain ⟨cur, h1, h2, h3⟩ := h
  have e1 := heap_setCell_same W g (i * 2) _ _ (.int .i64 p.1) h1
  have e2 := heap_setCell_same _ g (i * 2 + 1) _ _ (.int .i64 p.2) e1
  refine ⟨_, e2, by simpa using h2, fun j hj => ?_⟩
  simp only [Array.size_setIfInBounds] at hj
  by_cases e : j = i
  · subst e
    rw [Go.Sort.getElem!_set_same _ _ _ hj]
    constructor
    · rw [Array.getElem?_setIfInBounds, if_neg (by omega), Array.getElem?_setIfInBounds, if_pos rfl, if_pos (by omega)]
    · rw [Array.getElem?_setIfInBounds, if_pos rfl, if_pos (by simp; omega)]
  · rw [Go.Sort.getElem!_set_other _ _ _ _ e]
    obtain ⟨x1, x2⟩ := h3 j hj
    constructor
    · rw [Array.getElem?_setIfInBounds, if_neg (by omega), Array.getElem?_setIfInBounds, if_neg (by omega)]; exact x1
    · rw [Array.getElem?_setIfInBounds, if_neg (by omega), Array.getElem?_setIfInBounds, if_neg (by omega)]; exact x2
theorem setCells_row {g : Nat} {ty : TypeId} : ∀ (vs : List Value) (s : Nat) (W : World) (cur : Array Value), W.heap[g]? = some (.cells cur ty (0, 0)) → ∃ cur', (W.setCells g s vs).heap[g]? = some (.cells cur' ty (0, 0)) ∧ cur'.size = cur.size ∧ (∀ j, j < s → cur'[j]? = cur[j]?) ∧ Below g W (W.setCells g s vs)
  | [], s, W, cur, h => ⟨cur, h, rfl, fun _ _ => rfl, Below.refl _ _⟩
  | v :: r, s, W, cur, h => by
    obtain ⟨cur', h1, h2, h3, h4⟩ := setCells_row r (s + 1) (W.setCell ⟨g, s, none⟩ v) _ (heap_setCell_same W g s _ _ v h)
    refine ⟨cur', h1, by simpa using h2, fun j hj => ?_, ((Below.refl g W).setCell (p := ⟨g, s, none⟩) (Nat.le_refl _) v).trans h4⟩
    rw [h3 j (by omega), Array.getElem?_setIfInBounds, if_neg (by omega)]
theorem PArr.cleared {W : World} {g : Nat} {d d' : Array Pr} (h : PArr W g d) {s : Nat} (hs : d'.size * 2 ≤ s) (hd : d'.size ≤ d.size) (he : ∀ j, j < d'.size → d'[j]! = d[j]!) (vs : List Value) : PArr (W.setCells g s vs) g d' ∧ Below g W (W.setCells g s vs) := by
  obtain ⟨cur, h1, h2, h3⟩ := h
  obtain ⟨cur', e1, e2, e3, e4⟩ := setCells_row vs s W cur h1
  refine ⟨⟨cur', e1, by omega, fun j hj => ?_⟩, e4⟩
  rw [he j hj, e3 _ (by omega), e3 _ (by omega)]
  exact h3 j (by omega)
theorem PArr.prs {W : World} {g : Nat} {d : Array Pr} {l : List Pr} (h : PArr W g d) (hl : d.toList = l) : Prs W (some ⟨g, 0, none⟩) l := fun _ => by
  have hlt := h.lt
  refine ⟨g, 0, rfl, hlt, fun j hj => ?_⟩
  subst hl
  have hj' : j < d.size := by simpa using hj
  have e : d.toList.getD j (0, 0) = d[j]! := by
    rw [List.getD_eq_getElem?_getD, List.getElem?_eq_getElem hj, getElem!_pos d j hj']; simp
  rw [e, Nat.zero_add]
  exact h.cell hj'
/-- clear(s), s a slice of pairs -/
theorem run_clearP (w : World) (ty : TypeId) (g o n c : Nat) (hn : 0 < n) (hc : ∀ j, j < n * 2 → (w.cell? ⟨g, o + j, none⟩).isSome = true) (hf : ∀ j, j < n * 2 → w.frozen? ⟨g, o + j, none⟩ = false) :
    (Builtin.clear_ #[22] ty #[.slice (some ⟨g, o, none⟩) n c]).run Tryz.prog w = .ok (.tuple #[]) (w.setCells g o (List.replicate (n * 2) (.int .i64 0))) := by
  have hv : ∀ w, (zeroValue 53).run Tryz.prog w = .ok (.agg #[.int .i64 0, .int .i64 0]) w := fun w => by kernel_rfl
  have hzc : (Builtin.zeroCells (Value.agg #[.int .i64 0, .int .i64 0]).cells n).toList = List.replicate (n * 2) (.int .i64 0) := by
    have e0 : (Value.agg #[.int .i64 0, .int .i64 0]).cells = #[.int .i64 0, .int .i64 0] := rfl
    rw [e0]
    simp only [Builtin.zeroCells, Array.toList_map]
    apply List.ext_getElem
    · simp
    · intro i h1 h2
      have : i % 2 = 0 ∨ i % 2 = 1 := by omega
      rcases this with h | h <;> simp [h]
  have hst := run_storeCells_cells (P := Tryz.prog) g o (List.replicate (n * 2) (.int .i64 0)) 0 w (by simpa using hc) (by simpa using hf) (by intro v hv'; rw [List.eq_of_mem_replicate hv']; rfl)
  simp only [Nat.add_zero] at hst
  obtain ⟨m, rfl⟩ : ∃ m, n = m + 1 := ⟨n - 1, by omega⟩
  simp [Builtin.clear_, run_underlying Tryz.underlying22, hv, hzc, hst]
/-- Norm's first closure: are both one? -/
theorem del1_any (p : Pr) (w : World) : Calls Tryz.prog 40 #[.agg #[.int .i64 p.1, .int .i64 p.2]] w fun e w' => e = .returned (.bool (!unlike p)) ∧ Below w.heap.size w w' := by
  have e : (!unlike p) = (p.1 == p.2) := by unfold unlike; simp
  rw [e]
  obtain ⟨x, y⟩ := p
  go_enter Tryz.func40, Tryz.ntmps40
  go_wp2
  go_ret
  exact ⟨rfl, later_alloc _ _⟩
theorem fnDel1 (args : Array Value) (W : World) : (callFunc 40 args).run Tryz.prog W = .ok (.enter 40 args) W := by
  rw [Tryz.call40]
end Go.Proofs.YtkagmkejndjepaaGreatDoor
