/-
  The terms that TermDeep makes: one in another, and two in one, over and over. No condition.
-/
import Derived.Test.YtmomdehilfnpcaaDoorTmRightM
import Derived.Test.YtmomdehilfnpcaaDoorTmQuiet
namespace Go.Proofs.YtmomdehilfnpcaaDoor
open Go.RowKit Go.Shelf Go.Tm

def raiseT : Nat → Go.Tm.T
  | 0 => .node 1 ⟨#[]⟩ 1 []
  | k + 1 => .node 8 ⟨#[]⟩ 0 [raiseT k]
def seqT : Nat → Go.Tm.T
  | 0 => .node 1 ⟨#[]⟩ 0 []
  | k + 1 => .node 13 ⟨#[]⟩ 0 [seqT k, seqT k]
theorem raise_size : ∀ k, (raiseT k).size = k + 1
  | 0 => by rw [raiseT, T.size, sizes]
  | k + 1 => by rw [raiseT, T.size, sizes, sizes, raise_size k]; omega
theorem raise_depth : ∀ k, (raiseT k).depth = k + 1
  | 0 => by rw [raiseT, T.depth, depths]
  | k + 1 => by rw [raiseT, T.depth, depths, depths, raise_depth k]; omega
theorem node_leaf (n : Int) (h : n = 0 ∨ n = 1) : nodeB (.node 1 ⟨#[]⟩ n []) = true := by
  rcases h with rfl | rfl <;> decide +kernel
theorem node_raise (t : Go.Tm.T) : nodeB (.node 8 ⟨#[]⟩ 0 [t]) = true := rfl
theorem node_seq (t u : Go.Tm.T) : nodeB (.node 13 ⟨#[]⟩ 0 [t, u]) = true := rfl
theorem raise_nodes : ∀ k, nodesT (raiseT k) = true
  | 0 => by rw [raiseT, nodesT, nodesTs, node_leaf 1 (.inr rfl)]; rfl
  | k + 1 => by rw [raiseT, nodesT, nodesTs, nodesTs, raise_nodes k, node_raise]; rfl
theorem raise_right (k : Nat) (h : k ≤ 1000) : rightT (raiseT k) = decide (k + 1 ≤ 200) := by
  rw [right_iff, raise_size, raise_depth, raise_nodes, decide_eq_true (show k + 1 ≤ 10000 by omega)]; simp
theorem seq_size : ∀ k, (seqT k).size + 1 = 2 ^ (k + 1)
  | 0 => by rw [seqT, T.size, sizes]
  | k + 1 => by
    have := seq_size k
    rw [seqT, T.size, sizes, sizes, sizes, Nat.pow_succ]; omega
theorem seq_depth : ∀ k, (seqT k).depth = k + 1
  | 0 => by rw [seqT, T.depth, depths]
  | k + 1 => by rw [seqT, T.depth, depths, depths, depths, seq_depth k]; omega
theorem seq_nodes : ∀ k, nodesT (seqT k) = true
  | 0 => by rw [seqT, nodesT, nodesTs, node_leaf 0 (.inl rfl)]; rfl
  | k + 1 => by rw [seqT, nodesT, nodesTs, nodesTs, nodesTs, seq_nodes k, node_seq]; rfl
theorem seq_right (k : Nat) (h : k ≤ 100) : rightT (seqT k) = decide ((seqT k).size ≤ 10000) := by
  rw [right_iff, seq_depth, seq_nodes, decide_eq_true (show k + 1 ≤ 200 by omega)]; simp
theorem seq12 : (seqT 12).size = 8191 := by have := seq_size 12; omega
theorem seq13 : (seqT 13).size = 16383 := by have := seq_size 13; omega

/-- a term's cells in a box -/
def boxC (t : Go.Tm.T) (A : Option Addr) (c : Nat) : Obj := .cells #[.int .i64 t.kind, .string t.name, .int .i64 t.num, .slice A t.kids.length c] 24
/-- four cells are written -/
def set4 (W : World) (b : Nat) (v0 v1 v2 v3 : Value) : World := (((W.setCell ⟨b, 0, none⟩ v0).setCell ⟨b, 1, none⟩ v1).setCell ⟨b, 2, none⟩ v2).setCell ⟨b, 3, none⟩ v3
theorem set4_other {W : World} {b x : Nat} {v0 v1 v2 v3 : Value} (h : x ≠ b) : (set4 W b v0 v1 v2 v3).heap[x]? = W.heap[x]? :=
  (((Below.heap_setCell _ _ _ _ h).trans (Below.heap_setCell _ _ _ _ h)).trans (Below.heap_setCell _ _ _ _ h)).trans (Below.heap_setCell _ _ _ _ h)
theorem set4_same {W : World} {b : Nat} {u0 u1 u2 u3 v0 v1 v2 v3 : Value} {ty : TypeId} (h : W.heap[b]? = some (.cells #[u0, u1, u2, u3] ty (0, 0))) : (set4 W b v0 v1 v2 v3).heap[b]? = some (.cells #[v0, v1, v2, v3] ty (0, 0)) :=
  heap_setCell_same _ b 3 _ _ _ (heap_setCell_same _ b 2 _ _ _ (heap_setCell_same _ b 1 _ _ _ (heap_setCell_same W b 0 _ _ v0 h)))
theorem set4_below {n : Nat} {V W : World} {b : Nat} {v0 v1 v2 v3 : Value} (h : Below n V W) (hb : n ≤ b) : Below n V (set4 W b v0 v1 v2 v3) :=
  (((h.setCell (p := ⟨b, 0, none⟩) hb _).setCell (p := ⟨b, 1, none⟩) hb _).setCell (p := ⟨b, 2, none⟩) hb _).setCell (p := ⟨b, 3, none⟩) hb _
theorem set4_size {W : World} {b : Nat} {v0 v1 v2 v3 : Value} : (set4 W b v0 v1 v2 v3).heap.size = W.heap.size := by simp [set4]

/-- the first loop -/
structure D1 (w W : World) (b k : Nat) (A : Option Addr) (c : Nat) : Prop where
  now : Now w W
  t : TmV W (fun x => x ≠ b ∧ x < W.heap.size) (raiseT k) A c
  box : W.heap[b]? = some (boxC (raiseT k) A c)
  lo : w.heap.size ≤ b
  env0 : Env w
theorem D1.step {w W : World} {b k : Nat} {A : Option Addr} {c : Nat} (h : D1 w W b k A c) : D1 w ((set4 W b (.int .i64 8) (.string ⟨#[]⟩) (.int .i64 0) (.slice (some ⟨W.heap.size, 0, none⟩) 1 1)).alloc (boxC (raiseT k) A c)) b (k + 1) (some ⟨W.heap.size, 0, none⟩) 1 := by
  have hlt := World.lt_of_get h.box
  obtain ⟨V, hV⟩ : ∃ V, set4 W b (.int .i64 8) (.string ⟨#[]⟩) (.int .i64 0) (.slice (some ⟨W.heap.size, 0, none⟩) 1 1) = V := ⟨_, rfl⟩
  have hVs : V.heap.size = W.heap.size := by rw [← hV]; exact set4_size
  have hVo : ∀ x, x ≠ b → V.heap[x]? = W.heap[x]? := fun x hx => by rw [← hV]; exact set4_other hx
  have hVb : V.heap[b]? = some (boxC (raiseT (k + 1)) (some ⟨W.heap.size, 0, none⟩) 1) := by rw [← hV]; exact set4_same h.box
  have hVB : Below w.heap.size w V := by rw [← hV]; exact set4_below h.now.below h.lo
  rw [hV]
  clear hV
  have hb1 := later_alloc V (boxC (raiseT k) A c)
  have hnew : (V.alloc (boxC (raiseT k) A c)).heap[W.heap.size]? = some (boxC (raiseT k) A c) := by rw [← hVs]; exact World.alloc_heap_new V _
  have hB : Below w.heap.size w (V.alloc (boxC (raiseT k) A c)) := hVB.trans (hb1.mono hVB.size)
  refine ⟨⟨hB, ?_⟩, ⟨by show (⟨#[]⟩ : ByteArray).size ≤ _; decide, .inr ⟨_, _, rfl, ?_⟩⟩, (hb1.block b (by omega)).trans hVb, h.lo, h.env0⟩
  · exact h.env0.below h.env0.size hB
  · refine row_new (p := fun x => x ≠ b ∧ x < _) ⟨by omega, by simp; omega⟩ [(raiseT k, A, c)] 0 (fun x hx => ?_) (fun i v hv => ?_)
    · obtain rfl := List.mem_singleton.1 hx
      exact h.t.kept (fun x hx => ⟨hx.1, by have := hx.2; simp; omega⟩) (fun x hx => (hb1.block x (by rw [hVs]; exact hx.2)).trans (hVo x hx.1))
    · rw [Nat.zero_add, cell_of_row _ _ i _ _ _ hnew, ← hv, ← List.getElem?_toArray]; rfl
end Go.Proofs.YtmomdehilfnpcaaDoor
