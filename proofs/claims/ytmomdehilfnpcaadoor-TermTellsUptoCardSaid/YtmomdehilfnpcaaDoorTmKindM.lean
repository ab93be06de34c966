/-
  The terms that TermKinds makes: a kind, a name, and so many numbers as kids. No condition.
-/
import Derived.Test.YtmomdehilfnpcaaDoorTmDeepM
namespace Go.Proofs.YtmomdehilfnpcaaDoor
open Go.RowKit Go.Shelf Go.Tm

def leaf3 : Go.Tm.T := .node 1 ⟨#[]⟩ 3 []
def kindT (k : Int) (nm : ByteArray) (j : Nat) : Go.Tm.T := .node k nm 0 (List.replicate j leaf3)
theorem leaf3_size : leaf3.size = 1 := by rw [leaf3, T.size, sizes]
theorem leaf3_depth : leaf3.depth = 1 := by rw [leaf3, T.depth, depths]
theorem leaf3_nodes : nodesT leaf3 = true := by
  rw [leaf3, nodesT, nodesTs, show nodeB (.node 1 ⟨#[]⟩ 3 []) = true by decide +kernel]; rfl
theorem sizes_leaves : ∀ j, sizes (List.replicate j leaf3) = j
  | 0 => by rw [List.replicate_zero, sizes]
  | j + 1 => by rw [List.replicate_succ, sizes, sizes_leaves j, leaf3_size]; omega
theorem depths_leaves : ∀ j, depths (List.replicate j leaf3) ≤ 1
  | 0 => by rw [List.replicate_zero, depths]; omega
  | j + 1 => by rw [List.replicate_succ, depths, leaf3_depth]; have := depths_leaves j; omega
theorem nodes_leaves : ∀ j, nodesTs (List.replicate j leaf3) = true
  | 0 => by rw [List.replicate_zero, nodesTs]
  | j + 1 => by rw [List.replicate_succ, nodesTs, nodes_leaves j, leaf3_nodes]; rfl
theorem kind_size (k : Int) (nm : ByteArray) (j : Nat) : (kindT k nm j).size = j + 1 := by rw [kindT, T.size, sizes_leaves]; omega
theorem kind_right (k : Int) (nm : ByteArray) (j : Nat) (hj : j ≤ 4) : rightT (kindT k nm j) = nodeB (kindT k nm j) := by
  have hd : (kindT k nm j).depth ≤ 200 := by rw [kindT, T.depth]; have := depths_leaves j; omega
  rw [right_iff, decide_eq_true hd, decide_eq_true (show (kindT k nm j).size ≤ 10000 by rw [kind_size]; omega), kindT, nodesT, nodes_leaves]; simp

def leaves (j : Nat) : List Value := (List.replicate j ((leaf3, none, 0) : Go.Tm.T × Option Addr × Nat)).flatMap tmC
def leafC : List Value := [.int .i64 1, .string ⟨#[]⟩, .int .i64 3, .slice none 0 0]
theorem leaves_snoc (j : Nat) : leaves (j + 1) = leaves j ++ leafC := by
  unfold leaves
  rw [List.replicate_succ', List.flatMap_append]; rfl

/-- the term, while its kids come -/
structure KS (w W : World) (b : Nat) (k : Int) (nm : ByteArray) (v : Value) (j : Nat) : Prop where
  now : Now w W
  env0 : Env w
  own : W.ownsRow (b + 1) 24 4 v j (leaves j)
  box : W.heap[b]? = some (.cells #[.int .i64 k, .string nm, .int .i64 0, v] 24 (0, 0))
  lo : w.heap.size ≤ b
theorem KS.later {w W W' : World} {b j : Nat} {k : Int} {nm : ByteArray} {v : Value} (h : KS w W b k nm v j) (hb : Below W.heap.size W W') : KS w W' b k nm v j :=
  ⟨h.now.later hb, h.env0, ownsRow_same h.own fun g hg => by
    obtain ⟨cur, hc, _⟩ := ownsRow_at h.own hg
    exact hb.block g (World.lt_of_get hc), (hb.block b (World.lt_of_get h.box)).trans h.box, h.lo⟩
theorem KS.grown {w W W' : World} {b j : Nat} {k : Int} {nm : ByteArray} {v : Value} (h : KS w W b k nm v j) (hg : W.grownBy W' v.ownBlock) : Below (b + 1) W W' :=
  (Below.refl _ W).grown hg (World.lt_of_get h.box) fun _ hg => (ownsRow_at h.own hg).choose_spec.2
theorem KS.boxed {w W W' : World} {b j : Nat} {k : Int} {nm : ByteArray} {v : Value} (h : KS w W b k nm v j) (hg : W.grownBy W' v.ownBlock) : W'.heap[b]? = some (.cells #[.int .i64 k, .string nm, .int .i64 0, v] 24 (0, 0)) :=
  ((h.grown hg).block b (by omega)).trans h.box
theorem KS.put {w W W' : World} {b j : Nat} {k : Int} {nm : ByteArray} {v v' : Value} (h : KS w W b k nm v j) (hg : W.grownBy W' v.ownBlock) (ho : W'.ownsRow (b + 1) 24 4 v' (j + 1) (leaves j ++ leafC)) :
    KS w (W'.setCell ⟨b, 3, none⟩ v') b k nm v' (j + 1) := by
  have hB : Below w.heap.size w (W'.setCell ⟨b, 3, none⟩ v') := (h.now.below.trans ((h.grown hg).mono (by have := h.lo; omega))).setCell (p := ⟨b, 3, none⟩) h.lo _
  refine ⟨⟨hB, h.env0.below h.env0.size hB⟩, h.env0, ?_, heap_setCell_same W' b 3 _ _ v' (h.boxed hg), h.lo⟩
  rw [leaves_snoc]
  exact ownsRow_setCell_below ho (a := ⟨b, 3, none⟩) (Nat.lt_succ_self b) v'
theorem KS.first {w W : World} {b : Nat} {k : Int} {nm : ByteArray} (h : Now w W) (hE : Env w) (hb : w.heap.size ≤ b) (hx : W.heap[b]? = some (.cells #[.int .i64 k, .string nm, .int .i64 0, .slice none 0 0] 24 (0, 0))) : KS w W b k nm (.slice none 0 0) 0 :=
  ⟨h, hE, World.ownsRow_nil _ _ _ _, hx, hb⟩
theorem KS.last {w W : World} {b j : Nat} {k : Int} {nm : ByteArray} {v : Value} (h : KS w W b k nm v j) (hn : nm.size ≤ 9223372036854775807) : ∃ A c, v = .slice A j c ∧ TmV W (· < W.heap.size) (kindT k nm j) A c := by
  obtain ⟨h1, ⟨rfl, h2⟩ | ⟨g, cap, cur, rfl, hb, hg, r1, r2, r3, r4⟩⟩ := h.own
  · rw [h2]
    exact ⟨none, 0, rfl, hn, .inl rfl⟩
  · refine ⟨_, _, rfl, hn, .inr ⟨g, 0, rfl, ?_⟩⟩
    have hr := row_new (W := W) (p := (· < W.heap.size)) (b := g) (World.lt_of_get hg) (List.replicate j ((leaf3, none, 0) : Go.Tm.T × Option Addr × Nat)) 0 (fun x hx => by
      rw [(List.mem_replicate.1 hx).2]; exact TmV.leaf _ _ (by decide)) (fun i u hu => by
      rw [Nat.zero_add, cell_of_row W g i _ _ _ hg]
      have h3 : (cur.toList.take (j * 4))[i]? = some u := by rw [r4]; exact hu
      have h4 : i < (cur.toList.take (j * 4)).length := (List.getElem?_eq_some_iff.1 h3).1
      rw [List.getElem?_take_of_lt (by rw [List.length_take] at h4; omega), Array.getElem?_toList] at h3
      exact h3)
    rw [List.map_replicate] at hr
    exact hr
end Go.Proofs.YtmomdehilfnpcaaDoor
