/-
  The rise laid out: what newRise makes at first. Condition: it lies so.
-/
import Derived.Test.YtlhfdedjboanfaaDoorSvRepeat
import Derived.Test.YtlhfdedjboanfaaDoorSvSettle
import Derived.Test.YtlhfdedjboanfaaDoorSvMap
namespace Go.Proofs.YtlhfdedjboanfaaDoor
open Go.RowKit Go.Shelf Go.At Go.Sv

theorem below_al {X W : World} (h : Below X.heap.size X W) (o : Obj) : Below X.heap.size X (W.alloc o) := h.alloc h.size o
theorem get_alloc {W : World} {k : Nat} {x : Obj} (h : W.heap[k]? = some x) (o : Obj) : (W.alloc o).heap[k]? = some x := (Below.heap_alloc W o k (World.lt_of_get h)).trans h
theorem get_below {W W' : World} {k : Nat} {x : Obj} (h : W.heap[k]? = some x) (hb : Below W.heap.size W W') : W'.heap[k]? = some x := (hb.block k (World.lt_of_get h)).trans h
theorem get_drew {W : World} {k : Nat} {x : Obj} (h : W.heap[k]? = some x) : W.drew.heap[k]? = some x := h
theorem get_new {W : World} {k : Nat} {o : Obj} (h : k = W.heap.size) : (W.alloc o).heap[k]? = some o := by subst h; exact World.alloc_heap_new W o
theorem cell_one {W : World} {k : Nat} {v : Value} {e : TypeId} (h : W.heap[k]? = some (.cells #[v] e (0, 0))) : W.cell? ⟨k, 0, none⟩ = some v := cell_of_row _ _ 0 _ _ _ h
/-- a whole row of one's own -/
theorem own_whole {W : World} {base g n : Nat} {e : TypeId} {xs : List Value} (hg : W.heap[g]? = some (.cells xs.toArray e (0, 0))) (hb : base ≤ g) (hn : xs.length = n) (hm : n ≤ maxLen) : W.ownsRow base e 1 (.slice (some ⟨g, 0, none⟩) n n) n xs :=
  ⟨by rw [hn, Nat.mul_one], .inr ⟨g, n, xs.toArray, rfl, hb, hg, Nat.le_refl _, hm, by simp [hn], by rw [Nat.mul_one, ← hn]; simp⟩⟩
theorem not_same {W : World} {g k : Nat} {xs ys : Array Value} {e f : TypeId} (h : W.heap[g]? = some (.cells xs e (0, 0))) (h2 : W.heap[k]? = some (.cells ys f (0, 0))) (hne : e ≠ f) : g ≠ k := by
  rintro rfl
  rw [h] at h2
  injection h2 with h2
  injection h2 with _ h2 _
  exact hne h2
/-- the slices of a rise that is new -/
def newVa (n g1 g2 g3 g4 : Nat) : Nat → Value
  | 0 => .slice (some ⟨g1, 0, none⟩) n n
  | 1 => .slice (some ⟨g2, 0, none⟩) n n
  | 2 => .slice (some ⟨g3, 0, none⟩) n n
  | 4 => .slice (some ⟨g4, 0, none⟩) n n
  | _ => .slice none 0 0
theorem rowV_const {α : Type} (n : Nat) (x : α) (e : α → Value) : rowV n (fun _ => x) e = List.replicate n (e x) := by
  unfold rowV
  rw [List.map_const', List.length_range]
theorem made_one (z : Value) (n : Nat) : madeCells #[z] n = (List.replicate n z).toArray := by rw [← toList_madeCells_one z n]
theorem rise_new {W : World} {base q n r g1 g2 g3 g4 : Nat} (h1 : W.heap[g1]? = some (.cells (List.replicate n (.int .u64 (r : Nat))).toArray 72 (0, 0))) (h2 : W.heap[g2]? = some (.cells (madeCells #[.slice none 0 0] n) 74 (0, 0)))
    (h3 : W.heap[g3]? = some (.cells (madeCells #[.int .i64 0] n) 3 (0, 0))) (h4 : W.heap[g4]? = some (.cells (madeCells #[.bool false] n) 4 (0, 0)))
    (hq : W.heap[q]? = some (.cells #[.slice (some ⟨g1, 0, none⟩) n n, .slice (some ⟨g2, 0, none⟩) n n, .slice (some ⟨g3, 0, none⟩) n n, .slice none 0 0, .slice (some ⟨g4, 0, none⟩) n n] 77 (0, 0)))
    (b1 : base ≤ g1) (b2 : base ≤ g2) (b3 : base ≤ g3) (b4 : base ≤ g4) (bq : base ≤ q) (hn : n ≤ maxLen) (hr : r < 18446744073709551616) : RiseAt W base q n (newVa n g1 g2 g3 g4) (Go.Sv.begun r) := by
  rw [made_one] at h2 h3 h4
  have n12 := not_same h1 h2 (by decide)
  have n13 := not_same h1 h3 (by decide)
  have n14 := not_same h1 h4 (by decide)
  have n23 := not_same h2 h3 (by decide)
  have n24 := not_same h2 h4 (by decide)
  have n34 := not_same h3 h4 (by decide)
  have m1 := not_same h1 hq (by decide)
  have m2 := not_same h2 hq (by decide)
  have m3 := not_same h3 hq (by decide)
  have m4 := not_same h4 hq (by decide)
  have blk : ∀ k z, (newVa n g1 g2 g3 g4 k).ownBlock = some z → (k = 0 ∧ z = g1) ∨ (k = 1 ∧ z = g2) ∨ (k = 2 ∧ z = g3) ∨ (k = 4 ∧ z = g4) := fun k z h => by
    match k, h with
    | 0, h => injection h with h; exact .inl ⟨rfl, h.symm⟩
    | 1, h => injection h with h; exact .inr (.inl ⟨rfl, h.symm⟩)
    | 2, h => injection h with h; exact .inr (.inr (.inl ⟨rfl, h.symm⟩))
    | 4, h => injection h with h; exact .inr (.inr (.inr ⟨rfl, h.symm⟩))
    | 3, h => cases h
    | k + 5, h => cases h
  refine ⟨⟨fun k hk => ?_, fun j k hj hk e => ?_, fun k hk h => ?_, bq, World.lt_of_get hq⟩, hq, fun _ _ => hr⟩
  · match k with
    | 0 => exact own_whole (xs := rowV n (fun _ => r) fun x => .int .u64 (x : Nat)) (by rw [rowV_const]; exact h1) b1 (by rw [rowV_const, List.length_replicate]) hn
    | 1 =>
      have e : rXs n (newVa n g1 g2 g3 g4) (Go.Sv.begun r) 1 = List.replicate n (.slice none 0 0) := rowV_const n (Value.slice none 0 0) id
      rw [e]
      exact own_whole h2 b2 (by rw [List.length_replicate]) hn
    | 2 =>
      have e : rXs n (newVa n g1 g2 g3 g4) (Go.Sv.begun r) 2 = List.replicate n (.int .i64 0) := rowV_const n 0 fun x => .int .i64 (x : Nat)
      rw [e]
      exact own_whole h3 b3 (by rw [List.length_replicate]) hn
    | 3 => exact ⟨rfl, .inl ⟨rfl, rfl⟩⟩
    | 4 =>
      have e : rXs n (newVa n g1 g2 g3 g4) (Go.Sv.begun r) 4 = List.replicate n (.bool false) := rowV_const n false .bool
      rw [e]
      exact own_whole h4 b4 (by rw [List.length_replicate]) hn
    | k + 5 => exact ⟨rfl, .inl ⟨rfl, rfl⟩⟩
  · intro z hz hz2
    rcases blk j z hz with ⟨rfl, rfl⟩ | ⟨rfl, rfl⟩ | ⟨rfl, rfl⟩ | ⟨rfl, rfl⟩ <;> rcases blk k _ hz2 with ⟨rfl, e2⟩ | ⟨rfl, e2⟩ | ⟨rfl, e2⟩ | ⟨rfl, e2⟩ <;> first | exact e rfl | exact n12 e2 | exact n13 e2 | exact n14 e2 | exact n23 e2 | exact n24 e2 | exact n34 e2 | exact n12 e2.symm | exact n13 e2.symm | exact n14 e2.symm | exact n23 e2.symm | exact n24 e2.symm | exact n34 e2.symm
  · rcases blk k q h with ⟨rfl, e2⟩ | ⟨rfl, e2⟩ | ⟨rfl, e2⟩ | ⟨rfl, e2⟩
    · exact m1 e2.symm
    · exact m2 e2.symm
    · exact m3 e2.symm
    · exact m4 e2.symm
/-- the box first: it tells where the others lie -/
theorem rise_new' {W : World} {base q n r g1 g2 g3 g4 : Nat} (hq : W.heap[q]? = some (.cells #[.slice (some ⟨g1, 0, none⟩) n n, .slice (some ⟨g2, 0, none⟩) n n, .slice (some ⟨g3, 0, none⟩) n n, .slice none 0 0, .slice (some ⟨g4, 0, none⟩) n n] 77 (0, 0)))
    (h1 : W.heap[g1]? = some (.cells (List.replicate n (.int .u64 (r : Nat))).toArray 72 (0, 0))) (h2 : W.heap[g2]? = some (.cells (madeCells #[.slice none 0 0] n) 74 (0, 0)))
    (h3 : W.heap[g3]? = some (.cells (madeCells #[.int .i64 0] n) 3 (0, 0))) (h4 : W.heap[g4]? = some (.cells (madeCells #[.bool false] n) 4 (0, 0)))
    (b1 : base ≤ g1) (b2 : base ≤ g2) (b3 : base ≤ g3) (b4 : base ≤ g4) (bq : base ≤ q) (hn : n ≤ maxLen) (hr : r < 18446744073709551616) : RiseAt W base q n (newVa n g1 g2 g3 g4) (Go.Sv.begun r) :=
  rise_new h1 h2 h3 h4 hq b1 b2 b3 b4 bq hn hr
end Go.Proofs.YtlhfdedjboanfaaDoor
