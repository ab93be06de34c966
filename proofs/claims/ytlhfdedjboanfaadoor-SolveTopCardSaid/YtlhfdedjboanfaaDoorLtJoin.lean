/-
  lat.Join, lat.Meet, lat.Bottom, lat.Top. Conditions: the lattice's slices can be read; the library's table lies as laid.
-/
import Derived.Test.YtlhfdedjboanfaaDoorLtRight
import Derived.Test.YtlhfdedjboanfaaDoorLtTurn
import Derived.StillTailTactics
namespace Go.Proofs.YtlhfdedjboanfaaDoor.L
open Go.RowKit Go.Shelf Go.Lt

def joinI (ns : List ByteArray) (us : List Nat) (a b : Int) : Int :=
  if rightB ns us && pointB ns.length us.length a && pointB ns.length us.length b then least us (row us a.toNat &&& row us b.toNat) else -1

theorem right_parts {ns : List ByteArray} {us : List Nat} (h : rightB ns us = true) : 1 ≤ ns.length ∧ ns.length ≤ 64 ∧ us.length = ns.length ∧ namedB ns = true ∧ within us = true ∧ ordered us = true ∧ complete us = true := by
  unfold rightB at h
  simp only [Bool.and_eq_true, decide_eq_true_eq] at h
  obtain ⟨⟨⟨⟨⟨⟨h1, h2⟩, h3⟩, h4⟩, h5⟩, h6⟩, h7⟩ := h
  exact ⟨h1, h2, h3, h4, h5, h6, h7⟩

theorem box_two (w : World) (u v : Value) (t : TypeId) : (w.alloc (.cells #[u, v] t)).cell? ⟨w.heap.size, 0, none⟩ = some u ∧ (w.alloc (.cells #[u, v] t)).cell? ⟨w.heap.size, 1, none⟩ = some v := by
  have h := World.alloc_heap_new w (.cells #[u, v] t)
  exact ⟨cell_of_row _ w.heap.size 0 _ _ _ h, cell_of_row _ w.heap.size 1 _ _ _ h⟩

end Go.Proofs.YtlhfdedjboanfaaDoor.L
