/-
  Depth. Condition: the term can be read, and has at most 4194304 terms.
-/
import Derived.Test.YthmchdpinobbgaaGreatDoorTmSize
namespace Go.Tm
def mx : List P3 → Nat
  | [] => 0
  | p :: l => max p.2.2 (mx l)
theorem mx_app : ∀ a b : List P3, mx (a ++ b) = max (mx a) (mx b)
  | [], b => by simp [mx]
  | p :: a, b => by rw [List.cons_append, mx, mx, mx_app a b]; omega
mutual
theorem mx_walk (par : T) (kid : Nat) : ∀ (d : Nat) (t : T), mx (walk par kid (d + 1) t) = d + t.depth
  | d, .node k s n ks => by
    rw [walk, mx, mx_walks (.node k s n ks) 0 (d + 1) ks, T.depth]
    show max (d + 1) _ = _
    split <;> omega
theorem mx_walks (par : T) (i : Nat) : ∀ (d : Nat) (ts : List T), mx (walks par i (d + 1) ts) = if depths ts = 0 then 0 else d + depths ts
  | d, [] => by rw [walks, depths]; rfl
  | d, t :: ts => by
    have h1 : 1 ≤ t.depth := by cases t; rw [T.depth]; omega
    rw [walks, mx_app, mx_walk par i d t, mx_walks par (i + 1) d ts, depths]
    split <;> rw [if_neg (by omega)] <;> omega
end
mutual
theorem depth_le : ∀ t : T, t.depth ≤ t.size
  | .node k s n ks => by rw [T.depth, T.size]; have := depths_le ks; omega
theorem depths_le : ∀ ts : List T, depths ts ≤ sizes ts
  | [] => by rw [depths, sizes]; exact Nat.le_refl _
  | t :: ts => by
    rw [depths, sizes]
    have := depth_le t
    have := depths_le ts
    omega
end
end Go.Tm
namespace Go.Proofs.YthmchdpinobbgaaGreatDoor
open Go.RowKit Go.Shelf Go.Tm
attribute [local go_sem] Oper.semAt_some

theorem KeepC.alloc (W : World) (o : Obj) : KeepC W (W.alloc o) := fun k _ hk _ => (Below.heap_alloc W o k (World.lt_of_get hk)).trans hk
/-- the round's own box, laid by the assignment -/
def PBox (x : Pl) (b : Nat) (W : World) : Prop := W.heap[b]? = some (.cells #[.pointer (some ⟨x.blk, x.off, none⟩), .int .i64 x.kid, .int .i64 x.depth] 60 (0, 0))
theorem PBox.putObj {x : Pl} {b : Nat} {W : World} {l : Nat} {o o' : Obj} (h : PBox x b W) (hl : W.heap[l]? = some o) (ho : o.isCells = false) : PBox x b (W.putObj l o') :=
  (World.putObj_heap_other (fun e => by subst e; rw [show W.heap[b]? = _ from h] at hl; cases hl; cases ho)).trans h
theorem Fr.grow {n0 B : Nat} {w : World} {T : List Nat} {W : World} (h : Fr n0 B w T W) (o : Obj) : Fr n0 B w T (W.alloc o) :=
  ⟨h.below.trans ((later_alloc W o).mono (Nat.le_trans h.n0B h.sz)), h.lo, h.n0B, by have := h.sz; simp; omega⟩

end Go.Proofs.YthmchdpinobbgaaGreatDoor
