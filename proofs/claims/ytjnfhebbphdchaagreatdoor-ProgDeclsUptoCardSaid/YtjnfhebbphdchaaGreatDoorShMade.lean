/-
  The statements' maker of terms by bytes: a byte; the state. Conditions: the bytes can be read; at most 60.
  What the maker of terms gathers:
  The statements' maker of terms:
  The statements' term by bytes:
  A region that draws its order and calls functions that lay blocks:
  Terms that are told the same are the same.
-/
import Derived.Test.YtjnfhebbphdchaaGreatDoorShShow
import Derived.Deep.QuietTactic
import Derived.BigQuiet
import Derived.Test.YtjnfhebbphdchaaGreatDoorPaSteps
import Derived.Deep.RegionLaw
import Derived.Test.YtjnfhebbphdchaaGreatDoorTmSame
namespace Go.Proofs.YtjnfhebbphdchaaGreatDoor
open Go.RowKit Go.Shelf Go.Tm Go.Lx Go.Maps
attribute [local go_sem] Oper.semAt_some
end Go.Proofs.YtjnfhebbphdchaaGreatDoor
namespace Go.Proofs.YtjnfhebbphdchaaGreatDoor
open Go.RowKit Go.Shelf Go.Tm Go.Lx Go.Maps
theorem qer : ∀ {ks : List Go.Tm.T} {d : Nat}, (∀ u ∈ ks, u.depth <= d) -> qax ks <= d
 | [], _, _ => by rw [qax]; exact Nat.zero_le _
 | t :: ts, d, h => by
   rw [qax]
   have := h t (by simp)
   have := qer (ks := ts) (d := d) (fun u hu => h u (by simp [hu]))
   omega
theorem qeF : ∀ (a b : List Go.Tm.T), sizes (a ++ b) = sizes a + sizes b
 | [], b => by rw [List.nil_append, sizes]; omega
 | t :: a, b => by rw [List.cons_append, sizes, sizes, qeF a b]; omega
end Go.Proofs.YtjnfhebbphdchaaGreatDoor
namespace Go.Proofs.YtjnfhebbphdchaaGreatDoor
open Go.RowKit Go.Shelf Go.Tm Go.Lx Go.Maps
attribute [local go_sem] Oper.semAt_some
end Go.Proofs.YtjnfhebbphdchaaGreatDoor
namespace Go
theorem qcI {S : Type} (f : S -> World) {P : Program} {id : Nat} {Q : Exit -> Act -> World -> Prop} {a : Act} {w : World} {l : List Oper} (hm : P.follows .mixedOrders = true) (hB : Region.lexB .any l.toArray = true) (hC : ∃ s, w.drew = f s)
   (h : wpQuiet P l.toArray (fun w' => ∃ s, w' = f s) (fun a' => ∀ w', (∃ s, w' = f s) -> Q .normal a' w') l a) : (Code.region id l.toArray true).wp P Q a w :=
 wp_region_quiet (C := fun w' => ∃ s, w' = f s) hm hB hC (by simpa using h)
end Go
namespace Go.Proofs.YtjnfhebbphdchaaGreatDoor.Eq
open Go.Tm
theorem qjz {a b : T} : qbh a b = true ↔ a.kind = b.kind /\ a.name = b.name /\ a.num = b.num /\ a.kids.length = b.kids.length := by
 unfold qbh
 rw [Bool.and_eq_true, Bool.and_eq_true, Bool.and_eq_true, beq_iff_eq, qqa, beq_iff_eq, beq_iff_eq]
 constructor
 . rintro ⟨h1, h2, h3, h4⟩; exact ⟨h1, h2, h3, by omega⟩
 . rintro ⟨h1, h2, h3, h4⟩; exact ⟨h1, h2, h3, by omega⟩
mutual
theorem eq_of : ∀ (a b : T), eqT a b = true -> a = b
 | .node k s n ks, b, h => by
   rw [eqT, Bool.and_eq_true, qjz] at h
   obtain ⟨⟨h1, h2, h3, h4⟩, h5⟩ := h
   have h6 := qrl ks b.kids h4 h5
   rw [T.eta b, <- h1, <- h2, <- h3, <- h6]; rfl
theorem qrl : ∀ (ts us : List T), ts.length = us.length -> eqTs ts us = true -> ts = us
 | [], us, hl, _ => (List.eq_nil_of_length_eq_zero hl.symm).symm
 | t :: ts, [], hl, _ => by simp at hl
 | t :: ts, u :: us, hl, h => by
   rw [eqTs, Bool.and_eq_true] at h
   have h1 := eq_of t u h.1
   have h2 := qrl ts us (by simpa using hl) h.2
   rw [h1, h2]
end
mutual
theorem self_eq : ∀ (a : T), eqT a a = true
 | .node k s n ks => by
   rw [eqT, Bool.and_eq_true, qjz]
   exact ⟨⟨rfl, rfl, rfl, rfl⟩, qlX ks⟩
theorem qlX : ∀ (ts : List T), eqTs ts ts = true
 | [] => by rw [eqTs]
 | t :: ts => by
   rw [eqTs, Bool.and_eq_true]
   exact ⟨self_eq t, qlX ts⟩
end
end Go.Proofs.YtjnfhebbphdchaaGreatDoor.Eq
