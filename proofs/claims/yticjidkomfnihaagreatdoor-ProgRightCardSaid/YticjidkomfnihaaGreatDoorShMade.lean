/-
  The statements' maker of terms by bytes: a byte; the state. Conditions: the bytes can be read; at most 60.
  What the maker of terms gathers: kids by value in a row of its own; they are right, and few. No condition.
  The statements' maker of terms: a term that is right. Conditions: the maker's box.
  The statements' term by bytes: it is right, of at most 181 terms, at most seven deep. Condition: the bytes can be read.
  A region that draws its order and calls functions that lay blocks: one walk of the text's order serves, where the worlds are those of a kind. Conditions: as stated.
  Terms that are told the same are the same. No condition.
-/
import Derived.Test.YticjidkomfnihaaGreatDoorShShow
import Derived.Deep.QuietTactic
import Derived.BigQuiet
import Derived.Test.YticjidkomfnihaaGreatDoorPaSteps
import Derived.Deep.RegionLaw
import Derived.Test.YticjidkomfnihaaGreatDoorTmSame
namespace Go.Proofs.YticjidkomfnihaaGreatDoor
open Go.RowKit Go.Shelf Go.Tm Go.Lx Go.Maps
attribute [local go_sem] Oper.semAt_some
end Go.Proofs.YticjidkomfnihaaGreatDoor
namespace Go.Proofs.YticjidkomfnihaaGreatDoor
open Go.RowKit Go.Shelf Go.Tm Go.Lx Go.Maps
theorem depths_le : ∀ {ks : List Go.Tm.T} {d : Nat}, (∀ u ∈ ks, u.depth <= d) -> depths ks <= d
 | [], _, _ => by rw [depths]; exact Nat.zero_le _
 | t :: ts, d, h => by
   rw [depths]
   have := h t (by simp)
   have := depths_le (ks := ts) (d := d) (fun u hu => h u (by simp [hu]))
   omega
theorem sizes_app : ∀ (a b : List Go.Tm.T), sizes (a ++ b) = sizes a + sizes b
 | [], b => by rw [List.nil_append, sizes]; omega
 | t :: a, b => by rw [List.cons_append, sizes, sizes, sizes_app a b]; omega
end Go.Proofs.YticjidkomfnihaaGreatDoor
namespace Go.Proofs.YticjidkomfnihaaGreatDoor
open Go.RowKit Go.Shelf Go.Tm Go.Lx Go.Maps
attribute [local go_sem] Oper.semAt_some
end Go.Proofs.YticjidkomfnihaaGreatDoor
namespace Go
end Go
namespace Go.Proofs.YticjidkomfnihaaGreatDoor.Eq
open Go.Tm
theorem alike_iff {a b : T} : alikeB a b = true ↔ a.kind = b.kind /\ a.name = b.name /\ a.num = b.num /\ a.kids.length = b.kids.length := by
 unfold alikeB
 rw [Bool.and_eq_true, Bool.and_eq_true, Bool.and_eq_true, beq_iff_eq, bytes_eq, beq_iff_eq, beq_iff_eq]
 constructor
 . rintro ⟨h1, h2, h3, h4⟩; exact ⟨h1, h2, h3, by omega⟩
 . rintro ⟨h1, h2, h3, h4⟩; exact ⟨h1, h2, h3, by omega⟩
mutual
theorem eq_of : ∀ (a b : T), eqT a b = true -> a = b
 | .node k s n ks, b, h => by
   rw [eqT, Bool.and_eq_true, alike_iff] at h
   obtain ⟨⟨h1, h2, h3, h4⟩, h5⟩ := h
   have h6 := eqs_of ks b.kids h4 h5
   rw [T.eta b, <- h1, <- h2, <- h3, <- h6]; rfl
theorem eqs_of : ∀ (ts us : List T), ts.length = us.length -> eqTs ts us = true -> ts = us
 | [], us, hl, _ => (List.eq_nil_of_length_eq_zero hl.symm).symm
 | t :: ts, [], hl, _ => by simp at hl
 | t :: ts, u :: us, hl, h => by
   rw [eqTs, Bool.and_eq_true] at h
   have h1 := eq_of t u h.1
   have h2 := eqs_of ts us (by simpa using hl) h.2
   rw [h1, h2]
end
mutual
theorem self_eq : ∀ (a : T), eqT a a = true
 | .node k s n ks => by
   rw [eqT, Bool.and_eq_true, alike_iff]
   exact ⟨⟨rfl, rfl, rfl, rfl⟩, selfs_eq ks⟩
theorem selfs_eq : ∀ (ts : List T), eqTs ts ts = true
 | [] => by rw [eqTs]
 | t :: ts => by
   rw [eqTs, Bool.and_eq_true]
   exact ⟨self_eq t, selfs_eq ts⟩
end
end Go.Proofs.YticjidkomfnihaaGreatDoor.Eq
