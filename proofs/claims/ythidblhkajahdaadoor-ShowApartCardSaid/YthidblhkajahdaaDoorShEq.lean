/-
  Terms that are told the same are the same. No condition.
-/
import Derived.Test.YthidblhkajahdaaDoorTmSameM
import Derived.Test.YthidblhkajahdaaDoorTmEx0
namespace Go.Proofs.YthidblhkajahdaaDoor.Eq
open Go.Tm
theorem alike_iff {a b : T} : alikeB a b = true ↔ a.kind = b.kind ∧ a.name = b.name ∧ a.num = b.num ∧ a.kids.length = b.kids.length := by
  unfold alikeB
  rw [Bool.and_eq_true, Bool.and_eq_true, Bool.and_eq_true, beq_iff_eq, bytes_eq, beq_iff_eq, beq_iff_eq]
  constructor
  · rintro ⟨h1, h2, h3, h4⟩; exact ⟨h1, h2, h3, by omega⟩
  · rintro ⟨h1, h2, h3, h4⟩; exact ⟨h1, h2, h3, by omega⟩
mutual
theorem eq_of : ∀ (a b : T), eqT a b = true → a = b
  | .node k s n ks, b, h => by
    rw [eqT, Bool.and_eq_true, alike_iff] at h
    obtain ⟨⟨h1, h2, h3, h4⟩, h5⟩ := h
    have h6 := eqs_of ks b.kids h4 h5
    rw [T.eta b, ← h1, ← h2, ← h3, ← h6]; rfl
theorem eqs_of : ∀ (ts us : List T), ts.length = us.length → eqTs ts us = true → ts = us
  | [], us, hl, _ => (List.eq_nil_of_length_eq_zero hl.symm).symm
  | t :: ts, [], hl, _ => by simp at hl
  | t :: ts, u :: us, hl, h => by
    rw [eqTs, Bool.and_eq_true] at h
    have h1 := eq_of t u h.1
    have h2 := eqs_of ts us (by simpa using hl) h.2
    rw [h1, h2]
end
mutual
theorem self_eq : ∀ (a : T), eqT a a = true
  | .node k s n ks => by
    rw [eqT, Bool.and_eq_true, alike_iff]
    exact ⟨⟨rfl, rfl, rfl, rfl⟩, selfs_eq ks⟩
theorem selfs_eq : ∀ (ts : List T), eqTs ts ts = true
  | [] => by rw [eqTs]
  | t :: ts => by
    rw [eqTs, Bool.and_eq_true]
    exact ⟨self_eq t, selfs_eq ts⟩
end
end Go.Proofs.YthidblhkajahdaaDoor.Eq
