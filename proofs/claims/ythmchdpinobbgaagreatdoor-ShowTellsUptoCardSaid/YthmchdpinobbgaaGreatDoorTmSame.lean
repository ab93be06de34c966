/-
  Same. Conditions: the terms can be read; the first one has at most 4194304 terms.
-/
import Derived.Test.YthmchdpinobbgaaGreatDoorTmWay
import Derived.Test.YthmchdpinobbgaaGreatDoorTmBound
namespace Go.Proofs.YthmchdpinobbgaaGreatDoor
open Go.RowKit Go.Shelf Go.Tm
attribute [local go_sem] Oper.semAt_some

theorem goT_len : ∀ (L : List P3) (P P' : List Go.Tm.T), goT P L = some P' → P'.length ≤ P.length + L.length
  | [], P, P', h => by cases h; exact Nat.le_refl _
  | p :: L, P, P', h => by
    have h' : (if alikeB (p3T p) (oth P p) = true then goT (nxt P p) L else none) = some P' := h
    by_cases ha : alikeB (p3T p) (oth P p) = true
    · rw [if_pos ha] at h'
      have h1 := goT_len L _ _ h'
      have h2 : (nxt P p).length ≤ P.length + 1 := by
        show (P.take p.2.2 ++ [_]).length ≤ _
        rw [List.length_append, List.length_take, List.length_singleton]; omega
      rw [List.length_cons]; omega
    · rw [if_neg ha] at h'; cases h'

end Go.Proofs.YthmchdpinobbgaaGreatDoor
