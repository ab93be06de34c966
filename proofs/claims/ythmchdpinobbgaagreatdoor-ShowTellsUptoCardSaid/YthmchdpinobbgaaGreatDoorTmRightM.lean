/-
  What it is to be right, by the tree: its size, its depth, each node. No condition.
-/
import Derived.Test.YthmchdpinobbgaaGreatDoorTmRight
namespace Go.Proofs.YthmchdpinobbgaaGreatDoor
open Go.RowKit Go.Shelf Go.Tm

mutual
/-- each node is right by itself -/
def nodesT : Go.Tm.T → Bool
  | .node k s n ks => nodeB (.node k s n ks) && nodesTs ks
def nodesTs : List Go.Tm.T → Bool
  | [] => true
  | t :: ts => nodesT t && nodesTs ts
end
mutual
theorem walk_ok : ∀ (t par : Go.Tm.T) (i d : Nat), par.kids.getD i default = t → (walk par i (d + 1) t).all okP = (decide (d + t.depth ≤ 200) && nodesT t)
  | .node k s n ks, par, i, d, hp => by
    rw [walk, List.all_cons, walks_ok ks (.node k s n ks) 0 (d + 1) (by simp [T.kids]) (fun j _ => by rw [Nat.zero_add]; rfl), nodesT, T.depth]
    have h1 : okP (par, i, d + 1) = (decide (d + 1 ≤ 200) && nodeB (.node k s n ks)) := by
      unfold okP p3t
      show (decide (d + 1 ≤ 200) && nodeB (par.kids.getD i default)) = _
      rw [hp]
    rw [h1]
    cases hks : ks with
    | nil =>
      have : (decide (([] : List Go.Tm.T) = [] ∨ d + 1 + depths [] ≤ 200)) = true := by simp
      rw [this, depths]
      have h2 : (d + (1 + 0) ≤ 200) = (d + 1 ≤ 200) := by rw [Nat.add_zero]
      simp only [h2, Bool.true_and, Bool.and_assoc]
    | cons a b =>
      have e1 : decide ((a :: b : List Go.Tm.T) = [] ∨ d + 1 + depths (a :: b) ≤ 200) = decide (d + 1 + depths (a :: b) ≤ 200) := by simp
      rw [e1]
      by_cases h : d + 1 + depths (a :: b) ≤ 200
      · rw [decide_eq_true h, decide_eq_true (show d + 1 ≤ 200 by omega), decide_eq_true (show d + (1 + depths (a :: b)) ≤ 200 by omega)]
        simp
      · rw [decide_eq_false h, decide_eq_false (show ¬ d + (1 + depths (a :: b)) ≤ 200 by omega)]
        simp
theorem walks_ok : ∀ (ts : List Go.Tm.T) (par : Go.Tm.T) (i d : Nat), i + ts.length = par.kids.length → (∀ j, j < ts.length → par.kids.getD (i + j) default = ts.getD j default) → (walks par i (d + 1) ts).all okP = (decide (ts = [] ∨ d + depths ts ≤ 200) && nodesTs ts)
  | [], par, i, d, _, _ => by rw [walks, nodesTs]; simp
  | t :: ts, par, i, d, hl, hg => by
    rw [List.length_cons] at hl
    rw [walks, List.all_append, walk_ok t par i d (by have := hg 0 (by simp); simpa using this), walks_ok ts par (i + 1) d (by omega) (fun j hj => by
      have := hg (j + 1) (by simpa using hj)
      rw [show i + 1 + j = i + (j + 1) by omega]
      exact this), nodesTs, depths]
    have e1 : decide ((t :: ts : List Go.Tm.T) = [] ∨ d + max t.depth (depths ts) ≤ 200) = (decide (d + t.depth ≤ 200) && decide (ts = [] ∨ d + depths ts ≤ 200)) := by
      rw [← Bool.decide_and, decide_eq_decide]
      constructor
      · rintro (h | h)
        · cases h
        · exact ⟨by omega, .inr (by omega)⟩
      · rintro ⟨h1, rfl | h2⟩
        · right; rw [depths]; omega
        · right; omega
    rw [e1]
    cases decide (d + t.depth ≤ 200) <;> cases nodesT t <;> cases decide (ts = [] ∨ d + depths ts ≤ 200) <;> rfl
end
theorem right_iff (t : Go.Tm.T) : rightT t = (decide (t.size ≤ 10000) && (decide (t.depth ≤ 200) && nodesT t)) := by
  unfold rightT rightL
  rw [walk_len, walk_ok t (rootT t) 0 0 rfl, Nat.zero_add]
theorem right_two {k n : Int} {nm : ByteArray} {a b : Go.Tm.T} (h : rightT (.node k nm n [a, b]) = true) : rightT a = true ∧ rightT b = true := by
  rw [right_iff] at h ⊢
  rw [right_iff]
  rw [Bool.and_eq_true, Bool.and_eq_true, decide_eq_true_eq, decide_eq_true_eq] at h
  obtain ⟨h1, h2, h3⟩ := h
  rw [T.size, sizes, sizes, sizes] at h1
  rw [T.depth, depths, depths, depths] at h2
  rw [nodesT, nodesTs, nodesTs, nodesTs, Bool.and_eq_true, Bool.and_eq_true, Bool.and_eq_true] at h3
  obtain ⟨_, h4, h5, _⟩ := h3
  rw [h4, h5, decide_eq_true (show a.size ≤ 10000 by omega), decide_eq_true (show a.depth ≤ 200 by omega), decide_eq_true (show b.size ≤ 10000 by omega), decide_eq_true (show b.depth ≤ 200 by omega)]
  exact ⟨rfl, rfl⟩
end Go.Proofs.YthmchdpinobbgaaGreatDoor
