/-
  Pairs, numbers, texts behind a slice; rows that a call owns. No condition.
-/
import Derived.WalkKit
import Derived.Shelf.Abstract
import Derived.Shelf.RegionOpen
import Derived.OwnWalkIn
import Derived.TacticsInMore
import Derived.LoopNIn
import Derived.LoopIn
import Derived.Lib.Hide
import Derived.Lib.OwnBridge
import Derived.BigQuiet
import Derived.Deep.QuietTactic
import Derived.Deep.RegionHeld3
import Derived.Deep.RegionLaw
import Derived.Deep.DrawnRows
import Derived.Laws.Rows
import Derived.Below
import Derived.Maps.OwnIn
import Derived.Maps.AppendAt
import Derived.Sort.LoopGhostIn
import Derived.Sort.Grow
import Derived.Laws.EntriesVeiled
import Derived.RangeFuncRecord
import Derived.Test.YtlhfdedjboanfaaDoorAtMath
import Derived.Test.YtlhfdedjboanfaaDoorProg
namespace Go.Proofs.YtlhfdedjboanfaaDoor
open Go.RowKit Go.Shelf Go.At

theorem belowN {B : Nat} {X W : World} (h : Below B X W) (k : Nat) : Below B X (W.drewN k) := ⟨h.os, h.tape, h.output, h.size, h.block⟩
theorem later_alloc (w : World) (o : Obj) : Below w.heap.size w (w.alloc o) := (Below.refl _ _).alloc (Nat.le_refl _) o
theorem below_grow {B : Nat} {X W : World} (h : Below B X W) (hB : B ≤ W.heap.size) (os : Array Obj) : Below B X (Go.Sort.grow W os) :=
  ⟨h.os, h.tape, h.output, Nat.le_trans h.size (by rw [Go.Sort.size_grow]; exact Nat.le_add_right _ _), fun j hj => by
    show (W.heap ++ os)[j]? = _
    rw [Array.getElem?_append_left (Nat.lt_of_lt_of_le hj hB)]
    exact h.block j hj⟩
theorem ret_bool {a b : Bool} (h : a = b) : Ending.returned (.bool a) = .returned (.bool b) := by rw [h]
theorem ret_int {k : IntKind} {a b : Int} (h : a = b) : Ending.returned (.int k a) = .returned (.int k b) := by rw [h]
theorem _root_.Go.World.lt_of_get {W : World} {k : Nat} {o : Obj} (h : W.heap[k]? = some o) : k < W.heap.size := (Array.getElem?_eq_some_iff.1 h).1
theorem wrap_i {x : Int} (h : I64 x) : IntKind.i64.wrap x = x := by
  unfold I64 at h
  simp [IntKind.wrap, IntKind.bits, IntKind.signed]
  split <;> omega

/-! ### rows -/
/-- pairs from a place on -/
def PRow (w : World) (b off : Nat) (l : List Pr) : Prop := ∀ j, j < l.length → w.cell? ⟨b, off + j * 2, none⟩ = some (.int .i64 (l.getD j (0, 0)).1) ∧ w.cell? ⟨b, off + j * 2 + 1, none⟩ = some (.int .i64 (l.getD j (0, 0)).2)
/-- numbers from a place on -/
def IRow (w : World) (b off : Nat) (l : List Int) : Prop := ∀ j, j < l.length → w.cell? ⟨b, off + j, none⟩ = some (.int .i64 (l.getD j 0))
def SRow (w : World) (b off : Nat) (l : List ByteArray) : Prop := ∀ j, j < l.length → w.cell? ⟨b, off + j, none⟩ = some (.string (l.getD j ByteArray.empty))
theorem PRow.block {w w' : World} {b off : Nat} {l : List Pr} (h : PRow w b off l) (e : w'.heap[b]? = w.heap[b]?) : PRow w' b off l := fun j hj =>
  ⟨(World.cell?_of_block (a := ⟨b, off + j * 2, none⟩) e).trans (h j hj).1, (World.cell?_of_block (a := ⟨b, off + j * 2 + 1, none⟩) e).trans (h j hj).2⟩
theorem IRow.block {w w' : World} {b off : Nat} {l : List Int} (h : IRow w b off l) (e : w'.heap[b]? = w.heap[b]?) : IRow w' b off l := fun j hj =>
  (World.cell?_of_block (a := ⟨b, off + j, none⟩) e).trans (h j hj)
theorem SRow.block {w w' : World} {b off : Nat} {l : List ByteArray} (h : SRow w b off l) (e : w'.heap[b]? = w.heap[b]?) : SRow w' b off l := fun j hj =>
  (World.cell?_of_block (a := ⟨b, off + j, none⟩) e).trans (h j hj)
/-- pairs behind a slice -/
def Prs (w : World) (A : Option Addr) (l : List Pr) : Prop := l ≠ [] → ∃ b off, A = some ⟨b, off, none⟩ ∧ b < w.heap.size ∧ PRow w b off l
def Nms (w : World) (A : Option Addr) (l : List Int) : Prop := l ≠ [] → ∃ b off, A = some ⟨b, off, none⟩ ∧ b < w.heap.size ∧ IRow w b off l
def Strs (w : World) (A : Option Addr) (l : List ByteArray) : Prop := l ≠ [] → ∃ b off, A = some ⟨b, off, none⟩ ∧ b < w.heap.size ∧ SRow w b off l
theorem Prs.later {w w' : World} {A : Option Addr} {l : List Pr} (h : Prs w A l) (hb : Below w.heap.size w w') : Prs w' A l := fun hn => by
  obtain ⟨b, off, hA, hlt, hc⟩ := h hn
  exact ⟨b, off, hA, Nat.lt_of_lt_of_le hlt hb.size, hc.block (hb.block b hlt)⟩
theorem Nms.later {w w' : World} {A : Option Addr} {l : List Int} (h : Nms w A l) (hb : Below w.heap.size w w') : Nms w' A l := fun hn => by
  obtain ⟨b, off, hA, hlt, hc⟩ := h hn
  exact ⟨b, off, hA, Nat.lt_of_lt_of_le hlt hb.size, hc.block (hb.block b hlt)⟩
theorem Strs.later {w w' : World} {A : Option Addr} {l : List ByteArray} (h : Strs w A l) (hb : Below w.heap.size w w') : Strs w' A l := fun hn => by
  obtain ⟨b, off, hA, hlt, hc⟩ := h hn
  exact ⟨b, off, hA, Nat.lt_of_lt_of_le hlt hb.size, hc.block (hb.block b hlt)⟩
theorem Prs.nil (w : World) (A : Option Addr) : Prs w A [] := fun h => absurd rfl h
theorem Nms.nil (w : World) (A : Option Addr) : Nms w A [] := fun h => absurd rfl h
theorem Strs.nil (w : World) (A : Option Addr) : Strs w A [] := fun h => absurd rfl h

/-! ### rows that a call owns -/
theorem own_later {W W' : World} {base size n : Nat} {e : TypeId} {v : Value} {xs : List Value} (h : W.ownsRow base e size v n xs) (hb : Below W.heap.size W W') : W'.ownsRow base e size v n xs := by
  obtain ⟨h1, h2 | ⟨g, cap, cur, hv, hbg, hg, r⟩⟩ := h
  · exact ⟨h1, .inl h2⟩
  · exact ⟨h1, .inr ⟨g, cap, cur, hv, hbg, (hb.block g (Array.getElem?_eq_some_iff.1 hg).1).trans hg, r⟩⟩
theorem own_block {W : World} {base size n : Nat} {e : TypeId} {v : Value} {xs : List Value} (h : W.ownsRow base e size v n xs) (k : Nat) (hk : v.ownBlock = some k) : base ≤ k := by
  obtain ⟨_, ⟨rfl, _⟩ | ⟨g, cap, cur, rfl, hbg, _⟩⟩ := h
  · cases hk
  · cases hk; exact hbg
def cellsP (l : List Pr) : List Value := l.flatMap fun p => [.int .i64 p.1, .int .i64 p.2]
theorem cellsP_len : ∀ l : List Pr, (cellsP l).length = l.length * 2
  | [] => rfl
  | p :: r => by
    show ([Value.int .i64 p.1, .int .i64 p.2] ++ cellsP r).length = _
    rw [List.length_append, cellsP_len r]
    simp
    omega
theorem cellsP_append (l m : List Pr) : cellsP (l ++ m) = cellsP l ++ cellsP m := by simp [cellsP]
theorem cellsP_get : ∀ (l : List Pr) (j : Nat), j < l.length → (cellsP l)[j * 2]? = some (.int .i64 (l.getD j (0, 0)).1) ∧ (cellsP l)[j * 2 + 1]? = some (.int .i64 (l.getD j (0, 0)).2)
  | [], j, h => absurd h (Nat.not_lt_zero j)
  | p :: r, 0, _ => ⟨rfl, rfl⟩
  | p :: r, j + 1, h => by
    have ih := cellsP_get r j (by simpa using h)
    have e : cellsP (p :: r) = Value.int .i64 p.1 :: .int .i64 p.2 :: cellsP r := rfl
    rw [e, show (j + 1) * 2 = j * 2 + 1 + 1 by omega]
    simp only [List.getElem?_cons_succ]
    exact ih
theorem cells_one (l : List Pr) : ∀ u ∈ cellsP l, u.oneCell' = true := by
  intro u hu
  simp only [cellsP, List.mem_flatMap, List.mem_cons, List.not_mem_nil, or_false] at hu
  obtain ⟨p, _, rfl | rfl⟩ := hu <;> rfl
/-- what a row that is owned holds, cell by cell -/
theorem own_cells {W : World} {base size n : Nat} {e : TypeId} {v : Value} {xs : List Value} (h : W.ownsRow base e size v n xs) (hn : n ≠ 0) :
    ∃ g cap, v = .slice (some ⟨g, 0, none⟩) n cap ∧ base ≤ g ∧ g < W.heap.size ∧ n ≤ cap ∧ cap ≤ maxLen ∧ (∀ j, j < n * size → W.cell? ⟨g, j, none⟩ = xs[j]?) ∧ ∀ j, W.frozen? ⟨g, j, none⟩ = false := by
  obtain ⟨hl, ⟨_, h2⟩ | ⟨g, cap, cur, rfl, hb, hg, hnc, hm, hs, ht⟩⟩ := h
  · exact absurd h2 hn
  · refine ⟨g, cap, rfl, hb, World.lt_of_get hg, hnc, hm, fun j hj => ?_, fun j => by simp [World.frozen?, hg]⟩
    rw [← ht, List.getElem?_take, if_pos hj, Array.getElem?_toList]
    simp [World.cell?, hg]
theorem prs_own {W : World} {base : Nat} {v : Value} {l : List Pr} {ty : TypeId} (h : W.ownsRow base ty 2 v l.length (cellsP l)) : ∃ A c, v = .slice A l.length c ∧ Prs W A l ∧ (l ≠ [] → ∃ g, A = some ⟨g, 0, none⟩ ∧ base ≤ g) := by
  by_cases hn : l = []
  · subst hn
    obtain ⟨_, ⟨rfl, _⟩ | ⟨g, cap, cur, rfl, _⟩⟩ := h
    · exact ⟨none, 0, rfl, Prs.nil _ _, fun h => absurd rfl h⟩
    · exact ⟨_, cap, rfl, Prs.nil _ _, fun h => absurd rfl h⟩
  · obtain ⟨g, cap, rfl, hb, hg, _, _, hc, _⟩ := own_cells h (by simpa using hn)
    refine ⟨_, cap, rfl, fun _ => ⟨g, 0, rfl, hg, fun j hj => ?_⟩, fun _ => ⟨g, rfl, hb⟩⟩
    obtain ⟨e1, e2⟩ := cellsP_get l j hj
    rw [Nat.zero_add]
    exact ⟨(hc _ (by omega)).trans e1, (hc _ (by omega)).trans e2⟩
theorem nms_own {W : World} {base : Nat} {v : Value} {l : List Int} {ty : TypeId} (h : W.ownsRow base ty 1 v l.length (l.map (Value.int .i64))) : ∃ A c, v = .slice A l.length c ∧ Nms W A l ∧ (l ≠ [] → ∃ g, A = some ⟨g, 0, none⟩ ∧ base ≤ g) := by
  by_cases hn : l = []
  · subst hn
    obtain ⟨_, ⟨rfl, _⟩ | ⟨g, cap, cur, rfl, _⟩⟩ := h
    · exact ⟨none, 0, rfl, Nms.nil _ _, fun h => absurd rfl h⟩
    · exact ⟨_, cap, rfl, Nms.nil _ _, fun h => absurd rfl h⟩
  · obtain ⟨g, cap, rfl, hb, hg, _, _, hc, _⟩ := own_cells h (by simpa using hn)
    refine ⟨_, cap, rfl, fun _ => ⟨g, 0, rfl, hg, fun j hj => ?_⟩, fun _ => ⟨g, rfl, hb⟩⟩
    rw [Nat.zero_add, hc _ (by omega), List.getElem?_map, List.getD_eq_getElem?_getD, List.getElem?_eq_getElem hj]
    rfl
/-- a slice's room -/
def OkS (A : Option Addr) (n c : Nat) : Prop := n ≤ c ∧ c ≤ maxLen ∧ (A = none → c = 0)
theorem own_ok {W : World} {base size n k c : Nat} {A : Option Addr} {xs : List Value} {ty : TypeId} (h : W.ownsRow base ty size (.slice A k c) n xs) : OkS A n c := by
  obtain ⟨_, ⟨h1, h2⟩ | ⟨g, cap, cur, h1, _, _, h3, h4, _⟩⟩ := h
  · cases h1; subst h2
    exact ⟨Nat.le_refl _, Nat.zero_le _, fun _ => rfl⟩
  · cases h1
    exact ⟨h3, h4, fun h => by cases h⟩
/-- the value of a pair -/
def pairV (p : Pr) : Value := .agg #[.int .i64 p.1, .int .i64 p.2]
end Go.Proofs.YtlhfdedjboanfaaDoor
