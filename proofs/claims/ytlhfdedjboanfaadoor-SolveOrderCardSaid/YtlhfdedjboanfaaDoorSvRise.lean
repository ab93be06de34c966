/-
  The rise's memory; raise. Condition: it lies so.
-/
import Derived.Test.YtlhfdedjboanfaaDoorSvBank
namespace Go.Proofs.YtlhfdedjboanfaaDoor
open Go.RowKit Go.Shelf Go.At Go.Sv
attribute [local go_sem] Oper.semAt_some

/-- the rows' types: what each has come up to, what is over it, what was seen, what waits, whether it does; then the rows over each -/
def rTy : Nat → TypeId
  | 0 => 72
  | 1 => 74
  | 4 => 4
  | _ => 3
def rLe (n : Nat) (s : St) : Nat → Nat
  | 3 => s.T.length
  | 0 | 1 | 2 | 4 => n
  | k + 5 => (s.O k).length
def intL (l : List Nat) : List Value := l.map fun x => .int .i64 (x : Nat)
def rowV {α : Type} (n : Nat) (f : Nat → α) (e : α → Value) : List Value := (List.range n).map fun i => e (f i)
def rXs (n : Nat) (va : Nat → Value) (s : St) : Nat → List Value
  | 0 => rowV n s.R fun x => .int .u64 (x : Nat)
  | 1 => rowV n (fun i => va (i + 5)) id
  | 2 => rowV n s.S fun x => .int .i64 (x : Nat)
  | 3 => intL s.T
  | 4 => rowV n s.G .bool
  | k + 5 => intL (s.O k)
theorem rowV_get {α : Type} {n i : Nat} (hi : i < n) (f : Nat → α) (e : α → Value) : (rowV n f e)[i]? = some (e (f i)) := by
  unfold rowV
  rw [List.getElem?_map, List.getElem?_range hi]; rfl
theorem rowV_set {α : Type} (n i : Nat) (f : Nat → α) (e : α → Value) (x : α) : (rowV n f e).set i (e x) = rowV n (upd f i x) e := by
  unfold rowV
  refine List.ext_getElem (by simp) fun j h1 h2 => ?_
  simp only [List.getElem_set, List.getElem_map, List.getElem_range]
  unfold upd
  by_cases h : i = j
  · subst h; simp
  · rw [if_neg h, if_neg (Ne.symm h)]
theorem intL_snoc (l : List Nat) (x : Nat) : intL (l ++ [x]) = intL l ++ [.int .i64 (x : Nat)] := by simp [intL]
theorem intL_len (l : List Nat) : (intL l).length = l.length := by simp [intL]
theorem intL_get {l : List Nat} {j : Nat} (hj : j < l.length) : (intL l)[j]? = some (.int .i64 (l.getD j 0 : Nat)) := by
  unfold intL
  rw [List.getElem?_map, List.getD_eq_getElem?_getD, List.getElem?_eq_getElem hj]; rfl
/-- the rise, at q -/
structure RiseAt (W : World) (base q n : Nat) (va : Nat → Value) (s : St) : Prop where
  bank : Bank W base q (n + 5) rTy va (rLe n s) (rXs n va s)
  box : W.heap[q]? = some (.cells #[va 0, va 1, va 2, va 3, va 4] 77 (0, 0))
  r64 : ∀ i, i < n → s.R i < 18446744073709551616
section
variable {W W' : World} {base q n : Nat} {va : Nat → Value} {s : St}
theorem RiseAt.later (h : RiseAt W base q n va s) (hb : Below W.heap.size W W') : RiseAt W' base q n va s := ⟨h.bank.later hb, (hb.block q h.bank.qlt).trans h.box, h.r64⟩
theorem RiseAt.drewN (h : RiseAt W base q n va s) (k : Nat) : RiseAt (W.drewN k) base q n va s := h.later (belowN (Below.refl _ _) k)
theorem Bank.cong {K : Nat} {ty : Nat → TypeId} {le le' : Nat → Nat} {xs xs' : Nat → List Value} (h : Bank W base q K ty va le xs) (e1 : ∀ k, k < K → le' k = le k) (e2 : ∀ k, k < K → xs' k = xs k) : Bank W base q K ty va le' xs' :=
  ⟨fun k hk => by rw [e1 k hk, e2 k hk]; exact h.own k hk, h.sep, h.out, h.low, h.qlt⟩
theorem RiseAt.set {k g c : Nat} {s' : St} {u : Value} (h : RiseAt W base q n va s) (hk : k < n + 5) (hv : va k = .slice (some ⟨g, 0, none⟩) (rLe n s k) c) (i : Nat)
    (e1 : ∀ j, j < n + 5 → rLe n s' j = rLe n s j) (e2 : ∀ j, j < n + 5 → rXs n va s' j = upd (rXs n va s) k ((rXs n va s k).set i u) j) (hr : ∀ i, i < n → s'.R i < 18446744073709551616) : RiseAt (W.setCell ⟨g, i, none⟩ u) base q n va s' := by
  have hg : g ≠ q := fun e => h.bank.out k hk (by rw [hv, ← e]; rfl)
  exact ⟨(h.bank.set hk hv i u).cong e1 e2, (Below.heap_setCell _ _ _ _ hg.symm).trans h.box, hr⟩
theorem RiseAt.setR {g c v x : Nat} (h : RiseAt W base q n va s) (hv : va 0 = .slice (some ⟨g, 0, none⟩) n c) (hx : x < 18446744073709551616) : RiseAt (W.setCell ⟨g, v, none⟩ (.int .u64 (x : Nat))) base q n va { s with R := upd s.R v x } := by
  refine h.set (k := 0) (by omega) hv v (fun j _ => ?_) (fun j _ => ?_) fun i hi => ?_
  · match j with
    | 0 | 1 | 2 | 3 | 4 => rfl
    | j + 5 => rfl
  · match j with
    | 0 => rw [upd_same]; exact (rowV_set n v s.R (fun x => .int .u64 (x : Nat)) x).symm
    | 1 | 2 | 3 | 4 => rfl
    | j + 5 => rfl
  · show upd s.R v x i < _
    unfold upd
    split
    · exact hx
    · exact h.r64 i hi
theorem RiseAt.setS {g c v x : Nat} (h : RiseAt W base q n va s) (hv : va 2 = .slice (some ⟨g, 0, none⟩) n c) : RiseAt (W.setCell ⟨g, v, none⟩ (.int .i64 (x : Nat))) base q n va { s with S := upd s.S v x } := by
  refine h.set (k := 2) (by omega) hv v (fun j _ => ?_) (fun j _ => ?_) h.r64
  · match j with
    | 0 | 1 | 2 | 3 | 4 => rfl
    | j + 5 => rfl
  · match j with
    | 2 => rw [upd_same]; exact (rowV_set n v s.S (fun x => .int .i64 (x : Nat)) x).symm
    | 0 | 1 | 3 | 4 => rfl
    | j + 5 => rfl
theorem RiseAt.setG {g c v : Nat} {x : Bool} (h : RiseAt W base q n va s) (hv : va 4 = .slice (some ⟨g, 0, none⟩) n c) : RiseAt (W.setCell ⟨g, v, none⟩ (.bool x)) base q n va { s with G := upd s.G v x } := by
  refine h.set (k := 4) (by omega) hv v (fun j _ => ?_) (fun j _ => ?_) h.r64
  · match j with
    | 0 | 1 | 2 | 3 | 4 => rfl
    | j + 5 => rfl
  · match j with
    | 4 => rw [upd_same]; exact (rowV_set n v s.G .bool x).symm
    | 0 | 1 | 2 | 3 => rfl
    | j + 5 => rfl
/-- the row of those that wait turned, and its slice put into the box -/
theorem RiseAt.setT {v' : Value} {T' : List Nat} {W1 : World} (h : RiseAt W base q n va s) (hb : Below W.heap.size W W1) (ho : W'.ownsRow base 3 1 v' T'.length (intL T')) (hg : W1.grownBy W' (va 3).ownBlock)
    (hat : v'.ownBlock = (va 3).ownBlock ∨ ∃ z, v'.ownBlock = some z ∧ W.heap.size ≤ z) : RiseAt (W'.setCell ⟨q, 3, none⟩ v') base q n (upd va 3 v') { s with T := T' } ∧ W'.cell? ⟨q, 3, none⟩ = some (va 3) ∧ W'.frozen? ⟨q, 3, none⟩ = false := by
  have hbk := h.bank.grow (k := 3) (by omega) hb ho hg hat
  have hq : W'.heap[q]? = some (.cells #[va 0, va 1, va 2, va 3, va 4] 77 (0, 0)) :=
    ((hg.block q (Nat.lt_of_lt_of_le h.bank.qlt hb.size) (fun e => h.bank.out 3 (by omega) e.symm)).trans (hb.block q h.bank.qlt)).trans h.box
  refine ⟨⟨(hbk.setq 3 v').cong (fun j _ => ?_) (fun j _ => ?_), ?_, h.r64⟩, ?_, frozen_of_row W' q 3 _ _ hq⟩
  · match j with
    | 3 => rw [upd_same]; rfl
    | 0 | 1 | 2 | 4 => rfl
    | j + 5 => rfl
  · match j with
    | 3 => rw [upd_same]; rfl
    | 0 | 1 | 2 | 4 => rfl
    | j + 5 => rfl
  · rw [heap_setCell_same W' q 3 _ _ v' hq]
    rfl
  · rw [cell_of_row W' q 3 _ _ _ hq]; rfl
theorem Bank.cellOf {K k g c i : Nat} {ty : Nat → TypeId} {le : Nat → Nat} {xs : Nat → List Value} {u : Value} (h : Bank W base q K ty va le xs) (hk : k < K) (hv : va k = .slice (some ⟨g, 0, none⟩) (le k) c) (hi : (xs k)[i]? = some u) (hl : 0 < le k) :
    W.cell? ⟨g, i, none⟩ = some u ∧ W.frozen? ⟨g, i, none⟩ = false := by
  have ho := h.own k hk
  rw [hv] at ho
  obtain ⟨g', e, _, h4⟩ := own_cellAt ho hl
  injection e with e; injection e with e
  subst e
  exact h4 i u hi
theorem RiseAt.bx (h : RiseAt W base q n va s) : W.cell? ⟨q, 0, none⟩ = some (va 0) ∧ W.cell? ⟨q, 1, none⟩ = some (va 1) ∧ W.cell? ⟨q, 2, none⟩ = some (va 2) ∧ W.cell? ⟨q, 3, none⟩ = some (va 3) ∧ W.cell? ⟨q, 4, none⟩ = some (va 4) ∧ W.frozen? ⟨q, 3, none⟩ = false :=
  ⟨cell_of_row _ _ 0 _ _ _ h.box, cell_of_row _ _ 1 _ _ _ h.box, cell_of_row _ _ 2 _ _ _ h.box, cell_of_row _ _ 3 _ _ _ h.box, cell_of_row _ _ 4 _ _ _ h.box, frozen_of_row W q 3 _ _ h.box⟩
theorem RiseAt.rowR {g c v : Nat} (h : RiseAt W base q n va s) (hv : va 0 = .slice (some ⟨g, 0, none⟩) n c) (hn : v < n) : W.cell? ⟨g, v, none⟩ = some (.int .u64 (s.R v : Nat)) ∧ W.frozen? ⟨g, v, none⟩ = false :=
  h.bank.cellOf (k := 0) (by omega) hv (rowV_get hn _ _) (show 0 < n by omega)
theorem RiseAt.rowO {g c v : Nat} (h : RiseAt W base q n va s) (hv : va 1 = .slice (some ⟨g, 0, none⟩) n c) (hn : v < n) : W.cell? ⟨g, v, none⟩ = some (va (v + 5)) ∧ W.frozen? ⟨g, v, none⟩ = false :=
  h.bank.cellOf (k := 1) (by omega) hv (rowV_get hn _ _) (show 0 < n by omega)
theorem RiseAt.rowS {g c v : Nat} (h : RiseAt W base q n va s) (hv : va 2 = .slice (some ⟨g, 0, none⟩) n c) (hn : v < n) : W.cell? ⟨g, v, none⟩ = some (.int .i64 (s.S v : Nat)) ∧ W.frozen? ⟨g, v, none⟩ = false :=
  h.bank.cellOf (k := 2) (by omega) hv (rowV_get hn _ _) (show 0 < n by omega)
theorem RiseAt.rowG {g c v : Nat} (h : RiseAt W base q n va s) (hv : va 4 = .slice (some ⟨g, 0, none⟩) n c) (hn : v < n) : W.cell? ⟨g, v, none⟩ = some (.bool (s.G v)) ∧ W.frozen? ⟨g, v, none⟩ = false :=
  h.bank.cellOf (k := 4) (by omega) hv (rowV_get hn _ _) (show 0 < n by omega)
theorem RiseAt.sl (h : RiseAt W base q n va s) (hn : 0 < n) : ∃ gR cR gO cO gS cS gG cG, va 0 = .slice (some ⟨gR, 0, none⟩) n cR ∧ va 1 = .slice (some ⟨gO, 0, none⟩) n cO ∧ va 2 = .slice (some ⟨gS, 0, none⟩) n cS ∧ va 4 = .slice (some ⟨gG, 0, none⟩) n cG ∧
    (n ≤ cR ∧ cR ≤ 9223372036854775807) ∧ (base ≤ gR ∧ base ≤ gS ∧ base ≤ gG ∧ base ≤ gO) := by
  obtain ⟨gR, cR, eR, a1, a2, b1, -, -⟩ := h.bank.cells (k := 0) (by omega) hn
  obtain ⟨gO, cO, eO, -, -, b4, -, -⟩ := h.bank.cells (k := 1) (by omega) hn
  obtain ⟨gS, cS, eS, -, -, b2, -, -⟩ := h.bank.cells (k := 2) (by omega) hn
  obtain ⟨gG, cG, eG, -, -, b3, -, -⟩ := h.bank.cells (k := 4) (by omega) hn
  exact ⟨gR, cR, gO, cO, gS, cS, gG, cG, eR, eO, eS, eG, ⟨a1, a2⟩, b1, b2, b3, b4⟩
/-- what is none of the rise's lies as it lay -/
def Kept (q n : Nat) (va : Nat → Value) (w w' : World) : Prop := ∀ k, k < w.heap.size → k ≠ q → (∀ j, j < n + 5 → (va j).ownBlock ≠ some k) → w'.heap[k]? = w.heap[k]?
theorem Kept.refl (q n : Nat) (va : Nat → Value) (w : World) : Kept q n va w w := fun _ _ _ _ => rfl
theorem Kept.trans {w1 w2 w3 : World} (h : Kept q n va w1 w2) (k : Kept q n va w2 w3) (hs : w1.heap.size ≤ w2.heap.size) : Kept q n va w1 w3 := fun i h1 h2 h3 => (k i (Nat.lt_of_lt_of_le h1 hs) h2 h3).trans (h i h1 h2 h3)
theorem Kept.later {w1 w2 : World} (h : Below w1.heap.size w1 w2) : Kept q n va w1 w2 := fun i h1 _ _ => h.block i h1
theorem Kept.set {g k : Nat} (hk : k < n + 5) (hg : (va k).ownBlock = some g) (w : World) (i : Nat) (u : Value) : Kept q n va w (w.setCell ⟨g, i, none⟩ u) := fun j _ _ h3 => Below.heap_setCell _ _ _ _ fun e => h3 k hk (by rw [hg]; exact congrArg some e.symm)
theorem Kept.setq (w : World) (i : Nat) (u : Value) : Kept q n va w (w.setCell ⟨q, i, none⟩ u) := fun _ _ h2 _ => Below.heap_setCell _ _ _ _ h2
theorem Kept.grown {k : Nat} {w w' : World} (hk : k < n + 5) (hg : w.grownBy w' (va k).ownBlock) : Kept q n va w w' := fun j h1 _ h3 => hg.block j h1 fun e => h3 k hk e.symm
end
end Go.Proofs.YtlhfdedjboanfaaDoor
