/-
  Terms in memory: a node of four cells, its kids one behind another. No condition.
-/
import Derived.WalkKit
import Derived.Shelf.Abstract
import Derived.Shelf.RegionOpen
import Derived.OwnWalkIn
import Derived.TacticsInMore
import Derived.LoopNIn
import Derived.LoopIn
import Derived.Lib.Hide
import Derived.BigQuiet
import Derived.Deep.QuietTactic
import Derived.Deep.RegionHeld3
import Derived.Deep.DrawnRows
import Derived.Test.YthmchdpinobbgaaGreatDoorTmLaw
import Derived.Test.YthmchdpinobbgaaGreatDoorTmMath
import Derived.Test.YthmchdpinobbgaaGreatDoorProg
namespace Go.Proofs.YthmchdpinobbgaaGreatDoor
open Go.RowKit Go.Shelf Go.Tm

mutual
/-- the four cells of a term, and its kids', in blocks that p takes -/
def NodeAt (W : World) (p : Nat → Prop) (b o : Nat) : T → Prop
  | .node k s n ks => p b ∧ s.size ≤ 9223372036854775807 ∧ W.cell? ⟨b, o, none⟩ = some (.int .i64 k) ∧ W.cell? ⟨b, o + 1, none⟩ = some (.string s) ∧ W.cell? ⟨b, o + 2, none⟩ = some (.int .i64 n) ∧
      ∃ A c, W.cell? ⟨b, o + 3, none⟩ = some (.slice A ks.length c) ∧ (ks = [] ∨ ∃ kb ko, A = some ⟨kb, ko, none⟩ ∧ RowAt W p kb ko ks)
def RowAt (W : World) (p : Nat → Prop) (b o : Nat) : List T → Prop
  | [] => True
  | t :: ts => NodeAt W p b o t ∧ RowAt W p b (o + 4) ts
end
mutual
theorem NodeAt.kept {W W' : World} {p q : Nat → Prop} (hpq : ∀ b, p b → q b) (hk : ∀ b, p b → W'.heap[b]? = W.heap[b]?) : ∀ {b o : Nat} {t : T}, NodeAt W p b o t → NodeAt W' q b o t
  | b, o, .node k s n ks, h => by
    rw [NodeAt] at h ⊢
    obtain ⟨hb, hz, h0, h1, h2, A, c, h3, h4⟩ := h
    have hc : ∀ i, W'.cell? ⟨b, i, none⟩ = W.cell? ⟨b, i, none⟩ := fun i => World.cell?_of_block (a := ⟨b, i, none⟩) (hk b hb)
    refine ⟨hpq b hb, hz, (hc _).trans h0, (hc _).trans h1, (hc _).trans h2, A, c, (hc _).trans h3, ?_⟩
    rcases h4 with h4 | ⟨kb, ko, h4, h5⟩
    · exact .inl h4
    · exact .inr ⟨kb, ko, h4, RowAt.kept hpq hk h5⟩
theorem RowAt.kept {W W' : World} {p q : Nat → Prop} (hpq : ∀ b, p b → q b) (hk : ∀ b, p b → W'.heap[b]? = W.heap[b]?) : ∀ {b o : Nat} {ts : List T}, RowAt W p b o ts → RowAt W' q b o ts
  | _, _, [], _ => by rw [RowAt]; trivial
  | b, o, t :: ts, h => by
    rw [RowAt] at h ⊢
    exact ⟨NodeAt.kept hpq hk h.1, RowAt.kept hpq hk h.2⟩
end
theorem RowAt.get {W : World} {p : Nat → Prop} : ∀ {b o : Nat} {ts : List T} (i : Nat), RowAt W p b o ts → i < ts.length → NodeAt W p b (o + i * 4) (ts.getD i default)
  | _, _, [], i, _, hi => absurd hi (Nat.not_lt_zero i)
  | b, o, t :: ts, 0, h, _ => by
    rw [RowAt] at h
    show NodeAt W p b (o + 0 * 4) t
    rw [Nat.zero_mul, Nat.add_zero]; exact h.1
  | b, o, t :: ts, i + 1, h, hi => by
    rw [RowAt] at h
    have := RowAt.get i h.2 (by simpa using hi)
    show NodeAt W p b (o + (i + 1) * 4) (ts.getD i default)
    rwa [show o + (i + 1) * 4 = o + 4 + i * 4 by omega]

/-- what lies at a node -/
structure Hdr (W : World) (p : Nat → Prop) (b o : Nat) (t : T) (A : Option Addr) (c : Nat) : Prop where
  at_ : p b
  nsz : t.name.size ≤ 9223372036854775807
  kind : W.cell? ⟨b, o, none⟩ = some (.int .i64 t.kind)
  name : W.cell? ⟨b, o + 1, none⟩ = some (.string t.name)
  num : W.cell? ⟨b, o + 2, none⟩ = some (.int .i64 t.num)
  kids : W.cell? ⟨b, o + 3, none⟩ = some (.slice A t.kids.length c)
  row : ∀ i, i < t.kids.length → ∃ kb ko, A = some ⟨kb, ko, none⟩ ∧ NodeAt W p kb (ko + i * 4) (t.kids.getD i default)
theorem NodeAt.hdr {W : World} {p : Nat → Prop} {b o : Nat} {t : T} (h : NodeAt W p b o t) : ∃ A c, Hdr W p b o t A c := by
  cases t with
  | node k s n ks =>
    rw [NodeAt] at h
    obtain ⟨hb, hz, h0, h1, h2, A, c, h3, h4⟩ := h
    refine ⟨A, c, hb, hz, h0, h1, h2, h3, fun i hi => ?_⟩
    rcases h4 with rfl | ⟨kb, ko, rfl, h5⟩
    · exact absurd hi (Nat.not_lt_zero i)
    · exact ⟨kb, ko, rfl, RowAt.get i h5 hi⟩
theorem NodeAt.block {W : World} {p : Nat → Prop} {b o : Nat} {t : T} (h : NodeAt W p b o t) : b < W.heap.size := by
  obtain ⟨A, c, h⟩ := h.hdr
  exact World.block_lt_of_cell? W _ h.kind

def anyB : Nat → Prop := fun _ => True
/-- a place as a value -/
def plV (x : Pl) : Value := .agg #[.pointer (some ⟨x.blk, x.off, none⟩), .int .i64 x.kid, .int .i64 x.depth]
/-- what a round may know of the place that it is handed -/
def PlOk (x : Pl) (W : World) : Prop := NodeAt W anyB x.blk x.off x.par ∧ x.kid < x.par.kids.length

theorem isCells_of_cell {W : World} {b i : Nat} {v : Value} (h : W.cell? ⟨b, i, none⟩ = some v) : ∃ o, W.heap[b]? = some o ∧ o.isCells = true := by
  unfold World.cell? at h
  cases ho : W.heap[b]? with
  | none => rw [ho] at h; cases h
  | some o =>
    rw [ho] at h
    cases o with
    | cells c t f => exact ⟨_, rfl, rfl⟩
    | _ => cases h
mutual
theorem NodeAt.cells {W W' : World} (hk : KeepC W W') : ∀ {b o : Nat} {t : T}, NodeAt W anyB b o t → NodeAt W' anyB b o t
  | b, o, .node k s n ks, h => by
    rw [NodeAt] at h ⊢
    obtain ⟨hb, hz, h0, h1, h2, A, c, h3, h4⟩ := h
    obtain ⟨ob, ho, hoc⟩ := isCells_of_cell h0
    have hc : ∀ i, W'.cell? ⟨b, i, none⟩ = W.cell? ⟨b, i, none⟩ := fun i => World.cell?_of_block (a := ⟨b, i, none⟩) ((hk b ob ho hoc).trans ho.symm)
    refine ⟨trivial, hz, (hc _).trans h0, (hc _).trans h1, (hc _).trans h2, A, c, (hc _).trans h3, ?_⟩
    rcases h4 with h4 | ⟨kb, ko, h4, h5⟩
    · exact .inl h4
    · exact .inr ⟨kb, ko, h4, RowAt.cells hk h5⟩
theorem RowAt.cells {W W' : World} (hk : KeepC W W') : ∀ {b o : Nat} {ts : List T}, RowAt W anyB b o ts → RowAt W' anyB b o ts
  | _, _, [], _ => by rw [RowAt]; trivial
  | b, o, t :: ts, h => by
    rw [RowAt] at h ⊢
    exact ⟨NodeAt.cells hk h.1, RowAt.cells hk h.2⟩
end
theorem PlOk.cells (x : Pl) (W W' : World) (h : PlOk x W) (_ : Below 0 W W') (hk : KeepC W W') : PlOk x W' := ⟨h.1.cells hk, h.2⟩
theorem NodeAt.wide {W : World} {p q : Nat → Prop} (hpq : ∀ b, p b → q b) {b o : Nat} {t : T} (h : NodeAt W p b o t) : NodeAt W q b o t := NodeAt.kept hpq (fun _ _ => rfl) h
end Go.Proofs.YthmchdpinobbgaaGreatDoor
