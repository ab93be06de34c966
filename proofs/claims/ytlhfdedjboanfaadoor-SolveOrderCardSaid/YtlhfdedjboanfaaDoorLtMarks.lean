/-
  The marks that ranges over functions leave among a frame's deferred calls: a frame leaves through all of them. No condition.
-/
import Derived.RangeFuncNested
import Derived.RangeFuncLeaves
namespace Go
open Go.RowKit
variable {F : Fence} {n : Nat} {P : Program}

def rmark (D : Nat) : Deferred := { target := .collected D, args := #[] }
structure Marks (base : Nat) (Ds : List Nat) (W : World) : Prop where
  at_ : ∀ D ∈ Ds, base ≤ D ∧ W.heap[D]? = some (.deferred (some []))
  nodup : Ds.Nodup
def takeAll (W : World) : List Nat → World
  | [] => W
  | D :: r => takeAll (W.putObj D (.deferred none)) r

theorem Marks.nil (base : Nat) (W : World) : Marks base [] W := ⟨fun _ h => (by cases h), List.nodup_nil⟩
theorem Marks.lt {base : Nat} {Ds : List Nat} {W : World} (h : Marks base Ds W) : ∀ D ∈ Ds, D < W.heap.size := fun D hD => (Array.getElem?_eq_some_iff.1 (h.at_ D hD).2).1
theorem Marks.cons {base D : Nat} {Ds : List Nat} {W : World} (h : Marks base Ds W) (hB : base ≤ D) (hnew : ∀ E ∈ Ds, E < D) (hD : W.heap[D]? = some (.deferred (some []))) : Marks base (D :: Ds) W :=
  ⟨fun E hE => by
    rcases List.mem_cons.1 hE with rfl | h'
    · exact ⟨hB, hD⟩
    · exact h.at_ E h', List.nodup_cons.2 ⟨fun hm => by have := hnew D hm; omega, h.nodup⟩⟩
theorem Marks.keep {base : Nat} {Ds : List Nat} {W W' : World} (h : Marks base Ds W) (hk : ∀ D ∈ Ds, W'.heap[D]? = W.heap[D]?) : Marks base Ds W' :=
  ⟨fun D hD => ⟨(h.at_ D hD).1, (hk D hD).trans (h.at_ D hD).2⟩, h.nodup⟩
theorem Marks.others {base : Nat} {Ds : List Nat} {W W' : World} (h : Marks base Ds W) (hk : KeepsOthers W W') : Marks base Ds W' :=
  ⟨fun D hD => ⟨(h.at_ D hD).1, hk.same D _ (h.at_ D hD).2 rfl⟩, h.nodup⟩
theorem Marks.own {β : Type} {base B : Nat} {Ds : List Nat} (hB : ∀ D ∈ Ds, D < B) : OwnFrom B (fun (_ : β) W => Marks base Ds W) := fun _ X Y row hs hg hr =>
  ⟨fun D hD => ⟨(hs.at_ D hD).1, (hg.block D (hs.lt D hD) (fun e => by have := (hr D e.symm).1; have := hB D hD; omega)).trans (hs.at_ D hD).2⟩, hs.nodup⟩

theorem takeAll_box : ∀ (Ds : List Nat) {W : World} {base B : Nat} {t : TypeId} {v : Value}, Marks base Ds W → Boxed W B t v → Boxed (takeAll W Ds) B t v
  | [], _, _, _, _, _, _, h => h
  | D :: r, W, base, B, t, v, hm, h => by
    have hD := (hm.at_ D (List.mem_cons_self ..)).2
    have hne : B ≠ D := fun e => by subst e; rw [show W.heap[B]? = _ from h] at hD; cases hD
    refine takeAll_box r (base := base) (W := W.putObj D (.deferred none)) ⟨fun E hE => ⟨(hm.at_ E (List.mem_cons_of_mem _ hE)).1, ?_⟩, (List.nodup_cons.1 hm.nodup).2⟩ (h.kept (grownBy_putObj' W D _) (by simp [hne]))
    exact (World.putObj_heap_other (fun e => by subst e; exact (List.nodup_cons.1 hm.nodup).1 hE)).trans (hm.at_ E (List.mem_cons_of_mem _ hE)).2
theorem takeAll_below : ∀ (Ds : List Nat) {X W : World} {base n₀ : Nat}, n₀ ≤ base → n₀ ≤ W.heap.size → Marks base Ds W → Below n₀ X W → Below n₀ X (takeAll W Ds)
  | [], _, _, _, _, _, _, _, h => h
  | D :: r, X, W, base, n₀, h0, hsz, hm, h => by
    have hB := (hm.at_ D (List.mem_cons_self ..)).1
    have hb : Below n₀ X (W.putObj D (.deferred none)) := h.grown (grownBy_putObj' W D _) hsz (fun k e => by cases e; omega)
    refine takeAll_below r h0 (Nat.le_trans hsz (grownBy_putObj' W D _).size) ⟨fun E hE => ⟨(hm.at_ E (List.mem_cons_of_mem _ hE)).1, ?_⟩, (List.nodup_cons.1 hm.nodup).2⟩ hb
    exact (World.putObj_heap_other (fun e => by subst e; exact (List.nodup_cons.1 hm.nodup).1 hE)).trans (hm.at_ E (List.mem_cons_of_mem _ hE)).2

theorem leaves_marks {fn : Func} {tmps : Array Value} {R : Ending → World → Prop} : ∀ (Ds : List Nat) {W : World} {base : Nat}, Marks base Ds W →
    (∃ v, (results fn tmps).run P (takeAll W Ds) = .ok v (takeAll W Ds) ∧ R (.returned v) (takeAll W Ds)) → LeavesInM F n P fn tmps R (Ds.map rmark) .returning W
  | [], _, _, _, h => h
  | D :: r, W, base, hm, h => by
    refine ⟨by simp, .inl ⟨D, _, rfl, run_takeDeferred (hm.at_ D (List.mem_cons_self ..)).2, ?_⟩⟩
    refine leaves_marks r (base := base) ⟨fun E hE => ⟨(hm.at_ E (List.mem_cons_of_mem _ hE)).1, ?_⟩, (List.nodup_cons.1 hm.nodup).2⟩ h
    exact (World.putObj_heap_other (fun e => by subst e; exact (List.nodup_cons.1 hm.nodup).1 hE)).trans (hm.at_ E (List.mem_cons_of_mem _ hE)).2
end Go
