/-
  SortFunc and Compact over pairs. Condition: the row lies in a block of the call's own.
-/
import Derived.Test.YtkagmkejndjepaaGreatDoorAtCmp
namespace Go.Proofs.YtkagmkejndjepaaGreatDoor
open Go.RowKit Go.Shelf Go.At Go.Lib Go.Sort
attribute [local go_sem] Oper.semAt_some

theorem fnCmp2 (args : Array Value) (W : World) : (callFunc 42 args).run Tryz.prog W = .ok (.enter 42 args) W := by
  rw [Tryz.call42]
theorem ltOf_cmp (x y : Pr) : ltOf cmpP x y = ltP x y := cmpP_lt x y
theorem swoP : SWO (ltOf cmpP) where
  irrefl x := by rw [ltOf_cmp]; exact linP.irrefl x
  trans x y z h1 h2 := by rw [ltOf_cmp] at *; exact linP.trans x y z h1 h2
  ntrans x y z h1 h2 := by
    rw [ltOf_cmp] at *
    cases e : ltP x z with
    | false => rfl
    | true =>
      exfalso
      have a1 : ¬ (x.1 < y.1 ∨ x.1 = y.1 ∧ x.2 < y.2) := by simpa [ltP] using h1
      have a2 : ¬ (y.1 < z.1 ∨ y.1 = z.1 ∧ y.2 < z.2) := by simpa [ltP] using h2
      have a3 : x.1 < z.1 ∨ x.1 = z.1 ∧ x.2 < z.2 := by simpa [ltP] using e
      omega
theorem PArr.holdsK {W : World} {g : Nat} {d : Array Pr} (h : PArr W g d) : HoldsK encP 2 W g 0 d := fun t ht => by
  rw [size_flatK] at ht
  obtain ⟨c0, c1⟩ := h.cell (j := t / 2) (by omega)
  refine ⟨?_, h.frozen _⟩
  rw [Nat.zero_add, get_flatK _ _ _ _ ht]
  rcases (show t % 2 = 0 ∨ t % 2 = 1 by omega) with e | e
  · rw [e]
    have : t = t / 2 * 2 := by omega
    rw [← this] at c0
    exact c0
  · rw [e]
    have : t = t / 2 * 2 + 1 := by omega
    rw [← this] at c1
    exact c1
theorem PArr.sorted {W : World} {g : Nat} {d d' : Array Pr} (h : PArr W g d) (hs : d'.size = d.size) (n : Nat) (os : Array Obj) : PArr (sortWorldK encP 2 W g 0 n d' os) g d' ∧ Below g W (sortWorldK encP 2 W g 0 n d' os) := by
  have hK := h.holdsK
  have hlt := h.lt
  have hb : Below g W (sortWorldK encP 2 W g 0 n d' os) := by
    unfold sortWorldK putRowK
    exact below_grow (below_putRow (Below.refl _ _) (Nat.le_refl _)) (by simpa using Nat.le_of_lt hlt) os
  have hK2 : HoldsK encP 2 (sortWorldK encP 2 W g 0 n d' os) g 0 d' := by
    unfold sortWorldK
    refine holdsK_grow encP 2 _ os g 0 d' ?_ (holdsK_putRowK encP 2 _ g 0 d d' (holdsK_ahead encP 2 W n g 0 d hK) hs)
    simpa [putRowK] using hlt
  refine ⟨?_, hb⟩
  obtain ⟨cur, h1, h2, h3⟩ := h
  have hc : (sortWorldK encP 2 W g 0 n d' os).heap[g]? = some (.cells (putCells id 0 (flatK encP 2 d') cur) 53 (0, 0)) := by
    unfold sortWorldK grow putRowK
    have e1 : (putRow id (Sort.ahead W n) g 0 (flatK encP 2 d')).heap[g]? = some (.cells (putCells id 0 (flatK encP 2 d') cur) 53 (0, 0)) := by
      simp [putRow, mapBlock, Sort.ahead, Array.getElem?_modify, h1, onCells]
    show ((putRow id (Sort.ahead W n) g 0 (flatK encP 2 d')).heap ++ os)[g]? = _
    rw [Array.getElem?_append_left (by simpa using hlt)]
    exact e1
  refine ⟨_, hc, by simpa [putCells, hs] using h2, fun j hj => ?_⟩
  have x0 := (hK2.cell (i := j) (c := 0) hj (by omega)).1
  have x1 := (hK2.cell (i := j) (c := 1) hj (by omega)).1
  constructor
  · simpa [World.cell?, hc, encP] using x0
  · simpa [World.cell?, hc, encP] using x1

set_option maxRecDepth 100000 in
theorem sortF_any (g cap : Nat) (d : Array Pr) (w : World) (hA : PArr w g d) (hsz : d.size < 4611686018427387904) :
    Calls Tryz.prog 41 #[.slice (some ⟨g, 0, none⟩) d.size cap, .func (.func 42) #[] #[]] w fun e w' => e = .returned (.tuple #[]) ∧ ∃ d' : Array Pr, d'.size = d.size ∧ d'.toList.Perm d.toList ∧ d'.toList.Pairwise (fun a b => ltP b a = false) ∧ PArr w' g d' ∧ Below g w w' := by
  refine (show Calls Tryz.prog 41 #[.slice (some ⟨g, 0, none⟩) d.size cap, .func (.func 42) #[] #[]] w _ from AnyQ.slices_SortFunc_total Tryz.sortP 2 Tryz.isAgg53 Tryz.sizeOf53 encP (fun _ => rfl) (fun x v hv => by simp [encP] at hv; rcases hv with rfl | rfl <;> rfl) cmpP swoP 42 #[] g 0 cap d w fnCmp2
    (fun _ _ _ _ x y => cmp2_any x y _) hA.holdsK hA.lt hsz (fun x y h1 h2 => by rw [ltOf_cmp] at h1 h2; exact linP.total x y h1 h2)).mono ?_
  rintro e w' ⟨rfl, n, os, rfl⟩
  have hl : (d.toList.mergeSort fun x y => !(ltOf cmpP) y x).toArray.size = d.size := by simp
  obtain ⟨h1, h2⟩ := hA.sorted hl n os
  refine ⟨rfl, _, hl, by simpa using List.mergeSort_perm _ _, ?_, h1, h2⟩
  have h := List.pairwise_mergeSort (le := fun x y : Pr => !(ltOf cmpP) y x) (fun a b c h1 h2 => by
    simp only [ltOf_cmp, Bool.not_eq_true'] at *
    have := swoP.ntrans c b a (by rw [ltOf_cmp]; exact h2) (by rw [ltOf_cmp]; exact h1)
    rwa [ltOf_cmp] at this) (fun a b => by
    simp only [ltOf_cmp, Bool.or_eq_true, Bool.not_eq_true']
    cases e : ltP b a with
    | false => exact .inl rfl
    | true => exact .inr (linP.anti e)) d.toList
  refine h.imp fun {a b} hab => ?_
  rw [ltOf_cmp] at hab
  simpa using hab
end Go.Proofs.YtkagmkejndjepaaGreatDoor
