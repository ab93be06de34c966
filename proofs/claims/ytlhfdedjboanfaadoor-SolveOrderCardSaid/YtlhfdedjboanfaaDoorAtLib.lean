/-
  The library's Sort, Compact over rows that the call owns; what both give. Condition: fewer than 2^62 numbers.
-/
import Derived.Test.YtlhfdedjboanfaaDoorAtMem
import Derived.Shelf.SortM.Plain
import Derived.Shelf.SortM.SortNone
import Derived.Shelf.SlicesG.CompactI
import Derived.Shelf.SlicesE.Clone
import Derived.Shelf.SlSortCmp.NoneTotal
import Derived.Test.YtlhfdedjboanfaaDoorAtLay
namespace Go.Proofs.YtlhfdedjboanfaaDoor
open Go.RowKit Go.Shelf Go.At Go.Lib Go.Sort

/-- sorted -/
def sortI (zs : List Int) : List Int := zs.mergeSort fun x y => decide (x ≤ y)
theorem sortI_len (zs : List Int) : (sortI zs).length = zs.length := by simp [sortI]
theorem sortI_perm (zs : List Int) : (sortI zs).Perm zs := List.mergeSort_perm _ _
theorem sortI_asc (zs : List Int) : (sortI zs).Pairwise fun a b => ltI b a = false := by
  have h := List.pairwise_mergeSort (le := fun x y : Int => decide (x ≤ y)) (fun a b c h1 h2 => by simp at *; omega) (fun a b => by simp; omega) zs
  refine h.imp fun {a b} hab => ?_
  simp [ltI] at *
  omega
/-- what is sorted and made compact -/
theorem sorted_compact (zs : List Int) : compact (sortI zs) = ordL ltI zs := by
  unfold compact
  exact compact_ord linI (sortI_perm zs) (sortI_asc zs)
theorem own_grow {w : World} {base size n : Nat} {e : TypeId} {v : Value} {xs : List Value} (h : w.ownsRow base e size v n xs) (os : Array Obj) : (grow w os).ownsRow base e size v n xs :=
  own_later h (below_grow (Below.refl _ _) (Nat.le_refl _) os)

theorem sortA_own {w : World} {base : Nat} {v : Value} {zs : List Int} (h : w.ownsRow base 28 1 v zs.length (zs.map (Value.int .i64))) (hb : base ≤ w.heap.size) (hl : zs.length < 4611686018427387904) :
    Calls Tryd.prog 73 #[v] w fun e w' => e = .returned (.tuple #[]) ∧ w'.ownsRow base 28 1 v zs.length ((sortI zs).map (Value.int .i64)) ∧ Below base w w' := by
  by_cases hz : zs = []
  · subst hz
    obtain ⟨A, c, rfl, -, -⟩ := nms_own h
    refine (show Calls Tryd.prog 73 #[.slice A 0 c] w _ from AnyM.slices_Sort_int_none Tryd.sortA A c w).mono ?_
    rintro e w' ⟨rfl, rfl⟩
    exact ⟨rfl, by simpa [sortI] using h, Below.refl _ _⟩
  · have hn : v ≠ .slice none 0 0 := by
      rintro rfl
      obtain ⟨-, ⟨-, h2⟩ | ⟨g, cap, cur, hv, -⟩⟩ := h
      · exact hz (List.eq_nil_of_length_eq_zero h2)
      · cases hv
    obtain ⟨g, cap, rfl, hbg, hg, hc1, hc2, -, hH⟩ := holds_of_ownsRow h hn
    refine (show Calls Tryd.prog 73 #[.slice (some ⟨g, 0, none⟩) zs.length cap] w _ from AnyM.slices_Sort_int Tryd.sortA g 0 cap zs w hH hg hl).mono ?_
    rintro e w' ⟨rfl, n, os, rfl⟩
    refine ⟨rfl, own_grow ?_ os, below_grow (below_putRow (Below.refl _ _) hbg) (by simpa using hb) os⟩
    have := ownsRow_putRow (q := n) (k := zs.length) (ys := sortI zs) h (sortI_len zs) (Nat.le_refl _)
    rw [List.take_of_length_le (by rw [sortI_len]; exact Nat.le_refl _)] at this
    exact this
theorem compA_own {w : World} {base : Nat} {v : Value} {zs : List Int} (h : w.ownsRow base 28 1 v zs.length (zs.map (Value.int .i64))) (hl : zs.length < 4611686018427387904) :
    Calls Tryd.prog 74 #[v] w fun e w' => (∃ A c, e = .returned (.slice A (compact zs).length c) ∧ Nms w' A (compact zs) ∧ OkS A (compact zs).length c) ∧ Below base w w' := by
  by_cases hz : zs = []
  · subst hz
    obtain ⟨A, c, rfl, -, -⟩ := nms_own h
    refine (show Calls Tryd.prog 74 #[.slice A 0 c] w _ from AnyG.slices_Compact_int_empty Tryd.compA A c w).mono ?_
    rintro e w' ⟨rfl, rfl⟩
    exact ⟨⟨A, c, rfl, Nms.nil _ _, own_ok h⟩, Below.refl _ _⟩
  · have hn : v ≠ .slice none 0 0 := by
      rintro rfl
      obtain ⟨-, ⟨-, h2⟩ | ⟨g, cap, cur, hv, -⟩⟩ := h
      · exact hz (List.eq_nil_of_length_eq_zero h2)
      · cases hv
    obtain ⟨g, cap, rfl, hbg, hg, hc1, hc2, -, hH⟩ := holds_of_ownsRow h hn
    refine (show Calls Tryd.prog 74 #[.slice (some ⟨g, 0, none⟩) zs.length cap] w _ from AnyG.slices_Compact_int Tryd.compA g 0 cap zs w hH (by omega) hc1).mono ?_
    rintro e w' ⟨rfl, q, rfl⟩
    have hle : (compact zs).length ≤ zs.length := by
      have := List.length_filter_le (keeps zs.toArray) (List.range zs.length)
      simpa [compact, compactUpTo] using this
    have := ownsRow_putRow (q := q) (k := (compact zs).length) (ys := compact zs ++ List.replicate (zs.length - (compact zs).length) 0) h (by simp; omega) hle
    rw [List.take_append_of_le_length (Nat.le_refl _), List.take_length] at this
    have hok := own_ok this
    obtain ⟨A, c, e1, e2, -⟩ := nms_own this
    injection e1 with e3 e4 e5
    subst e3
    exact ⟨⟨_, _, rfl, e2, hok⟩, below_putRow (Below.refl _ _) hbg⟩

end Go.Proofs.YtlhfdedjboanfaaDoor
