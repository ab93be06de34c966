/-
  A list of atoms, a list of texts that came in, opened. Condition: the row's own.
-/
import Derived.Test.YtkagmkejndjepaaGreatDoorAtRow
namespace Go.Proofs.YtkagmkejndjepaaGreatDoor
open Go.ChangeShapes Go.WideShapes Go.ChangeAt Go.RowKit Go.Joins Go.At Go.Deep

theorem bulk_mem {H : Type} : ∀ (l : List (DataW H)) (d : DataW H), d ∈ l → Rows.uptoBulk d ≤ Rows.uptoBulkAll l
  | [], _, h => by cases h
  | x :: r, d, h => by
    simp only [Rows.uptoBulkAll]
    rcases List.mem_cons.1 h with rfl | h
    · omega
    · have := bulk_mem r d h
      omega
section
variable {H : Type} {enc : TypeId × Value → H} {W : World} {base : Nat} {v : Value} {d : DataW H} {p : List MemPlace}
set_option maxRecDepth 100000 in
theorem open_atoms (hval : Value.okWide Tryz.prog W .any base 23 v) (h1 : DataW.Trod enc Tryz.prog W 0 (fun _ => true) true 23 v d p) :
    ∃ (A : Option Addr) (l : List Int) (c : Nat), v = .slice A l.length c ∧ Nms W A l ∧ (∀ x ∈ l, I64 x) ∧ OkS A l.length c ∧ l.length ≤ Rows.uptoBulk d := by
  obtain ⟨a1, len1, cap1, rfl⟩ := okWide_slice Tryz.underlying23 hval
  obtain ⟨fuel, hf⟩ := h1
  rcases open_slice Tryz.underlying23 hf with ⟨hcs, hx⟩ | ⟨a, len, cap, m, n, D, Pl, hcs, hb, hl, hm, hmm, hxx, hx⟩
  · simp [Value.cells] at hcs
    obtain ⟨rfl, rfl, rfl⟩ := hcs
    exact ⟨none, [], 0, rfl, Nms.nil _ _, by simp, ⟨Nat.le_refl _, Nat.zero_le _, fun _ => rfl⟩, Nat.zero_le _⟩
  · simp [Value.cells] at hcs
    obtain ⟨rfl, rfl, rfl⟩ := hcs
    have hlm : len1 ≤ m := by rw [hmm]; split <;> omega
    have each : ∀ i, i < m → ∃ q : Int, W.cell? (a.add i) = some (.int .i64 q) ∧ I64 q := by
      intro i hi
      obtain ⟨cs', h1, h2⟩ := hx i hi
      rw [cAtom] at h1
      obtain ⟨_, hlen, hcell⟩ := World.cells?_some h1
      match cs', hlen with
      | [v0], _ =>
        obtain ⟨q, e0, d0, w0⟩ := DataW.trod_int Tryz.underlying24 h2
        simp only [List.cons.injEq, and_true] at e0
        subst e0
        have c0 := hcell 0 (by omega)
        rw [add_add] at c0
        exact ⟨q, by simpa using c0, wf_i64 w0⟩
    obtain ⟨q, hq⟩ := choose_lt each
    refine ⟨some a, (List.range len1).map q, cap1, by simp, fun hn => ?_, ?_, ⟨by simpa using hl, hm, fun h => by cases h⟩, ?_⟩
    · have hpos : 0 < len1 := Nat.pos_of_ne_zero fun e => hn (by rw [e]; rfl)
      have h0 := (hq 0 (by omega)).1
      have hbk : a.block < W.heap.size := World.block_lt_of_cell? W _ (by simpa [Addr.add] using h0)
      obtain ⟨ab, ao, spot⟩ := a
      have hspot : spot = none := by simpa [Addr.add] using World.cell?_spot h0
      subst hspot
      refine ⟨ab, ao, rfl, hbk, fun j hj => ?_⟩
      rw [List.length_map, List.length_range] at hj
      have g0 := (hq j (by omega)).1
      rw [Addr.add_lit] at g0
      have e : ((List.range len1).map q).getD j 0 = q j := by
        rw [List.getD_eq_getElem?_getD, List.getElem?_map, List.getElem?_range hj]; rfl
      rw [e]
      exact g0
    · intro x hx
      obtain ⟨i, hi, rfl⟩ := List.mem_map.1 hx
      exact (hq i (by have := List.mem_range.1 hi; omega)).2
    · simp only [Prod.mk.injEq] at hxx
      rw [hxx.1]
      simp only [Rows.uptoBulk, List.length_map, List.length_range]
      have := bulk_len ((List.range len1).map D)
      simp only [List.length_map, List.length_range] at this
      omega
set_option maxRecDepth 100000 in
theorem open_strs (hval : Value.okWide Tryz.prog W .any base 25 v) (h1 : DataW.Trod enc Tryz.prog W 0 (fun _ => true) true 25 v d p) :
    ∃ (A : Option Addr) (ns : List ByteArray) (c : Nat), v = .slice A ns.length c ∧ Strs W A ns ∧ (∀ x ∈ ns, x.size ≤ Rows.uptoBulk d) ∧ ns.length ≤ Rows.uptoBulk d := by
  obtain ⟨a1, len1, cap1, rfl⟩ := okWide_slice Tryz.underlying25 hval
  obtain ⟨fuel, hf⟩ := h1
  rcases open_slice Tryz.underlying25 hf with ⟨hcs, hx⟩ | ⟨a, len, cap, m, n, D, Pl, hcs, hb, hl, hm, hmm, hxx, hx⟩
  · simp [Value.cells] at hcs
    obtain ⟨rfl, rfl, rfl⟩ := hcs
    exact ⟨none, [], 0, rfl, Strs.nil _ _, by simp, Nat.zero_le _⟩
  · simp [Value.cells] at hcs
    obtain ⟨rfl, rfl, rfl⟩ := hcs
    have hlm : len1 ≤ m := by rw [hmm]; split <;> omega
    have each : ∀ i, i < m → ∃ q : ByteArray, W.cell? (a.add i) = some (.string q) ∧ D i = .lit (.string q.data.toList) := by
      intro i hi
      obtain ⟨cs', h1, h2⟩ := hx i hi
      rw [cStr] at h1
      obtain ⟨_, hlen, hcell⟩ := World.cells?_some h1
      match cs', hlen with
      | [v0], _ =>
        obtain ⟨q, e0, d0, _⟩ := DataW.trod_string Tryz.underlying9 h2
        simp only [List.cons.injEq, and_true] at e0
        subst e0
        have c0 := hcell 0 (by omega)
        rw [add_add] at c0
        simp only [Prod.mk.injEq] at d0
        exact ⟨q, by simpa using c0, d0.1⟩
    obtain ⟨q, hq⟩ := choose_lt each
    simp only [Prod.mk.injEq] at hxx
    refine ⟨some a, (List.range len1).map q, cap1, by simp, fun hn => ?_, ?_, ?_⟩
    · have hpos : 0 < len1 := Nat.pos_of_ne_zero fun e => hn (by rw [e]; rfl)
      have h0 := (hq 0 (by omega)).1
      have hbk : a.block < W.heap.size := World.block_lt_of_cell? W _ (by simpa [Addr.add] using h0)
      obtain ⟨ab, ao, spot⟩ := a
      have hspot : spot = none := by simpa [Addr.add] using World.cell?_spot h0
      subst hspot
      refine ⟨ab, ao, rfl, hbk, fun j hj => ?_⟩
      rw [List.length_map, List.length_range] at hj
      have g0 := (hq j (by omega)).1
      rw [Addr.add_lit] at g0
      have e : ((List.range len1).map q).getD j ByteArray.empty = q j := by
        rw [List.getD_eq_getElem?_getD, List.getElem?_map, List.getElem?_range hj]; rfl
      rw [e]
      exact g0
    · intro x hx
      obtain ⟨i, hi, rfl⟩ := List.mem_map.1 hx
      have hi' := List.mem_range.1 hi
      have h2 := (hq i (by omega)).2
      rw [hxx.1]
      have h3 := bulk_mem ((List.range len1).map D) (D i) (List.mem_map.2 ⟨i, hi, rfl⟩)
      rw [h2] at h3
      simp only [Rows.uptoBulk, Array.length_toList, ByteArray.size_data] at h3 ⊢
      omega
    · rw [hxx.1]
      simp only [Rows.uptoBulk, List.length_map, List.length_range]
      have := bulk_len ((List.range len1).map D)
      simp only [List.length_map, List.length_range] at this
      omega
end
end Go.Proofs.YtkagmkejndjepaaGreatDoor
