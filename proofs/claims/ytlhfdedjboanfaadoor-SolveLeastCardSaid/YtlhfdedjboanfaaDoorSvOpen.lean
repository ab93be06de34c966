/-
  Bytes that came in, opened. Condition: the row's own.
-/
import Derived.Test.YtlhfdedjboanfaaDoorSvRow
import Derived.Test.YtlhfdedjboanfaaDoorSvLawLeast
namespace Go.Proofs.YtlhfdedjboanfaaDoor
open Go.ChangeShapes Go.WideShapes Go.ChangeAt Go.RowKit Go.Joins Go.At Go.Deep

set_option maxRecDepth 100000 in
/-- BYTES THAT CAME IN. -/
theorem open_bytesV {H : Type} {enc : TypeId × Value → H} {W : World} {base : Nat} {v : Value} {d : DataW H} {p : List MemPlace}
    (hval : Value.okWide Tryd.prog W .any base 49 v) (h1 : DataW.Trod enc Tryd.prog W 0 (fun _ => true) true 49 v d p) :
    ∃ (A : Option Addr) (zs : List Int) (c : Nat), v = .slice A zs.length c ∧ BtsV W A zs ∧ (∀ z ∈ zs, 0 ≤ z ∧ z ≤ 255) ∧ zs.length ≤ 9223372036854775807 ∧ zs.length ≤ c ∧ c ≤ 9223372036854775807 := by
  have hmax : maxLen = 9223372036854775807 := by rfl
  obtain ⟨a1, len, cap, rfl⟩ := okWide_slice Tryd.underlying49 hval
  obtain ⟨fuel, hf⟩ := h1
  rcases open_ints Tryd.underlying49 Tryd.underlying5 (by kernel_rfl) hf with ⟨hcs, _⟩ | ⟨a, len', cap', zs, hcs, _, hl, hm, hz, _, hcell, hwz⟩
  · simp [Value.cells] at hcs
    obtain ⟨rfl, rfl, rfl⟩ := hcs
    exact ⟨none, [], 0, rfl, fun h => absurd rfl h, by simp, by decide, by decide, by decide⟩
  · simp [Value.cells] at hcs
    obtain ⟨rfl, rfl, rfl⟩ := hcs
    simp only [if_true] at hz
    have hlen : (zs.take len).length = len := by rw [List.length_take]; omega
    refine ⟨some a, zs.take len, cap, by rw [hlen], fun hn => ?_, fun z hzz => by have := wf_u8 (hwz z (List.mem_of_mem_take hzz)); omega, by omega, by omega, by omega⟩
    have hpos : 0 < len := Nat.pos_of_ne_zero fun e => hn (by rw [e]; rfl)
    have h0 := hcell 0 (by omega)
    have hb : a.block < W.heap.size := World.block_lt_of_cell? W _ (by simpa [Addr.add] using h0)
    obtain ⟨ab, ao, spot⟩ := a
    have hspot : spot = none := by simpa [Addr.add] using World.cell?_spot h0
    subst hspot
    refine ⟨ab, ao, rfl, hb, fun j hj => ?_⟩
    rw [hlen] at hj
    have hcj := hcell j (by omega)
    rw [Addr.add_lit] at hcj
    rw [hcj, List.getD_eq_getElem?_getD, List.getD_eq_getElem?_getD, List.getElem?_take_of_lt hj]

end Go.Proofs.YtlhfdedjboanfaaDoor
