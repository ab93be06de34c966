/-
  One pair that came in, opened. Condition: the row's own.
-/
import Derived.Test.YtlhfdedjboanfaaDoorSvRow
namespace Go.Proofs.YtlhfdedjboanfaaDoor
open Go.ChangeShapes Go.WideShapes Go.ChangeAt Go.RowKit Go.Joins Go.At Go.Deep

set_option maxRecDepth 100000 in
/-- A PAIR THAT CAME IN. -/
theorem open_pq {H : Type} {enc : TypeId × Value → H} {W : World} {base : Nat} {v : Value} {d : DataW H} {p : List MemPlace}
    (hv : Value.okWide Tryd.prog W .any base 58 v) (h : DataW.Trod enc Tryd.prog W 0 (fun _ => true) true 58 v d p) :
    ∃ x y : Int, v = .agg #[.int .i64 x, .int .i64 y] ∧ I64 x ∧ I64 y := by
  obtain ⟨v0, v1, y0, y1, n, rfl, _, _, h0, h1⟩ := open_agg2 Tryd.underlying58 (by kernel_rfl) cPair hv h
  obtain ⟨q, e0, d0, w0⟩ := DataW.trod_int Tryd.underlying28 h0
  obtain ⟨r, e1, d1, w1⟩ := DataW.trod_int Tryd.underlying28 h1
  simp only [List.cons.injEq, and_true] at e0 e1
  subst e0; subst e1
  exact ⟨q, r, rfl, wf_i64 w0, wf_i64 w1⟩
end Go.Proofs.YtlhfdedjboanfaaDoor
