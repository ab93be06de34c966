/-
  A map from atoms to numbers in a block of its own. No condition.
-/
import Derived.Test.YtlhfdedjboanfaaDoorSvRise
import Derived.Maps.Own
import Derived.Maps.OwnSet
import Derived.Maps.Views
namespace Go.Proofs.YtlhfdedjboanfaaDoor
open Go.RowKit Go.Shelf Go.At Go.Maps

theorem lawI : Keyed Tryd.prog 28 := int_keyed Tryd.underlying28
theorem zeroI (W : World) : (zeroValue 3).run Tryd.prog W = .ok (.int .i64 0) W := by kernel_rfl
theorem wf_int {n : Int} (h : I64 n) : (Lit.int .i64 n).wf = true := by
  obtain ⟨h1, h2⟩ := h
  have e1 : IntKind.i64.min = -9223372036854775808 := by rfl
  have e2 : IntKind.i64.max = 9223372036854775807 := by rfl
  simp [Lit.wf, e1, e2]
  omega
theorem key_int {n : Int} (h : I64 n) : keyOf Tryd.prog 28 (.int .i64 n) = some (.int .i64 n) := keyOf_int_mk Tryd.underlying28 (wf_int h)
/-- one more, or another in its place -/
def updM (f : Int → Option Int) (k v : Int) (x : Int) : Option Int := if x = k then some v else f x
/-- what a map's datum tells -/
def Tells (D : DataW Unit) (f : Int → Option Int) : Prop := ∀ k, I64 k → has D (.int .i64 k) = (f k).isSome ∧ D.atKey (.int .i64 k) (.lit (.int .i64 0)) = .lit (.int .i64 ((f k).getD 0))
theorem Tells.none : Tells (.map []) (fun _ => .none) := fun _ _ => ⟨rfl, rfl⟩
theorem Tells.put {D : DataW Unit} {f : Int → Option Int} (h : Tells D f) (hD : IsMap D) {k v : Int} (hk : I64 k) : Tells (D.put (.int .i64 k) (.lit (.int .i64 v))) (updM f k v) := fun x hx => by
  unfold updM
  by_cases e : x = k
  · subst e
    rw [if_pos rfl, has_put_same hD (by trivial), atKey_put_same hD (by trivial)]
    exact ⟨rfl, rfl⟩
  · have e2 : (Lit.int .i64 x) ≠ .int .i64 k := fun h => e (by injection h)
    rw [if_neg e, has_put_other e2, atKey_put_other e2]
    exact h x hx
/-- a map of numbers -/
def IMap (W : World) (b N : Nat) (f : Int → Option Int) : Prop := ∃ n D, W.ownsMap (H := Unit) Tryd.prog 28 (plainElem Tryd.prog 3) b n D ∧ n ≤ N ∧ Tells D f
theorem IMap.same {W W' : World} {b N : Nat} {f : Int → Option Int} (h : IMap W b N f) (e : W'.heap[b]? = W.heap[b]?) : IMap W' b N f := by
  obtain ⟨n, D, ⟨es, cl, h1, h2⟩, h3⟩ := h
  exact ⟨n, D, ⟨es, cl, e.trans h1, h2⟩, h3⟩
theorem IMap.lt {W : World} {b N : Nat} {f : Int → Option Int} (h : IMap W b N f) : b < W.heap.size := by
  obtain ⟨n, D, h1, _⟩ := h
  exact h1.lt
theorem IMap.mono {W : World} {b N M : Nat} {f : Int → Option Int} (h : IMap W b N f) (hm : N ≤ M) : IMap W b M f := by
  obtain ⟨n, D, h1, h2, h3⟩ := h
  exact ⟨n, D, h1, Nat.le_trans h2 hm, h3⟩
theorem IMap.new (W : World) : IMap (W.alloc (.map #[] 0)) W.heap.size 0 (fun _ => none) := ⟨0, _, World.ownsMap_made _ _ _ _, Nat.le_refl _, Tells.none⟩
set_option maxRecDepth 100000 in
/-- what is looked up -/
theorem IMap.look {W : World} {b N : Nat} {f : Int → Option Int} (h : IMap W b N f) {k : Int} (hk : I64 k) : (Instr.lookup 98 (.map (some b)) (.int .i64 k) false).run Tryd.prog W = .ok (.int .i64 ((f k).getD 0)) W := by
  obtain ⟨n, D, h1, _, h3⟩ := h
  obtain ⟨c, h4, h5, _⟩ := h1.lookup_int (t := 98) (e := 3) (q := .i64) lawI Tryd.underlying98 Tryd.underlying3 (zeroI W) (key_int hk)
  rw [(h3 k hk).2] at h5
  injection h5 with h5
  injection h5 with _ h5
  rw [h4, h5]
set_option maxRecDepth 100000 in
theorem IMap.look_ok {W : World} {b N : Nat} {f : Int → Option Int} (h : IMap W b N f) {k : Int} (hk : I64 k) : (Instr.lookup 98 (.map (some b)) (.int .i64 k) true).run Tryd.prog W = .ok (.tuple #[.int .i64 ((f k).getD 0), .bool (f k).isSome]) W := by
  obtain ⟨n, D, h1, _, h3⟩ := h
  obtain ⟨v, ps, h4, h5⟩ := h1.look_ok (t := 98) (e := 3) lawI Tryd.underlying98 (zeroI W) (plainElem_int Tryd.underlying3 (by decide)) (key_int hk)
  obtain ⟨c, rfl, hc, _⟩ := plainElem_int_inv Tryd.underlying3 h5
  have hc := congrArg Prod.fst hc
  rw [(h3 k hk).2] at hc
  injection hc with hc
  injection hc with _ hc
  rw [h4, (h3 k hk).1, hc]
set_option maxRecDepth 100000 in
/-- what is stored -/
theorem IMap.store {W : World} {b N : Nat} {f : Int → Option Int} (h : IMap W b N f) (hN : N < maxLen) {k v : Int} (hk : I64 k) (hv : I64 v) : ∃ W', (Instr.mapUpdate 98 (.map (some b)) (.int .i64 k) (.int .i64 v)).run Tryd.prog W = .ok () W' ∧ IMap W' b (N + 1) (updM f k v) ∧ W.grownBy W' (some b) := by
  obtain ⟨n, D, h1, h2, h3⟩ := h
  obtain ⟨W', h4, h5, h6⟩ := h1.update (t := 98) (e := 3) lawI Tryd.underlying98 (by omega) (key_int hk) (plainElem_int Tryd.underlying3 (wf_int hv))
  exact ⟨W', h4, ⟨n + 1, _, h5, by omega, h3.put h1.isMap hk⟩, h6⟩
/-- a map is stored into -/
theorem wpList_put {w w' : World} {ops : Array Oper} {rest : List Oper} {o : Oper} {a : Act} {Q : Exit → Act → World → Prop} (hg : o.guard = none) (m x v : Operand) (t : TypeId) (hop : o.op = Op.mapUpdate t m x v)
    (mv xv vv : Value) (hm : a.eval m = mv) (hx : a.eval x = xv) (hv : a.eval v = vv) (hrun : (Instr.mapUpdate t mv xv vv).run Tryd.prog w = .ok () w') (hK : wpList Tryd.prog ops Q rest (a.put o.dst undef) w') : wpList Tryd.prog ops Q (o :: rest) a w := by
  refine wpList_plain hg fun K' hK' => ?_
  unfold Oper.wp
  simp [execOp, hop, hm, hx, hv, hrun, Result.andThen]
  exact hK' _ _ hK
theorem run_makeMapN (x : Int) (W : World) : (Instr.makeMap 98 (some (.int .i64 x))).run Tryd.prog W = .ok (.map (some W.heap.size)) (W.alloc (.map #[] 0)) := by
  have h := Tryd.underlying98
  unfold Instr.makeMap
  go_simp
theorem IMap.made {W : World} {b : Nat} (h : W.heap[b]? = some (.map #[] 0)) : IMap W b 0 (fun _ => none) :=
  ⟨0, _, ⟨#[], 0, h, ⟨by simp, MapKept.stamped_empty 0, by simp⟩, Nat.le_refl _, rfl⟩, Nat.le_refl _, Tells.none⟩
end Go.Proofs.YtlhfdedjboanfaaDoor
