/-
  Tokens that came in, opened: they can be read, and their bulk is bounded by what came in.
-/
import Derived.Test.YtpdombmpmhnolaaGreatDoorPaRow
import Derived.Deep.Slices
import Derived.Deep.Strs
namespace Go.Proofs.YtpdombmpmhnolaaGreatDoor
open Go.ChangeShapes Go.WideShapes Go.ChangeAt Go.RowKit Go.Joins Go.Lx Go.Deep

theorem cTok : Tryz.prog.cellsOf 75 = 3 := by kernel_rfl
theorem cI64 : Tryz.prog.cellsOf 2 = 1 := by kernel_rfl
instance : Inhabited Lx.Tok := ⟨⟨0, [], 0⟩⟩
/-- a token as data -/
def tokD {H : Type} (t : Lx.Tok) : DataW H := .agg [.lit (.int .i64 t.kind), .lit (.string t.text), .lit (.int .i64 t.num)]
theorem bulk_toks {H : Type} : ∀ ts : List Lx.Tok, Rows.uptoBulkAll (H := H) (ts.map tokD) = Lib.lens (ts.map (·.text)) + 4 * ts.length
  | [] => rfl
  | t :: ts => by
    have ih := bulk_toks (H := H) ts
    have hl : Lib.lens ((t :: ts).map (·.text)) = t.text.length + Lib.lens (ts.map (·.text)) := by simp [Lib.lens]
    rw [hl]
    simp only [List.map_cons, Rows.uptoBulkAll, ih, List.length_cons]
    have : Rows.uptoBulk (H := H) (tokD t) = t.text.length + 4 := by
      unfold tokD
      simp only [Rows.uptoBulk, Rows.uptoBulkAll]
      omega
    rw [this]
    omega

set_option maxRecDepth 100000 in
theorem open_toks {H : Type} {enc : TypeId × Value → H} {W : World} {base : Nat} {v : Value} {d : DataW H} {p : List MemPlace}
    (hval : Value.okWide Tryz.prog W .any base 22 v) (h1 : DataW.Trod enc Tryz.prog W 0 (fun _ => true) true 22 v d p) :
    ∃ (A : Option Addr) (ts : List Lx.Tok) (c : Nat), v = .slice A ts.length c ∧ X.Toks W W.heap.size A ts ∧ Lib.lens (ts.map (·.text)) + 4 * ts.length ≤ Rows.uptoBulk d ∧ ts.length ≤ c := by
  obtain ⟨a1, len1, cap1, rfl⟩ := okWide_slice Tryz.underlying22 hval
  obtain ⟨fuel, hf⟩ := h1
  rcases open_slice Tryz.underlying22 hf with ⟨hcs, hx⟩ | ⟨a, len, cap, m, n, D, Pl, hcs, hb, hl, hm, hmm, hxx, hx⟩
  · simp [Value.cells] at hcs
    obtain ⟨rfl, rfl, rfl⟩ := hcs
    exact ⟨none, [], 0, rfl, X.Toks.nil _ _ _, Nat.zero_le _, Nat.le_refl _⟩
  · simp [Value.cells] at hcs
    obtain ⟨rfl, rfl, rfl⟩ := hcs
    have hlm : len1 ≤ m := by rw [hmm]; split <;> omega
    have each : ∀ i, i < m → ∃ q : Lx.Tok, W.cell? (a.add (i * 3)) = some (.int .i64 q.kind) ∧ W.cell? (a.add (i * 3 + 1)) = some (.string (X.strOf q.text)) ∧ W.cell? (a.add (i * 3 + 2)) = some (.int .i64 q.num) ∧ D i = tokD q := by
      intro i hi
      obtain ⟨cs', h1, h2⟩ := hx i hi
      rw [cTok] at h1
      obtain ⟨_, hlen, hcell⟩ := World.cells?_some h1
      obtain ⟨y0, y1, y2, k, hxy, _, u0, u1, u2⟩ := trod_struct3 Tryz.underlying75 h2
      match cs', hlen with
      | [v0, v1, v2], _ =>
        simp only [cStr, cInt, cI64, List.drop, List.take] at u0 u1 u2
        obtain ⟨q, e0, d0, _⟩ := DataW.trod_int Tryz.underlying3 u0
        obtain ⟨s, e1, d1, _⟩ := DataW.trod_string Tryz.underlying9 u1
        obtain ⟨r, e2, d2, _⟩ := DataW.trod_int Tryz.underlying2 u2
        simp only [List.cons.injEq, and_true] at e0 e1 e2
        subst e0; subst e1; subst e2
        have c0 := hcell 0 (by omega)
        have c1 := hcell 1 (by omega)
        have c2 := hcell 2 (by omega)
        rw [add_add] at c0 c1 c2
        simp only [Prod.mk.injEq] at hxy
        exact ⟨⟨q, s.data.toList, r⟩, by simpa using c0, by rw [X.strOf_data]; simpa using c1, by simpa using c2, by rw [hxy.1, d0, d1, d2]; rfl⟩
    obtain ⟨q, hq⟩ := choose_lt each
    refine ⟨some a, (List.range len1).map q, cap1, by simp, fun hn => ?_, ?_, by simpa using hl⟩
    · have hpos : 0 < len1 := Nat.pos_of_ne_zero fun e => hn (by rw [e]; rfl)
      have h0 := (hq 0 (by omega)).1
      have hbk : a.block < W.heap.size := World.block_lt_of_cell? W _ (by simpa [Addr.add] using h0)
      obtain ⟨ab, ao, spot⟩ := a
      have hspot : spot = none := by simpa [Addr.add] using World.cell?_spot h0
      subst hspot
      refine ⟨ab, ao, rfl, hbk, fun j hj => ?_⟩
      rw [List.length_map, List.length_range] at hj
      obtain ⟨g0, g1, g2, _⟩ := hq j (by omega)
      rw [Addr.add_lit] at g0 g1 g2
      have e : ((List.range len1).map q).getD j ⟨0, [], 0⟩ = q j := by
        rw [List.getD_eq_getElem?_getD, List.getElem?_map, List.getElem?_range hj]; rfl
      rw [e]
      exact ⟨g0, g1, g2⟩
    · have e : (List.range len1).map D = ((List.range len1).map q).map tokD := by
        rw [List.map_map]
        exact List.map_congr_left fun i hi => (hq i (by have := List.mem_range.1 hi; omega)).2.2.2
      simp only [Prod.mk.injEq] at hxx
      rw [hxx.1]
      simp only [Rows.uptoBulk]
      rw [e, bulk_toks]
      omega
end Go.Proofs.YtpdombmpmhnolaaGreatDoor
