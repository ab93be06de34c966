/-
  A lattice, Sols that came in, opened. Condition: the row's own.
-/
import Derived.Test.YtlhfdedjboanfaaDoorSvRow
namespace Go.Proofs.YtlhfdedjboanfaaDoor
open Go.ChangeShapes Go.WideShapes Go.ChangeAt Go.RowKit Go.Joins Go.At Go.Deep

theorem cSol : Tryd.prog.cellsOf 54 = 2 := by kernel_rfl
theorem cInt : Tryd.prog.cellsOf 3 = 1 := by kernel_rfl
section
variable {H : Type} {enc : TypeId × Value → H} {W : World} {base : Nat} {v : Value} {d : DataW H} {p : List MemPlace}
set_option maxRecDepth 100000 in
theorem open_sols (hval : Value.okWide Tryd.prog W .any base 27 v) (h1 : DataW.Trod enc Tryd.prog W 0 (fun _ => true) true 27 v d p) :
    ∃ (A : Option Addr) (l : List Pr) (c : Nat), v = .slice A l.length c ∧ Prs W A l ∧ (∀ p ∈ l, I64 p.1 ∧ I64 p.2) ∧ OkS A l.length c ∧ l.length ≤ Rows.uptoBulk d ∧ (l.length ≠ 0 → ∃ el sp, d = .slice el sp ∧ el.length = l.length) := by
  obtain ⟨a1, len1, cap1, rfl⟩ := okWide_slice Tryd.underlying27 hval
  obtain ⟨fuel, hf⟩ := h1
  rcases open_slice Tryd.underlying27 hf with ⟨hcs, hx⟩ | ⟨a, len, cap, m, n, D, Pl, hcs, hb, hl, hm, hmm, hxx, hx⟩
  · simp [Value.cells] at hcs
    obtain ⟨rfl, rfl, rfl⟩ := hcs
    exact ⟨none, [], 0, rfl, Prs.nil _ _, by simp, ⟨Nat.le_refl _, Nat.zero_le _, fun _ => rfl⟩, Nat.zero_le _, fun h => absurd rfl h⟩
  · simp [Value.cells] at hcs
    obtain ⟨rfl, rfl, rfl⟩ := hcs
    have hlm : len1 ≤ m := by rw [hmm]; split <;> omega
    have each : ∀ i, i < m → ∃ q : Pr, W.cell? (a.add (i * 2)) = some (.int .i64 q.1) ∧ W.cell? (a.add (i * 2 + 1)) = some (.int .i64 q.2) ∧ (I64 q.1 ∧ I64 q.2) ∧ D i = .agg [.lit (.int .i64 q.1), .lit (.int .i64 q.2)] := by
      intro i hi
      obtain ⟨cs', h1, h2⟩ := hx i hi
      rw [cSol] at h1
      obtain ⟨_, hlen, hcell⟩ := World.cells?_some h1
      obtain ⟨y0, y1, k, hxy, _, u0, u1⟩ := trod_struct2 Tryd.underlying54 h2
      match cs', hlen with
      | [v0, v1], _ =>
        simp only [cAtom, cInt, List.drop, List.take] at u0 u1
        obtain ⟨q, e0, d0, w0⟩ := DataW.trod_int Tryd.underlying28 u0
        obtain ⟨r, e1, d1, w1⟩ := DataW.trod_int Tryd.underlying3 u1
        simp only [List.cons.injEq, and_true] at e0 e1
        subst e0; subst e1
        have c0 := hcell 0 (by omega)
        have c1 := hcell 1 (by omega)
        rw [add_add] at c0 c1
        simp only [Prod.mk.injEq] at hxy
        exact ⟨(q, r), by simpa using c0, by simpa using c1, ⟨wf_i64 w0, wf_i64 w1⟩, by rw [hxy.1, d0, d1]⟩
    obtain ⟨q, hq⟩ := choose_lt each
    refine ⟨some a, (List.range len1).map q, cap1, by simp, fun hn => ?_, ?_, ⟨by simpa using hl, hm, fun h => by cases h⟩, ?_, ?_⟩
    · have hpos : 0 < len1 := Nat.pos_of_ne_zero fun e => hn (by rw [e]; rfl)
      have h0 := (hq 0 (by omega)).1
      have hbk : a.block < W.heap.size := World.block_lt_of_cell? W _ (by simpa [Addr.add] using h0)
      obtain ⟨ab, ao, spot⟩ := a
      have hspot : spot = none := by simpa [Addr.add] using World.cell?_spot h0
      subst hspot
      refine ⟨ab, ao, rfl, hbk, fun j hj => ?_⟩
      rw [List.length_map, List.length_range] at hj
      obtain ⟨g0, g1, _⟩ := hq j (by omega)
      rw [Addr.add_lit] at g0 g1
      have e : ((List.range len1).map q).getD j (0, 0) = q j := by
        rw [List.getD_eq_getElem?_getD, List.getElem?_map, List.getElem?_range hj]; rfl
      rw [e]
      exact ⟨g0, g1⟩
    · intro x hx
      obtain ⟨i, hi, rfl⟩ := List.mem_map.1 hx
      exact (hq i (by have := List.mem_range.1 hi; omega)).2.2.1
    · simp only [Prod.mk.injEq] at hxx
      rw [hxx.1]
      simp only [Rows.uptoBulk, List.length_map, List.length_range]
      have hle : ∀ l : List (DataW H), l.length ≤ Rows.uptoBulkAll l := bulk_len
      have := hle ((List.range len1).map D)
      simp only [List.length_map, List.length_range] at this
      omega
    · intro _
      simp only [Prod.mk.injEq] at hxx
      exact ⟨_, _, hxx.1, by simp⟩
end
end Go.Proofs.YtlhfdedjboanfaaDoor
namespace Go.Proofs.YtlhfdedjboanfaaDoor.L
open Go.ChangeShapes Go.WideShapes Go.ChangeAt Go.RowKit Go.Joins Go.Deep Go.Shelf Go.Lt
theorem cLat : Tryd.prog.cellsOf 25 = 2 := by kernel_rfl
theorem cStr : Tryd.prog.cellsOf 9 = 1 := by kernel_rfl
theorem cU64 : Tryd.prog.cellsOf 72 = 1 := by kernel_rfl
theorem wf_u64 {n : Int} (h : (Lit.int .u64 n).wf = true) : 0 ≤ n ∧ n < 18446744073709551616 := by
  have h1 : (decide ((0 : Int) ≤ n) && decide (n ≤ 18446744073709551615)) = true := h
  rw [Bool.and_eq_true, decide_eq_true_eq, decide_eq_true_eq] at h1
  omega
theorem strs_of {W : World} {a : Addr} {ss : List ByteArray} {len : Nat} (hl : len ≤ ss.length) (h : ∀ i, i < ss.length → W.cell? (a.add i) = some (.string (ss.getD i ByteArray.empty))) : Strs W W.heap.size (some a) (ss.take len) := fun hne => by
  have hpos : 0 < len := Nat.pos_of_ne_zero fun e => hne (by rw [e]; rfl)
  have h0 := h 0 (by omega)
  have hb : a.block < W.heap.size := World.block_lt_of_cell? W _ (by simpa [Addr.add] using h0)
  have hs : a.spot = none := by
    simp only [Addr.add, if_pos] at h0
    unfold World.cell? at h0
    cases hc : a.spot with
    | none => rfl
    | some k =>
      rw [hc] at h0
      split at h0 <;> simp at h0
  obtain ⟨b, off, spot⟩ := a
  obtain rfl : spot = none := hs
  refine ⟨b, off, rfl, hb, fun j hj => ?_⟩
  rw [List.length_take] at hj
  have h1 := h j (by omega)
  have e : (ss.take len).getD j ByteArray.empty = ss.getD j ByteArray.empty := by
    rw [List.getD_eq_getElem?_getD, List.getD_eq_getElem?_getD, List.getElem?_take_of_lt (by omega)]
  unfold Lt.nm
  rw [e, ← h1]
  unfold Addr.add
  split
  · rename_i h2; subst h2; rfl
  · rfl
theorem words_of {W : World} {a : Addr} {zs : List Int} {len : Nat} (hl : len ≤ zs.length) (h : ∀ i, i < zs.length → W.cell? (a.add i) = some (.int .u64 (zs.getD i 0))) (hw : ∀ n ∈ zs, (Lit.int .u64 n).wf = true) :
    ∃ us : List Nat, us.length = len ∧ W64 us ∧ Words W W.heap.size (some a) us := by
  have hz : ∀ n ∈ zs, 0 ≤ n ∧ n < 18446744073709551616 := fun n hn => by
    exact wf_u64 (hw n hn)
  refine ⟨(zs.take len).map Int.toNat, by simp; omega, W64.of fun u hu => ?_, fun hne => ?_⟩
  · obtain ⟨n, hn, rfl⟩ := List.mem_map.1 hu
    have := hz n (List.mem_of_mem_take hn)
    omega
  · have hpos : 0 < len := Nat.pos_of_ne_zero fun e => hne (by rw [e]; rfl)
    have h0 := h 0 (by omega)
    have hb : a.block < W.heap.size := World.block_lt_of_cell? W _ (by simpa [Addr.add] using h0)
    have hs : a.spot = none := by
      simp only [Addr.add, if_pos] at h0
      unfold World.cell? at h0
      cases hc : a.spot with
      | none => rfl
      | some k =>
        rw [hc] at h0
        split at h0 <;> simp at h0
    obtain ⟨b, off, spot⟩ := a
    obtain rfl : spot = none := hs
    refine ⟨b, off, rfl, hb, fun j hj => ?_⟩
    simp only [List.length_map, List.length_take] at hj
    have h1 := h j (by omega)
    have hj2 : j < zs.length := by omega
    have e : ((Lt.row ((zs.take len).map Int.toNat) j : Nat) : Int) = zs.getD j 0 := by
      unfold Lt.row
      rw [List.getD_eq_getElem?_getD, List.getD_eq_getElem?_getD, List.getElem?_map, List.getElem?_take_of_lt (by omega), List.getElem?_eq_getElem hj2]
      have := hz zs[j] (List.getElem_mem hj2)
      simp only [Option.map_some, Option.getD_some]
      omega
    rw [e, ← h1]
    unfold Addr.add
    split
    · rename_i h2; subst h2; rfl
    · rfl

set_option maxRecDepth 100000 in
/-- A LATTICE THAT CAME IN. -/
theorem open_lat2 {H : Type} {enc : TypeId × Value → H} {W : World} {base : Nat} {v : Value} {d : DataW H} {p : List MemPlace}
    (hv : Value.okWide Tryd.prog W .any base 25 v) (h : DataW.Trod enc Tryd.prog W 0 (fun _ => true) true 25 v d p) :
    ∃ (A B : Option Addr) (c e : Nat) (ns : List ByteArray) (us : List Nat), v = .agg #[.slice A ns.length c, .slice B us.length e] ∧ LatAt W A B c ns us ∧ us.length ≤ e := by
  obtain ⟨v0, v1, y0, y1, n, rfl, _, _, h0, h1⟩ := open_agg2 Tryd.underlying25 (by kernel_rfl) cLat hv h
  have k0 : ∃ (A : Option Addr) (c : Nat) (ns : List ByteArray), v0 = .slice A ns.length c ∧ Strs W W.heap.size A ns ∧ SMax ns ∧ ns.length ≤ 9223372036854775807 ∧ ns.length ≤ c ∧ c ≤ 9223372036854775807 := by
    rcases open_strings Tryd.underlying22 Tryd.underlying9 cStr h0 with ⟨hc, _⟩ | ⟨a, len, cap, ss, hc, _, hl, hm, hlen, _, hcell, hw⟩
    · obtain rfl := List.cons.inj hc |>.1
      exact ⟨none, 0, [], rfl, Strs.nil _ _ _, fun j => by show (ByteArray.empty).size ≤ 9223372036854775807; decide, by decide, by decide, by decide⟩
    · obtain rfl := List.cons.inj hc |>.1
      simp only [if_true] at hlen
      have hmax : maxLen = 9223372036854775807 := by rfl
      have e : (ss.take len).length = len := by rw [List.length_take]; omega
      refine ⟨some a, cap, ss.take len, by rw [e], strs_of (by omega) hcell, fun j => ?_, by omega, by omega, by omega⟩
      unfold Lt.nm
      rw [List.getD_eq_getElem?_getD]
      cases hj : (ss.take len)[j]? with
      | none => show (ByteArray.empty).size ≤ 9223372036854775807; decide
      | some s =>
        have := hw s (List.mem_of_mem_take (List.mem_of_getElem? hj))
        simp only [Option.getD_some]
        omega
  have k1 : ∃ (B : Option Addr) (e : Nat) (us : List Nat), v1 = .slice B us.length e ∧ Words W W.heap.size B us ∧ W64 us ∧ us.length ≤ 9223372036854775807 ∧ us.length ≤ e := by
    rcases open_ints Tryd.underlying23 Tryd.underlying72 cU64 h1 with ⟨hc, _⟩ | ⟨a, len, cap, zs, hc, _, hl, hm, hlen, _, hcell, hw⟩
    · obtain rfl := List.cons.inj hc |>.1
      exact ⟨none, 0, [], rfl, Words.nil _ _ _, W64.of (by simp), by decide, by decide⟩
    · obtain rfl := List.cons.inj hc |>.1
      simp only [if_true] at hlen
      have hmax : maxLen = 9223372036854775807 := by rfl
      obtain ⟨us, hu, h64, hW⟩ := words_of (len := len) (by omega) hcell hw
      exact ⟨some a, cap, us, by rw [hu], hW, h64, by omega, by omega⟩
  obtain ⟨A, c, ns, rfl, n1, n2, n3, n4, n5⟩ := k0
  obtain ⟨B, e, us, rfl, u1, u2, u3, u4⟩ := k1
  exact ⟨A, B, c, e, ns, us, rfl, ⟨n1, u1, u2, n2, n3, n4, n5, u3⟩, u4⟩


end Go.Proofs.YtlhfdedjboanfaaDoor.L
