/-
  Slices of bytes that a call has made itself: out of a string, and appended to one another, inside a fence. No condition but that lengths stay below 2^46.
-/
import Derived.Test.YtieamjpfmjkchaaDoorLtTurn
import Derived.Deep.AppendSrc
import Derived.Deep.Upon
import Derived.Laws.IdiomStrings
import Derived.Laws.AppendOwn
namespace Go.Proofs.YtieamjpfmjkchaaDoor
open Go.RowKit Go.Shelf Go.Lt

structure BytesAt (w : World) (base g cap : Nat) (l : List UInt8) : Prop where
  ge : base ≤ g
  lt : g < w.heap.size
  cells : ∀ j, j < l.length → w.cell? ⟨g, j, none⟩ = some (.int .u8 ((l.getD j 0).toNat : Nat))
  there : ∀ j, j < cap → (w.cell? ⟨g, j, none⟩).isSome = true
  free : ∀ j, j < cap → w.frozen? ⟨g, j, none⟩ = false
  len : l.length ≤ cap
theorem BytesAt.kept {w w' : World} {base g cap : Nat} {l : List UInt8} (h : BytesAt w base g cap l) (hs : w.heap.size ≤ w'.heap.size) (hb : w'.heap[g]? = w.heap[g]?) : BytesAt w' base g cap l where
  ge := h.ge
  lt := Nat.lt_of_lt_of_le h.lt hs
  cells := fun j hj => (World.cell?_of_block (a := ⟨g, j, none⟩) hb).trans (h.cells j hj)
  there := fun j hj => by rw [World.cell?_of_block (w := w) (a := ⟨g, j, none⟩) hb]; exact h.there j hj
  free := fun j hj => (World.frozen?_of_block (a := ⟨g, j, none⟩) hb).trans (h.free j hj)
  len := h.len
theorem BytesAt.grown {w w' : World} {base g cap : Nat} {l : List UInt8} {row : Option Nat} (h : BytesAt w base g cap l) (hg : w.grownBy w' row) (hne : some g ≠ row) : BytesAt w' base g cap l :=
  h.kept hg.size (hg.block g h.lt hne)
theorem BytesAt.turn {w w' : World} {base g cap : Nat} {l : List UInt8} {row : Option Nat} (h : BytesAt w base g cap l) (hpos : 0 < cap) (hg : w.grownBy w' row) (hr : ∀ r, row = some r → ∃ o : Obj, w.heap[r]? = some o ∧ o.isCells = false) : BytesAt w' base g cap l := by
  refine h.grown hg fun e => ?_
  obtain ⟨o, ho, hc⟩ := hr g e.symm
  have := h.there 0 hpos
  simp only [World.cell?, ho] at this
  cases o <;> first | (cases hc; done) | (cases this; done) | skip
theorem BytesAt.alloc {w : World} {base g cap : Nat} {l : List UInt8} (h : BytesAt w base g cap l) (o : Obj) : BytesAt (w.alloc o) base g cap l := h.grown (World.grownBy_alloc w o none) (by simp)
theorem BytesAt.drewN {w : World} {base g cap : Nat} {l : List UInt8} (h : BytesAt w base g cap l) (n : Nat) : BytesAt (w.drewN n) base g cap l := ⟨h.ge, h.lt, h.cells, h.there, h.free, h.len⟩
theorem BytesAt.other {w : World} {base g cap : Nat} {l : List UInt8} (h : BytesAt w base g cap l) {b i : Nat} (hb : g ≠ b) (u : Value) : BytesAt (w.setCell ⟨b, i, none⟩ u) base g cap l :=
  h.grown (grownBy_setCell'' w b i u) (fun e => hb (by cases e; rfl))

theorem BytesAt.set {w : World} {base g cap : Nat} {l : List UInt8} (h : BytesAt w base g cap l) {j : Nat} (hj : j < l.length) (c : UInt8) : BytesAt (w.setCell ⟨g, j, none⟩ (.int .u8 (c.toNat : Nat))) base g cap (l.set j c) where
  ge := h.ge
  lt := by have := (grownBy_setCell'' w g j (.int .u8 (c.toNat : Nat))).size; exact Nat.lt_of_lt_of_le h.lt this
  cells := fun i hi => by
    rw [List.length_set] at hi
    by_cases e : i = j
    · subst e
      rw [World.cell?_setCell_same' _ _ _ (by rw [h.cells i hi]; rfl), List.getD_eq_getElem?_getD, List.getElem?_set_self hi]
      rfl
    · rw [World.cell?_setCell_other w ⟨g, j, none⟩ ⟨g, i, none⟩ _ (by intro h2; injection h2 with _ h3; omega), h.cells i hi, List.getD_eq_getElem?_getD, List.getD_eq_getElem?_getD, List.getElem?_set_ne (by omega)]
  there := fun i hi => by
    obtain ⟨u, hu⟩ := Option.isSome_iff_exists.1 (h.there i hi)
    obtain ⟨u', hu'⟩ := cell?_setCell_some (w := w) (p := ⟨g, j, none⟩) (x := .int .u8 (c.toNat : Nat)) (q := ⟨g, i, none⟩) (v := u) hu
    rw [hu']; rfl
  free := fun i hi => by rw [World.frozen?_setCell]; exact h.free i hi
  len := by rw [List.length_set]; exact h.len
theorem grown_trans {a b c : World} {row : Option Nat} (h : a.grownBy b row) (k : b.grownBy c row) : a.grownBy c row :=
  ⟨k.os.trans h.os, k.tape.trans h.tape, k.output.trans h.output, Nat.le_trans h.size k.size, fun i hi hne => (k.block i (Nat.lt_of_lt_of_le hi h.size) hne).trans (h.block i hi hne)⟩
theorem grown_drew {a b : World} {row : Option Nat} (h : a.drew.grownBy b row) : a.grownBy b row := ⟨h.os, h.tape, h.output, h.size, h.block⟩
theorem setCells_grown (g : Nat) : ∀ (vs : List Value) (o : Nat) (w : World), w.grownBy (w.setCells g o vs) (some g)
  | [], _, w => World.grownBy.refl w _
  | v :: r, o, w => grown_trans (grownBy_setCell'' w g o v) (setCells_grown g r (o + 1) _)

theorem World.isSome_setCells' (b : Nat) : ∀ (vs : List Value) (o : Nat) (w : World) (x : Addr), (w.cell? x).isSome = true → ((w.setCells b o vs).cell? x).isSome = true
  | [], _, _, _, h => h
  | v :: r, o, w, x, h => World.isSome_setCells' b r (o + 1) _ x (by
    obtain ⟨u, hu⟩ := Option.isSome_iff_exists.1 h
    obtain ⟨u', hu'⟩ := cell?_setCell_some (w := w) (p := ⟨b, o, none⟩) (x := v) (q := x) (v := u) hu
    rw [hu']; rfl)

/-- [byte(s)] -/
theorem bytes_of (w : World) (s : ByteArray) : ∃ cap w', (convert 9 72 (.string s)).run Tryd.prog w = .ok (.slice (some ⟨w.heap.size, 0, none⟩) s.data.toList.length cap) w' ∧
    BytesAt w' w.heap.size w.heap.size cap s.data.toList ∧ w.grownBy w' none ∧ w'.heap.size = w.heap.size + 1 := by
  have hrun := run_bytes_of_string (P := Tryd.prog) w 9 72 5 s Tryd.underlying9 Tryd.underlying72 Tryd.underlying5
  have hge := grownCap_ge w s.size 0 5
  generalize grownCap w s.size 0 5 = cap at hrun hge
  have hlen : s.data.toList.length = s.size := by simp
  have hsz : (bytesRow s cap).size = cap := by
    unfold bytesRow
    rw [Array.size_append, Array.size_map, Array.size_replicate]
    show s.size + (cap - s.size) = cap
    omega
  have hnew : ∀ fr, (w.drew.alloc (.cells (bytesRow s cap) 5 fr)).heap[w.heap.size]? = some (.cells (bytesRow s cap) 5 fr) := fun fr => World.alloc_heap_new w.drew (.cells (bytesRow s cap) 5 fr)
  refine ⟨cap, _, by rw [hlen]; exact hrun, ⟨Nat.le_refl _, by simp, fun j hj => ?_, fun j hj => ?_, fun j hj => ?_, by rw [hlen]; exact hge⟩, grown_drew (World.grownBy_alloc w.drew _ none), by simp⟩
  · rw [cell_of_row _ w.heap.size j _ _ _ (hnew _)]
    have hj' : j < s.data.size := by simpa using hj
    rw [bytesRow_at s cap j hj', List.getD_eq_getElem?_getD, List.getElem?_eq_getElem hj]
    simp
  · rw [cell_of_row _ w.heap.size j _ _ _ (hnew _), Array.getElem?_eq_getElem (by rw [hsz]; exact hj)]
    rfl
  · have h1 := hnew ((bytesRow s cap).size, (bytesRow s cap).size + 1)
    rw [hsz] at h1 ⊢
    have h2 : ¬ cap ≤ j := by omega
    unfold World.frozen?
    simp only [h1]
    simp [h2]

theorem info_u8 : (Tryd.prog.info? 5).map (fun i => (i.zero, i.size, i.bytes)) = some (some (.int .u8 0), 1, 1) := by kernel_rfl
def byteVals (l : List UInt8) : List Value := l.map fun b => Value.int .u8 (b.toNat : Nat)
theorem byteVals_get {l : List UInt8} {j : Nat} (hj : j < l.length) : (byteVals l)[j]? = some (.int .u8 ((l.getD j 0).toNat : Nat)) := by
  unfold byteVals
  rw [List.getElem?_map, List.getElem?_eq_getElem hj, List.getD_eq_getElem?_getD, List.getElem?_eq_getElem hj]
  rfl
theorem byteVals_one (l : List UInt8) : ∀ u ∈ byteVals l, u.oneCell' = true := fun u hu => by
  unfold byteVals at hu
  obtain ⟨_, _, rfl⟩ := List.mem_map.1 hu
  rfl
theorem BytesAt.src {w : World} {base g cap : Nat} {l : List UInt8} (h : BytesAt w base g cap l) : Src Tryd.prog 1 72 (.slice (some ⟨g, 0, none⟩) l.length cap) l.length (byteVals l) w :=
  Src.ofSlice w Tryd.underlying72 ⟨g, 0, none⟩ l.length cap (byteVals l) (by simp [byteVals]) (fun j u hu => by
    have hj : j < l.length := by
      have := (List.getElem?_eq_some_iff.1 hu).1
      simpa [byteVals] using this
    rw [byteVals_get hj] at hu
    cases hu
    have e : (⟨g, 0, none⟩ : Addr).add j = ⟨g, j, none⟩ := by rw [Addr.add_lit]; simp
    rw [e]
    exact h.cells j hj) (byteVals_one l)

/-- [append(a, b...)], both made by the call -/
theorem run_append_bytes (w : World) (ty : TypeId) (base g cap base2 g2 cap2 : Nat) (l l2 : List UInt8) (h : BytesAt w base g cap l) (h2 : BytesAt w base2 g2 cap2 l2) (hlen : l.length + l2.length ≤ 70368744177664) (hbase : base ≤ w.heap.size) :
    ∃ g' cap' w', (Builtin.append_ #[72, 72] ty #[.slice (some ⟨g, 0, none⟩) l.length cap, .slice (some ⟨g2, 0, none⟩) l2.length cap2]).run Tryd.prog w = .ok (.slice (some ⟨g', 0, none⟩) (l ++ l2).length cap') w' ∧
      BytesAt w' base g' cap' (l ++ l2) ∧ w.grownBy w' (some g) ∧ (g' = g ∨ g' = w.heap.size) := by
  obtain ⟨i, hi, hz, hs1, hb1⟩ := info_parts info_u8
  have hsrc : Src Tryd.prog i.size 72 (.slice (some ⟨g2, 0, none⟩) l2.length cap2) l2.length (byteVals l2) w := by rw [hs1]; exact h2.src
  have hvl : (byteVals l2).length = l2.length := by simp [byteVals]
  have hgetl : ∀ j, j < l.length → (l ++ l2).getD j 0 = l.getD j 0 := fun j hj => by
    rw [List.getD_eq_getElem?_getD, List.getD_eq_getElem?_getD, List.getElem?_append_left hj]
  have hgetr : ∀ j, j < l2.length → (l ++ l2).getD (l.length + j) 0 = l2.getD j 0 := fun j hj => by
    rw [List.getD_eq_getElem?_getD, List.getD_eq_getElem?_getD, List.getElem?_append_right (by omega), Nat.add_sub_cancel_left]
  by_cases hroom : l.length + l2.length ≤ cap
  · have hrun := run_append_room_src (P := Tryd.prog) (w := w) 72 72 ty 5 i Tryd.underlying72 hi g 0 l.length cap _ l2.length (byteVals l2) hsrc hroom
      (fun j hj => by rw [hs1, hvl] at *; rw [Nat.zero_add, Nat.mul_one]; exact h.there _ (by omega)) (fun j hj => by rw [hs1, hvl] at *; rw [Nat.zero_add, Nat.mul_one]; exact h.free _ (by omega))
    rw [hs1, Nat.zero_add, Nat.mul_one] at hrun
    refine ⟨g, cap, _, by rw [List.length_append]; exact hrun, ⟨h.ge, Nat.lt_of_lt_of_le h.lt (setCells_grown g _ _ w).size, fun j hj => ?_, fun j hj => ?_, fun j hj => ?_, by rw [List.length_append]; exact hroom⟩, setCells_grown g _ _ w, .inl rfl⟩
    · rw [List.length_append] at hj
      by_cases hjl : j < l.length
      · rw [hgetl j hjl, World.cell?_setCells_out g _ _ w ⟨g, j, none⟩ (fun _ _ => .inl hjl)]
        exact h.cells j hjl
      · obtain ⟨q, rfl⟩ : ∃ q, j = l.length + q := ⟨j - l.length, by omega⟩
        have hq : q < l2.length := by omega
        rw [hgetr q hq, World.cell?_setCells_in g (byteVals l2) l.length w (fun p hp => h.there _ (by rw [hvl] at hp; omega)) q (by rw [hvl]; exact hq)]
        have := byteVals_get hq
        rw [List.getElem?_eq_getElem (by rw [hvl]; exact hq)] at this
        exact this
    · exact World.isSome_setCells' g _ _ w ⟨g, j, none⟩ (h.there j hj)
    · rw [World.frozen?_setCells]; exact h.free j hj
  · have hold : (Builtin.firstCells i.size l.length (.slice (some ⟨g, 0, none⟩) l.length cap)).run Tryd.prog w.drew = .ok (byteVals l).toArray w.drew := by rw [hs1]; exact h.src.cellsD
    have hfit : Builtin.nextslicecap (l.length + l2.length) cap * i.bytes ≤ 281474976710656 := by
      have := nextslicecap_le (need := l.length + l2.length) (old := cap) (by omega)
      rw [hb1, Nat.mul_one]; omega
    have hrun := run_append_grow_src (P := Tryd.prog) (w := w) 72 72 ty 5 i (.int .u8 0) Tryd.underlying72 hi hz (some ⟨g, 0, none⟩) l.length cap (byteVals l) hold _ l2.length (byteVals l2) hsrc (by omega) (by omega) hfit
    have hge := grownCap_ge w (l.length + l2.length) cap 5
    generalize grownCap w (l.length + l2.length) cap 5 = C at hrun hge
    obtain ⟨cs, hcs⟩ : ∃ cs, (byteVals l ++ byteVals l2).toArray ++ Builtin.zeroCells (Value.int .u8 0).cells (C - (l.length + l2.length)) = cs := ⟨_, rfl⟩
    rw [hcs] at hrun
    have hzc : (Value.int IntKind.u8 0).cells.size = 1 := rfl
    have hsz : cs.size = C := by
      rw [← hcs, Array.size_append, size_zeroCells, List.size_toArray, List.length_append, hvl, hzc]
      simp [byteVals]; omega
    have hnew : (w.drew.alloc (.cells cs 5)).heap[w.heap.size]? = some (.cells cs 5 (0, 0)) := World.alloc_heap_new w.drew (.cells cs 5)
    refine ⟨w.heap.size, C, _, by rw [List.length_append]; exact hrun, ⟨hbase, by simp, fun j hj => ?_, fun j hj => ?_, fun j _ => ?_, by rw [List.length_append]; exact hge⟩, grown_drew (World.grownBy_alloc w.drew _ _), .inr rfl⟩
    · rw [cell_of_row _ w.heap.size j _ _ _ hnew, ← hcs]
      have hj2 : j < (byteVals l ++ byteVals l2).length := by simpa [byteVals] using hj
      rw [Array.getElem?_append_left (by simpa using hj2)]
      have : byteVals l ++ byteVals l2 = byteVals (l ++ l2) := by simp [byteVals]
      rw [List.getElem?_toArray, this, byteVals_get hj]
    · rw [cell_of_row _ w.heap.size j _ _ _ hnew, Array.getElem?_eq_getElem (by rw [hsz]; exact hj)]
      rfl
    · unfold World.frozen?
      simp only [hnew]
      simp

section
variable {F : Fence} {n : Nat} {ops : Array Oper} {rest : List Oper} {o : Oper} {a : Act} {Q : Exit → Act → World → Prop}
theorem wpListIn_bytes_of (w : World) (hg : o.guard = none) (x : Operand) (hop : o.op = Op.convert 9 72 x) (s : ByteArray) (hx : a.eval x = .string s)
    (hK : ∀ cap w', BytesAt w' w.heap.size w.heap.size cap s.data.toList → w.grownBy w' none → w'.heap.size = w.heap.size + 1 → wpListIn F n Tryd.prog ops Q rest (a.put o.dst (.slice (some ⟨w.heap.size, 0, none⟩) s.data.toList.length cap)) w') :
    wpListIn F n Tryd.prog ops Q (o :: rest) a w := by
  refine wpListIn_plain hg fun K hK' => ?_
  obtain ⟨cap, w', hrun, h1, h2, h3⟩ := bytes_of w s
  refine ⟨by simp [Oper.about, hop], ?_⟩
  rw [Oper.semAt_plain F _ _ (by rw [hop]; intro c hc; cases hc)]
  simp [execOp, hop, hx, hrun, Result.andThen]
  exact hK' _ _ (by have := hK cap w' h1 h2 h3; simpa using this)
theorem wpListIn_string_of (w : World) (hg : o.guard = none) (x : Operand) (hop : o.op = Op.convert 72 9 x) (g cap base : Nat) (l : List UInt8) (hx : a.eval x = .slice (some ⟨g, 0, none⟩) l.length cap) (h : BytesAt w base g cap l)
    (hK : wpListIn F n Tryd.prog ops Q rest (a.put o.dst (.string ⟨l.toArray⟩)) w) : wpListIn F n Tryd.prog ops Q (o :: rest) a w := by
  refine wpListIn_plain hg fun K hK' => ?_
  have hrun := run_convert_bytes_back (P := Tryd.prog) w 72 9 5 ⟨g, 0, none⟩ cap l Tryd.underlying72 Tryd.underlying5 Tryd.underlying9 (fun j hj => by
    have e : (⟨g, 0, none⟩ : Addr).add j = ⟨g, j, none⟩ := by rw [Addr.add_lit]; simp
    rw [e, h.cells j hj, List.getD_eq_getElem?_getD, List.getElem?_eq_getElem hj]
    rfl)
  refine ⟨by simp [Oper.about, hop], ?_⟩
  rw [Oper.semAt_plain F _ _ (by rw [hop]; intro c hc; cases hc)]
  simp [execOp, hop, hx, hrun, Result.andThen]
  exact hK' _ _ hK
theorem wpListIn_append_bytes (w : World) (hg : o.guard = none) (s x : Operand) (hop : o.op = Op.call { callee := Callee.builtin Builtin.append, args := #[s, x], argTypes := #[72, 72] })
    (base g cap base2 g2 cap2 : Nat) (l l2 : List UInt8) (hs : a.eval s = .slice (some ⟨g, 0, none⟩) l.length cap) (hx : a.eval x = .slice (some ⟨g2, 0, none⟩) l2.length cap2)
    (h : BytesAt w base g cap l) (h2 : BytesAt w base2 g2 cap2 l2) (hlen : l.length + l2.length ≤ 70368744177664) (hbase : base ≤ w.heap.size)
    (hK : ∀ g' cap' w', BytesAt w' base g' cap' (l ++ l2) → w.grownBy w' (some g) → wpListIn F n Tryd.prog ops Q rest (a.put o.dst (.slice (some ⟨g', 0, none⟩) (l ++ l2).length cap')) w') :
    wpListIn F n Tryd.prog ops Q (o :: rest) a w := by
  refine wpListIn_plain hg fun K hK' => ?_
  obtain ⟨g', cap', w', hrun, h3, h4, _⟩ := run_append_bytes w o.type base g cap base2 g2 cap2 l l2 h h2 hlen hbase
  refine ⟨by simp [Oper.about, hop, resolve, Target.leads, Sem.run_pure], ?_⟩
  rw [Oper.semAt_plain F _ _ (by rw [hop]; intro c hc; cases hc)]
  simp [execOp, hop, resolve, invoke, builtin, hs, hx, hrun, Result.andThen]
  exact hK' _ _ (by have := hK g' cap' w' h3 h4; simpa using this)
end
end Go.Proofs.YtieamjpfmjkchaaDoor
