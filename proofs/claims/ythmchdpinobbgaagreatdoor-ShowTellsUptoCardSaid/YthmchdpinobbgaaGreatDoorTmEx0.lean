/-
  The statements' own small functions: of, num, two, texts, has. Conditions: what they are handed can be read.
-/
import Derived.Test.YthmchdpinobbgaaGreatDoorTmSame
import Derived.Maps.OwnIn
import Derived.Maps.AppendAt
namespace Go.Proofs.YthmchdpinobbgaaGreatDoor
open Go.RowKit Go.Shelf Go.Tm Go.Maps
attribute [local go_sem] Oper.semAt_some

abbrev Tn := Go.Tm.T.node
theorem TmV.later {W W' : World} {t : Go.Tm.T} {A : Option Addr} {c : Nat} (h : TmV W (· < W.heap.size) t A c) (hb : Below W.heap.size W W') : TmV W' (· < W'.heap.size) t A c :=
  h.kept (fun b hb2 => by have := hb.size; have h3 : b < W.heap.size := hb2; show b < _; omega) (fun b hb2 => hb.block b hb2)
theorem TmV.leaf (W : World) (p : Nat → Prop) {k n : Int} {s : ByteArray} (hs : s.size ≤ 9223372036854775807) : TmV W p (.node k s n []) none 0 := ⟨hs, .inl rfl⟩
/-- the cells of kids, one behind another -/
def tmC (x : Go.Tm.T × Option Addr × Nat) : List Value := [.int .i64 x.1.kind, .string x.1.name, .int .i64 x.1.num, .slice x.2.1 x.1.kids.length x.2.2]
theorem row_new {W : World} {p : Nat → Prop} {b : Nat} (hb : p b) : ∀ (xs : List (Go.Tm.T × Option Addr × Nat)) (o : Nat), (∀ x ∈ xs, TmV W p x.1 x.2.1 x.2.2) → (∀ i v, (xs.flatMap tmC)[i]? = some v → W.cell? ⟨b, o + i, none⟩ = some v) → RowAt W p b o (xs.map (·.1))
  | [], o, _, _ => by rw [List.map_nil, RowAt]; trivial
  | x :: xs, o, hT, hc => by
    rw [List.map_cons, RowAt]
    have hx := hT x (by simp)
    refine ⟨?_, row_new hb xs (o + 4) (fun y hy => hT y (by simp [hy])) fun i v hv => ?_⟩
    · have h0 := hc 0 _ rfl
      have h1 := hc 1 _ rfl
      have h2 := hc 2 _ rfl
      have h3 := hc 3 _ rfl
      rw [T.eta x.1, NodeAt]
      exact ⟨hb, hx.nsz, h0, h1, h2, x.2.1, x.2.2, h3, hx.row⟩
    · have := hc (4 + i) v (by rw [List.flatMap_cons, List.getElem?_append_right (by simp [tmC])]; simpa [tmC] using hv)
      rwa [← Nat.add_assoc] at this

/-- texts behind a slice -/
def Txs (w : World) (A : Option Addr) (ss : List ByteArray) : Prop := ∀ j, j < ss.length → ∃ b off, A = some ⟨b, off, none⟩ ∧ b < w.heap.size ∧ w.cell? ⟨b, off + j, none⟩ = some (.string (ss.getD j ⟨#[]⟩))
theorem Txs.later {W W' : World} {A : Option Addr} {ss : List ByteArray} (h : Txs W A ss) (hb : Below W.heap.size W W') : Txs W' A ss := fun j hj => by
  obtain ⟨b, off, h1, h2, h3⟩ := h j hj
  exact ⟨b, off, h1, Nat.lt_of_lt_of_le h2 hb.size, (hb.cell (p := ⟨b, off + j, none⟩) h2).trans h3⟩
theorem txs_of_row {W : World} {base : Nat} {v : Value} {L : List ByteArray} (h : W.ownsRow base 9 1 v L.length (L.map .string)) : ∃ A c, v = .slice A L.length c ∧ Txs W A L := by
  obtain ⟨h1, ⟨rfl, h2⟩ | ⟨g, cap, cur, rfl, hb, hg, r1, r2, r3, r4⟩⟩ := h
  · rw [h2]
    exact ⟨none, 0, rfl, fun j hj => by omega⟩
  · refine ⟨_, _, rfl, fun j hj => ⟨g, 0, rfl, World.lt_of_get hg, ?_⟩⟩
    rw [Nat.zero_add, cell_of_row W g j _ _ _ hg]
    have h3 : (cur.toList.take (L.length * 1))[j]? = some (.string (L.getD j ⟨#[]⟩)) := by
      rw [r4, List.getElem?_map, List.getElem?_eq_getElem hj, List.getD_eq_getElem?_getD, List.getElem?_eq_getElem hj]; rfl
    rw [List.getElem?_take_of_lt (by omega), Array.getElem?_toList] at h3
    exact h3
theorem txs_box (W : World) (l : List ByteArray) (ty : TypeId) : Txs (W.alloc (.cells (l.map .string).toArray ty)) (some ⟨W.heap.size, 0, none⟩) l := fun j hj => by
  refine ⟨_, _, rfl, by simp, ?_⟩
  rw [Nat.zero_add, cell_of_row _ W.heap.size j _ _ _ (World.alloc_heap_new W _), List.getElem?_toArray, List.getElem?_map, List.getElem?_eq_getElem hj, List.getD_eq_getElem?_getD, List.getElem?_eq_getElem hj]; rfl
theorem bytes_eq {a b : ByteArray} : (a.toList == b.toList) = true ↔ a = b := by
  rw [beq_iff_eq, ByteArray.toList_eq, ByteArray.toList_eq]
  constructor
  · intro h
    have h3 : a.data = b.data := Array.toList_inj.1 h
    cases a; cases b; cases h3; rfl
  · rintro rfl; rfl

end Go.Proofs.YthmchdpinobbgaaGreatDoor
