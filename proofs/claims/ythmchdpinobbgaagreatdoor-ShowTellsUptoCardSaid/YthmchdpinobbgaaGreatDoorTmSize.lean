/-
  Size and Depth. Condition: the term can be read, and has at most 4194304 terms.
-/
import Derived.Test.YthmchdpinobbgaaGreatDoorTmPlaces
namespace Go.Proofs.YthmchdpinobbgaaGreatDoor
open Go.RowKit Go.Shelf Go.Tm
attribute [local go_sem] Oper.semAt_some

/-- what a frame keeps while it ranges over places: what lay ahead of it; the iterator's blocks lie behind B -/
structure Fr (n0 B : Nat) (w : World) (T : List Nat) (W : World) : Prop where
  below : Below n0 w W
  lo : ∀ k, k ∈ T → B ≤ k
  n0B : n0 ≤ B
  sz : B ≤ W.heap.size
theorem Fr.calm {n0 B : Nat} {w : World} {T T' : List Nat} {W W' : World} (h : Fr n0 B w T W) (hc : CalmV B T T' W W') : Fr n0 B w T' W' := by
  have hsz := h.sz
  have hnB := h.n0B
  refine ⟨⟨hc.below.os.trans h.below.os, hc.below.tape.trans h.below.tape, hc.below.output.trans h.below.output, Nat.le_trans h.below.size hc.below.size, fun k hk => ?_⟩, fun k hk => ?_, hnB, Nat.le_trans hsz hc.below.size⟩
  · obtain ⟨o, ho⟩ : ∃ o, W.heap[k]? = some o := ⟨_, Array.getElem?_eq_getElem (by omega)⟩
    exact (hc.same k o ho (fun e => by have := h.lo k e; omega) (.inl (by omega))).trans (ho.symm.trans (h.below.block k hk))
  · rcases hc.fresh k hk with h1 | h1
    · exact h.lo k h1
    · omega
theorem Fr.mine {n0 B : Nat} {w : World} {T T' : List Nat} {W W' : World} (h : Fr n0 B w T W) (hc : CalmV B T T' W W') {b : Nat} {o : Obj} (hb : b < B) (ho : W.heap[b]? = some o) : W'.heap[b]? = some o :=
  hc.same b o ho (fun e => by have := h.lo b e; omega) (.inl hb)
/-- one of the frame's own blocks is written -/
theorem Fr.set {n0 B : Nat} {w : World} {T : List Nat} {W : World} (h : Fr n0 B w T W) {b i : Nat} {v : Value} (hb : b < B) (h0 : n0 ≤ b) {cs : Array Value} {t : TypeId} (_ : W.heap[b]? = some (.cells cs t (0, 0))) :
    KeepsFrom B W (W.setCell ⟨b, i, none⟩ v) ∧ KeepT T W (W.setCell ⟨b, i, none⟩ v) ∧ Below n0 W (W.setCell ⟨b, i, none⟩ v) ∧ Fr n0 B w T (W.setCell ⟨b, i, none⟩ v) := by
  have h1 : Below n0 W (W.setCell ⟨b, i, none⟩ v) := (Below.refl n0 W).setCell (p := ⟨b, i, none⟩) h0 v
  refine ⟨(KeepsOthers.setCell _ _ _).from _, fun k hk => Below.heap_setCell _ _ _ _ (fun e => by have := h.lo k hk; simp at e; omega), h1, ⟨h.below.trans h1, h.lo, h.n0B, by have := h.sz; simpa using this⟩⟩
theorem Fr.start (n0 : Nat) {w W : World} (h : Below n0 w W) (hn : n0 ≤ W.heap.size) : Fr n0 W.heap.size w [] W := ⟨h, fun k hk => by simp at hk, hn, Nat.le_refl _⟩
/-- the loop's mark is taken -/
theorem Fr.mark {n0 B : Nat} {w : World} {T : List Nat} {W : World} (h : Fr n0 B w T W) {D : Nat} (hD : B ≤ D) (o : Obj) : Below n0 w (W.putObj D o) :=
  h.below.trans ((Below.refl n0 W).grown (grownBy_putObj' W D o) (Nat.le_trans h.n0B h.sz) (fun k e => by cases e; have := h.n0B; omega))

theorem wrap_next (n : Int) : wrap64 (wrap64 n + 1) = wrap64 (n + 1) := by
  have h : ∀ x : Int, wrap64 x = (x + 9223372036854775808) % 18446744073709551616 - 9223372036854775808 := fun x => by unfold wrap64; rfl
  rw [h, h, h]; omega
theorem wrap64_small (x : Int) (h1 : -9223372036854775808 ≤ x) (h2 : x ≤ 9223372036854775807) : wrap64 x = x := by
  unfold wrap64; omega

end Go.Proofs.YthmchdpinobbgaaGreatDoor
