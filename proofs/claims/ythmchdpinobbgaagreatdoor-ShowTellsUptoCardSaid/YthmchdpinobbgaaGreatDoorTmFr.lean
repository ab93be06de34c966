/-
  What a frame keeps over a call, and nodes over a write to a block without texts. No condition.
-/
import Derived.Test.YthmchdpinobbgaaGreatDoorTmDepth
namespace Go.Proofs.YthmchdpinobbgaaGreatDoor
open Go.RowKit Go.Shelf Go.Tm

theorem Fr.later {n0 B : Nat} {w : World} {T : List Nat} {W W' : World} (h : Fr n0 B w T W) (hb : Below W.heap.size W W') : Fr n0 B w T W' :=
  ⟨h.below.trans (hb.mono (Nat.le_trans h.n0B h.sz)), h.lo, h.n0B, Nat.le_trans h.sz hb.size⟩

/-- a call that lays blocks alone -/
theorem Fr.call {n0 B : Nat} {w : World} {T : List Nat} {W W' : World} (h : Fr n0 B w T W) (hT : ∀ k, k ∈ T → k < W.heap.size) (hb : Below W.heap.size W W') :
    KeepsFrom B W W' ∧ KeepT T W W' ∧ Below n0 W W' ∧ Fr n0 B w T W' :=
  ⟨⟨hb.size, fun k _ _ hk _ => (hb.block k (World.lt_of_get hk)).trans hk⟩, fun k hk => hb.block k (hT k hk), hb.mono (Nat.le_trans h.n0B h.sz), h.later hb⟩
/-- no node lies in a block without a text -/
theorem avoid {W : World} {b0 : Nat} (h0 : ∀ i s, W.cell? ⟨b0, i, none⟩ ≠ some (.string s)) {b o : Nat} {t : Go.Tm.T} {p : Nat → Prop} (h : NodeAt W p b o t) : b ≠ b0 := by
  obtain ⟨A, c, hh⟩ := h.hdr
  rintro rfl
  exact h0 _ _ hh.name
mutual
theorem NodeAt.avoid {W : World} {b0 : Nat} (h0 : ∀ i s, W.cell? ⟨b0, i, none⟩ ≠ some (.string s)) : ∀ {b o : Nat} {t : Go.Tm.T}, NodeAt W anyB b o t → NodeAt W (fun k => k ≠ b0) b o t
  | b, o, .node k s n ks, h => by
    have hb := Go.Proofs.YthmchdpinobbgaaGreatDoor.avoid h0 h
    rw [NodeAt] at h ⊢
    obtain ⟨_, hz, g0, g1, g2, A, c, g3, g4⟩ := h
    refine ⟨hb, hz, g0, g1, g2, A, c, g3, ?_⟩
    rcases g4 with g4 | ⟨kb, ko, g4, g5⟩
    · exact .inl g4
    · exact .inr ⟨kb, ko, g4, RowAt.avoid h0 g5⟩
theorem RowAt.avoid {W : World} {b0 : Nat} (h0 : ∀ i s, W.cell? ⟨b0, i, none⟩ ≠ some (.string s)) : ∀ {b o : Nat} {ts : List Go.Tm.T}, RowAt W anyB b o ts → RowAt W (fun k => k ≠ b0) b o ts
  | _, _, [], _ => by rw [RowAt]; trivial
  | b, o, t :: ts, h => by
    rw [RowAt] at h ⊢
    exact ⟨NodeAt.avoid h0 h.1, RowAt.avoid h0 h.2⟩
end
theorem NodeAt.set {W : World} {b0 i : Nat} {v : Value} (h0 : ∀ i s, W.cell? ⟨b0, i, none⟩ ≠ some (.string s)) {b o : Nat} {t : Go.Tm.T} (h : NodeAt W anyB b o t) : NodeAt (W.setCell ⟨b0, i, none⟩ v) anyB b o t :=
  NodeAt.kept (fun _ _ => trivial) (fun _ hk => Below.heap_setCell _ _ _ _ hk) (h.avoid h0)
/-- a node lies as it lay after a call that lays blocks alone -/
theorem NodeAt.after {W W' : World} (hb : Below W.heap.size W W') {b o : Nat} {t : Go.Tm.T} (h : NodeAt W anyB b o t) : NodeAt W' anyB b o t :=
  h.cells fun k _ hk _ => (hb.block k (World.lt_of_get hk)).trans hk
theorem no_text {W : World} {b0 : Nat} {cs : Array Value} {t : TypeId} {f : Nat × Nat} (h : W.heap[b0]? = some (.cells cs t f)) (hc : ∀ (i : Nat) (s : ByteArray), cs[i]? ≠ some (.string s)) : ∀ (i : Nat) (s : ByteArray), W.cell? ⟨b0, i, none⟩ ≠ some (.string s) := fun i s => by
  rw [cell_of_row W b0 i _ _ _ h]
  exact hc i s


/-- a chain of new blocks -/
theorem chain_get (w : World) : ∀ (os : List Obj) (i : Nat) (o : Obj), os[i]? = some o → (os.foldl World.alloc w).heap[w.heap.size + i]? = some o
  | [], _, _, h => by cases h
  | a :: os, 0, o, h => by
    cases h
    have : ∀ (os : List Obj) (v : World) (k : Nat), k < v.heap.size → (os.foldl World.alloc v).heap[k]? = v.heap[k]? := fun os => by
      induction os with
      | nil => exact fun _ _ _ => rfl
      | cons b os ih => exact fun v k hk => (ih (v.alloc b) k (by simp; omega)).trans (Below.heap_alloc _ _ _ hk)
    show (os.foldl World.alloc (w.alloc a)).heap[w.heap.size]? = _
    rw [this os _ _ (by simp)]
    exact World.alloc_heap_new w a
  | a :: os, i + 1, o, h => by
    have := chain_get (w.alloc a) os i o h
    rw [World.size_alloc] at this
    show (os.foldl World.alloc (w.alloc a)).heap[w.heap.size + (i + 1)]? = _
    rw [show w.heap.size + (i + 1) = w.heap.size + 1 + i by omega]
    exact this
theorem chain_below (w : World) : ∀ (os : List Obj), Below w.heap.size w (os.foldl World.alloc w) ∧ (os.foldl World.alloc w).heap.size = w.heap.size + os.length := fun os => by
  have : ∀ (os : List Obj) (v : World), w.heap.size ≤ v.heap.size → Below w.heap.size w v → Below w.heap.size w (os.foldl World.alloc v) ∧ (os.foldl World.alloc v).heap.size = v.heap.size + os.length := fun os => by
    induction os with
    | nil => exact fun _ _ h => ⟨h, rfl⟩
    | cons b os ih =>
      intro v hv h
      have := ih (v.alloc b) (by simp; omega) (h.alloc hv b)
      refine ⟨this.1, ?_⟩
      have h2 := this.2
      rw [World.size_alloc] at h2
      rw [List.length_cons]
      show (os.foldl World.alloc (v.alloc b)).heap.size = _
      omega
  exact this os w (Nat.le_refl _) (Below.refl _ _)

theorem Fr.grown {n0 B : Nat} {w : World} {T : List Nat} {W W' : World} (h : Fr n0 B w T W) {g : Nat} (hg : W.grownBy W' (some g)) (hgT : g ∉ T) (hgn : n0 ≤ g) (hc : ∃ cur t f, W.heap[g]? = some (.cells cur t f)) (hTl : ∀ k, k ∈ T → k < W.heap.size) :
    KeepsFrom B W W' ∧ KeepT T W W' ∧ Below n0 W W' ∧ Fr n0 B w T W' := by
  have hb : Below n0 W W' := (Below.refl n0 W).grown hg (Nat.le_trans h.n0B h.sz) (fun k e => by cases e; exact hgn)
  refine ⟨⟨hg.size, fun k o _ hk ho => ?_⟩, fun k hk => hg.block k (hTl k hk) (fun e => by cases e; exact hgT hk), hb, ⟨h.below.trans hb, h.lo, h.n0B, Nat.le_trans h.sz hg.size⟩⟩
  refine (hg.block k (World.lt_of_get hk) fun e => ?_).trans hk
  cases e
  obtain ⟨cur, ty, f, hc⟩ := hc
  rw [hc] at hk; cases hk; cases ho
theorem cells_new1 (W : World) (a : Value) (t : TypeId) : ∀ (j : Nat) (u : Value), [a][j]? = some u → (W.alloc (.cells #[a] t)).cell? ((⟨W.heap.size, 0, none⟩ : Addr).add j) = some u := by
  intro j u hu
  have hadd : (⟨W.heap.size, 0, none⟩ : Addr).add j = ⟨W.heap.size, j, none⟩ := by unfold Addr.add; split <;> simp_all
  rw [hadd, cell_of_row _ W.heap.size j _ _ _ (World.alloc_heap_new W _)]
  simpa using hu
theorem one1 (x : Option Addr) : ∀ u ∈ [Value.pointer x], u.oneCell' = true := by
  intro u hu
  obtain rfl := List.mem_singleton.1 hu
  rfl

end Go.Proofs.YthmchdpinobbgaaGreatDoor
