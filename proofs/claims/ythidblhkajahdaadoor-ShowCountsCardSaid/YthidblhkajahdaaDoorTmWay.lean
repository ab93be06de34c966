/-
  The way down on the other side, as Same keeps it: a list of pointers. Conditions: each node on it lies below a bound that nobody writes.
-/
import Derived.Test.YthidblhkajahdaaDoorTmAlike
namespace Go.Proofs.YthidblhkajahdaaDoor
open Go.RowKit Go.Shelf Go.Tm

def ptrV (e : Nat × Nat) : Value := .pointer (some ⟨e.1, e.2, none⟩)
/-- the variable at pc has a list of pointers, at block g, to nodes of P -/
structure Way (W : World) (base pc : Nat) (T : List Nat) (P : List Go.Tm.T) (g cap : Nat) (es : List (Nat × Nat)) : Prop where
  var : W.heap[pc]? = some (.cells #[.slice (some ⟨g, 0, none⟩) P.length cap] 66 (0, 0))
  own : W.ownsRow base 61 1 (.slice (some ⟨g, 0, none⟩) P.length cap) P.length (es.map ptrV)
  gT : g ∉ T
  gp : g ≠ pc
  gb : base ≤ g
  len : es.length = P.length
  node : ∀ i, i < P.length → NodeAt W (· < base) (es.getD i (0, 0)).1 (es.getD i (0, 0)).2 (P.getD i default)

section
variable {W W' : World} {base pc : Nat} {T T' : List Nat} {P : List Go.Tm.T} {g cap : Nat} {es : List (Nat × Nat)}
theorem Way.cells (h : Way W base pc T P g cap es) : ∃ cur t f, W.heap[g]? = some (.cells cur t f) ∧ P.length ≤ cap := by
  obtain ⟨_, h2 | ⟨g', cp, cur, hv, _, hg, r1, _⟩⟩ := h.own
  · obtain ⟨h2, _⟩ := h2; cases h2
  · cases hv; exact ⟨cur, _, _, hg, r1⟩
theorem Way.g_lt (h : Way W base pc T P g cap es) : g < W.heap.size := own_lt h.own
theorem Way.kept (h : Way W base pc T P g cap es) (h1 : W'.heap[pc]? = W.heap[pc]?) (h2 : W'.heap[g]? = W.heap[g]?) (h3 : ∀ k, k < base → W'.heap[k]? = W.heap[k]?) (h4 : g ∉ T') : Way W' base pc T' P g cap es :=
  ⟨h1.trans h.var, own_kept h.own (W1 := W) h2 rfl, h4, h.gp, h.gb, h.len, fun i hi => NodeAt.kept (fun _ h => h) (fun k hk => h3 k hk) (h.node i hi)⟩
/-- a step of the iterator, or the turn of a block that is no cells -/
theorem Way.calm {B : Nat} (h : Way W base pc T P g cap es) (hc : CalmV B T T' W W') (hlo : ∀ k, k ∈ T → B ≤ k) (hb : base ≤ pc) (hp : pc < B) (hB : B ≤ W.heap.size) : Way W' base pc T' P g cap es := by
  have low : ∀ k, k < B → k < W.heap.size → W'.heap[k]? = W.heap[k]? := fun k hk hs => by
    obtain ⟨o, ho⟩ : ∃ o, W.heap[k]? = some o := ⟨_, Array.getElem?_eq_getElem hs⟩
    exact (hc.same k o ho (fun e => by have := hlo k e; omega) (.inl hk)).trans ho.symm
  obtain ⟨cur, ty, f, hg, _⟩ := h.cells
  refine h.kept (low pc hp (by omega)) ((hc.same g _ hg h.gT (.inr rfl)).trans hg.symm) (fun k hk => low k (by omega) (by omega)) fun e => ?_
  rcases hc.fresh g e with e | e
  · exact h.gT e
  · have := h.g_lt; omega
/-- a call that lays blocks alone -/
theorem Way.later (h : Way W base pc T P g cap es) (hb : Below W.heap.size W W') (hbs : base ≤ pc) : Way W' base pc T P g cap es := by
  have hp := World.lt_of_get h.var
  exact h.kept (hb.block pc hp) (hb.block g h.g_lt) (fun k hk => hb.block k (by omega)) h.gT
theorem Way.get (h : Way W base pc T P g cap es) {i : Nat} (hi : i < P.length) : W.cell? ⟨g, i, none⟩ = some (ptrV (es.getD i (0, 0))) := by
  have hc := h.own.cells (g := g) rfl i (ptrV (es.getD i (0, 0))) (by
    have hl : i < es.length := by rw [h.len]; exact hi
    rw [List.getElem?_map, List.getElem?_eq_getElem hl, List.getD_eq_getElem?_getD, List.getElem?_eq_getElem hl]; rfl)
  have hadd : (⟨g, 0, none⟩ : Addr).add i = ⟨g, i, none⟩ := by unfold Addr.add; split <;> simp_all
  rwa [hadd] at hc
/-- the list cut to d -/
theorem Way.cut (h : Way W base pc T P g cap es) {d : Nat} (hd : d ≤ P.length) (hbs : base ≤ pc) : Way (W.setCell ⟨pc, 0, none⟩ (.slice (some ⟨g, 0, none⟩) d cap)) base pc T (P.take d) g cap (es.take d) := by
  have hl : (P.take d).length = d := by rw [List.length_take]; omega
  have hk : ∀ k, k ≠ pc → (W.setCell ⟨pc, 0, none⟩ (.slice (some ⟨g, 0, none⟩) d cap)).heap[k]? = W.heap[k]? := fun k hk => Below.heap_setCell _ _ _ _ hk
  refine ⟨?_, ?_, h.gT, h.gp, h.gb, by rw [List.length_take, List.length_take, h.len], fun i hi => ?_⟩
  · rw [hl]; exact heap_setCell_same W pc 0 _ _ (.slice (some ⟨g, 0, none⟩) d cap) h.var
  · rw [hl]
    obtain ⟨h1, h2 | ⟨g', cp, cur, hv, hbg, hg, r1, r2, r3, r4⟩⟩ := h.own
    · obtain ⟨h2, _⟩ := h2; cases h2
    · cases hv
      refine ⟨by rw [List.length_map, List.length_take, h.len]; omega, .inr ⟨_, _, cur, rfl, hbg, (hk _ h.gp).trans hg, by omega, r2, r3, ?_⟩⟩
      have := congrArg (List.take d) r4
      rw [List.take_take, ← List.map_take] at this
      rw [← this]
      congr 1
      omega
  · rw [hl] at hi
    have e1 : (es.take d).getD i (0, 0) = es.getD i (0, 0) := by rw [List.getD_eq_getElem?_getD, List.getD_eq_getElem?_getD, List.getElem?_take, if_pos hi]
    have e2 : (P.take d).getD i default = P.getD i default := by rw [List.getD_eq_getElem?_getD, List.getD_eq_getElem?_getD, List.getElem?_take, if_pos hi]
    rw [e1, e2]
    exact NodeAt.kept (fun _ h => h) (fun k hk2 => hk k (by omega)) (h.node i (by omega))
/-- one more put behind, and kept in the variable -/
theorem Way.push (h : Way W base pc T P g cap es) (e : Nat × Nat) (o : Go.Tm.T) (hn : NodeAt W (· < base) e.1 e.2 o) {v' : Value} {w' : World} {n : Nat} (hnl : n = P.length)
    (hown' : w'.ownsRow base 61 1 v' (n + 1) (es.map ptrV ++ [ptrV e])) (hgrow : W.grownBy w' (Value.ownBlock (.slice (some ⟨g, 0, none⟩) n cap))) (hat : v'.ownBlock = Value.ownBlock (.slice (some ⟨g, 0, none⟩) n cap) ∨ v'.ownBlock = some W.heap.size)
    (hT : ∀ k, k ∈ T → k < W.heap.size) (hbs : base ≤ pc) :
    ∃ g' cap', v' = .slice (some ⟨g', 0, none⟩) (n + 1) cap' ∧ (g' = g ∨ g' = W.heap.size) ∧ Way (w'.setCell ⟨pc, 0, none⟩ v') base pc T (P ++ [o]) g' cap' (es ++ [e]) := by
  subst hnl
  have hown2 := hown'
  obtain ⟨g0, g1 | ⟨g', cp, cur, hv, hbg, hg, r⟩⟩ := hown'
  · exact absurd g1.2 (by omega)
  · subst hv
    have hpl := World.lt_of_get h.var
    have hgl := h.g_lt
    have hgg : g' = g ∨ g' = W.heap.size := by simpa [Value.ownBlock] using hat
    have hlen : (P ++ [o]).length = P.length + 1 := by simp
    have hgp : g' ≠ pc := by
      rcases hgg with e1 | e1
      · rw [e1]; exact h.gp
      · omega
    have hk : ∀ k, k ≠ pc → (w'.setCell ⟨pc, 0, none⟩ (.slice (some ⟨g', 0, none⟩) (P.length + 1) cp)).heap[k]? = w'.heap[k]? := fun k hk => Below.heap_setCell _ _ _ _ hk
    have hvar : w'.heap[pc]? = some (.cells #[.slice (some ⟨g, 0, none⟩) P.length cap] 66 (0, 0)) := (hgrow.block _ hpl (by simp [Value.ownBlock]; exact fun e => h.gp e.symm)).trans h.var
    have hlow : ∀ k, k < base → (w'.setCell ⟨pc, 0, none⟩ (.slice (some ⟨g', 0, none⟩) (P.length + 1) cp)).heap[k]? = W.heap[k]? := fun k hkb => (hk k (by omega)).trans (hgrow.block k (by omega) (by have := h.gb; simp [Value.ownBlock]; omega))
    refine ⟨g', cp, rfl, hgg, ⟨?_, ?_, ?_, hgp, hbg, by simp [h.len], fun i hi => ?_⟩⟩
    · rw [hlen]; exact heap_setCell_same w' pc 0 _ _ (.slice (some ⟨g', 0, none⟩) (P.length + 1) cp) hvar
    · rw [hlen, List.map_append]
      exact own_kept (W1 := w') hown2 (hk g' hgp) rfl
    · intro e
      rcases hgg with e1 | e1
      · exact h.gT (e1 ▸ e)
      · have := hT _ e; omega
    · rw [hlen] at hi
      by_cases hi2 : i < P.length
      · have e1 : (es ++ [e]).getD i (0, 0) = es.getD i (0, 0) := by rw [List.getD_eq_getElem?_getD, List.getD_eq_getElem?_getD, List.getElem?_append_left (by rw [h.len]; exact hi2)]
        have e2 : (P ++ [o]).getD i default = P.getD i default := by rw [List.getD_eq_getElem?_getD, List.getD_eq_getElem?_getD, List.getElem?_append_left hi2]
        rw [e1, e2]
        exact NodeAt.kept (fun _ h => h) (fun k hk2 => hlow k hk2) (h.node i hi2)
      · obtain rfl : i = P.length := by omega
        have e1 : (es ++ [e]).getD P.length (0, 0) = e := by rw [List.getD_eq_getElem?_getD, ← h.len, List.getElem?_append_right (Nat.le_refl _)]; simp
        have e2 : (P ++ [o]).getD P.length default = o := by rw [List.getD_eq_getElem?_getD, List.getElem?_append_right (Nat.le_refl _)]; simp
        rw [e1, e2]
        exact NodeAt.kept (fun _ h => h) (fun k hk2 => hlow k hk2) hn
end
end Go.Proofs.YthidblhkajahdaaDoor
