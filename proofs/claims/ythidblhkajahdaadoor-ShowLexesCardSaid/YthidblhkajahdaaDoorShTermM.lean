/-
  What the maker of terms gathers: kids by value in a row of its own; they are right, and few. No condition.
-/
import Derived.Test.YthidblhkajahdaaDoorShMake
import Derived.Test.YthidblhkajahdaaDoorTmOwn
namespace Go.Proofs.YthidblhkajahdaaDoor
open Go.RowKit Go.Shelf Go.Tm Go.Lx Go.Maps

theorem nodesTs_all : ∀ {ks : List Go.Tm.T}, (∀ u ∈ ks, Rt u) → nodesTs ks = true
  | [], _ => by rw [nodesTs]
  | t :: ts, h => by rw [nodesTs, rt_nodes (h t (by simp)), nodesTs_all (fun u hu => h u (by simp [hu]))]; rfl
theorem rt_mk {kn : Nat} {nm : ByteArray} {num : Int} {ks : List Go.Tm.T} (h1 : 1 ≤ kn) (h2 : kn ≤ 13) (hl : ks.length = kidsTab.getD kn 0) (hf : fieldsB (.node kn nm num []) = true) (hk : ∀ u ∈ ks, Rt u) : Rt (.node kn nm num ks) := by
  refine rt_of _ _ (Nat.le_refl _) ?_
  rw [nodesT, nodesTs_all hk, Bool.and_true]
  unfold nodeB
  have e1 : (T.node kn nm num ks).kind = (kn : Int) := rfl
  have e2 : (T.node kn nm num ks).kids = ks := rfl
  have e3 : fieldsB (.node kn nm num ks) = fieldsB (.node kn nm num []) := rfl
  rw [e1, e2, e3, hf, decide_eq_true (by omega), decide_eq_true (by omega), Int.toNat_natCast, hl]
  simp
theorem depths_le : ∀ {ks : List Go.Tm.T} {d : Nat}, (∀ u ∈ ks, u.depth ≤ d) → depths ks ≤ d
  | [], _, _ => by rw [depths]; exact Nat.zero_le _
  | t :: ts, d, h => by
    rw [depths]
    have := h t (by simp)
    have := depths_le (ks := ts) (d := d) (fun u hu => h u (by simp [hu]))
    omega
theorem sizes_app : ∀ (a b : List Go.Tm.T), sizes (a ++ b) = sizes a + sizes b
  | [], b => by rw [List.nil_append, sizes]; omega
  | t :: a, b => by rw [List.cons_append, sizes, sizes, sizes_app a b]; omega
theorem Tk.cell {bm : Nat} {w w' : World} (h : Tk bm w w') {b o : Nat} {v : Value} (hne : b ≠ bm) (hc : w.cell? ⟨b, o, none⟩ = some v) : w'.cell? ⟨b, o, none⟩ = some v :=
  (World.cell?_of_block (a := ⟨b, o, none⟩) (h.block b (World.block_lt_of_cell? w _ hc) hne)).trans hc
/-- the kids gathered, and where theirs lie -/
structure RT (w W : World) (bm b : Nat) (K num : Int) (nm : ByteArray) (v : Value) (xs : List (Go.Tm.T × Option Addr × Nat)) : Prop where
  tk : Tk bm w W
  own : W.ownsRow (b + 1) 24 4 v xs.length (xs.flatMap tmC)
  kids : ∀ x ∈ xs, TmV W (KidB W b v) x.1 x.2.1 x.2.2
  box : W.heap[b]? = some (.cells #[.int .i64 K, .string nm, .int .i64 num, v] 24 (0, 0))
  lo : w.heap.size ≤ b
  bm : bm < w.heap.size
theorem RT.own_at {w W : World} {bm b : Nat} {K num : Int} {nm : ByteArray} {v : Value} {xs : List (Go.Tm.T × Option Addr × Nat)} (h : RT w W bm b K num nm v xs) {g : Nat} (hg : v.ownBlock = some g) : b < g ∧ g < W.heap.size := by
  obtain ⟨cur, hc, hb⟩ := Go.Proofs.YthidblhkajahdaaDoor.own_at h.own hg
  exact ⟨hb, World.lt_of_get hc⟩
theorem RT.later {w W W' : World} {bm b : Nat} {K num : Int} {nm : ByteArray} {v : Value} {xs : List (Go.Tm.T × Option Addr × Nat)} (h : RT w W bm b K num nm v xs) (hT : Tk bm W W') : RT w W' bm b K num nm v xs where
  tk := h.tk.trans hT
  own := own_same3 h.own fun g hg => by
    have h1 := h.own_at hg
    have h2 := h.lo
    have h3 := h.bm
    exact hT.block g h1.2 (by omega)
  kids x hx := (h.kids x hx).kept (fun k hk => ⟨hk.1, Nat.lt_of_lt_of_le hk.2.1 hT.size, hk.2.2⟩) (fun k hk => hT.block k hk.2.1 (by have := hk.1; have := h.lo; have := h.bm; omega))
  box := (hT.block b (World.lt_of_get h.box) (by have := h.lo; have := h.bm; omega)).trans h.box
  lo := h.lo
  bm := h.bm
theorem RT.boxed {w W W' : World} {bm b : Nat} {K num : Int} {nm : ByteArray} {v : Value} {xs : List (Go.Tm.T × Option Addr × Nat)} (h : RT w W bm b K num nm v xs) (hg : W.grownBy W' v.ownBlock) : W'.heap[b]? = some (.cells #[.int .i64 K, .string nm, .int .i64 num, v] 24 (0, 0)) :=
  (hg.block b (World.lt_of_get h.box) (fun e => by have := (h.own_at e.symm).1; omega)).trans h.box
theorem RT.put {w W W' : World} {bm b : Nat} {K num : Int} {nm : ByteArray} {v v' : Value} {xs : List (Go.Tm.T × Option Addr × Nat)} {x : Go.Tm.T × Option Addr × Nat} (h : RT w W bm b K num nm v xs) (hx : TmV W (KidB W b v) x.1 x.2.1 x.2.2) (hg : W.grownBy W' v.ownBlock)
    (ho : W'.ownsRow (b + 1) 24 4 v' (xs.length + 1) (xs.flatMap tmC ++ tmC x)) (hat : v'.ownBlock = v.ownBlock ∨ v'.ownBlock = some W.heap.size) : RT w (W'.setCell ⟨b, 3, none⟩ v') bm b K num nm v' (xs ++ [x]) where
  tk := by
    refine ⟨hg.os.trans h.tk.os, hg.tape.trans h.tk.tape, hg.output.trans h.tk.output, ?_, fun k hk hn => ?_⟩
    · have := hg.size; have := h.tk.size; simp; omega
    · rw [Below.heap_setCell _ _ _ _ (by show k ≠ b; have := h.lo; omega), hg.block k (Nat.lt_of_lt_of_le hk h.tk.size) (fun e => by have := (h.own_at e.symm).1; have := h.lo; omega)]
      exact h.tk.block k hk hn
  own := by
    rw [List.flatMap_append, List.length_append]
    exact ownsRow_setCell_below (by simpa using ho) (a := ⟨b, 3, none⟩) (Nat.lt_succ_self b) v'
  kids y hy := by
    have hk : ∀ y : Go.Tm.T × Option Addr × Nat, TmV W (KidB W b v) y.1 y.2.1 y.2.2 → TmV (W'.setCell ⟨b, 3, none⟩ v') (KidB (W'.setCell ⟨b, 3, none⟩ v') b v') y.1 y.2.1 y.2.2 := fun y hy =>
      hy.kept (fun k hk => ⟨hk.1, by simp; exact Nat.lt_of_lt_of_le hk.2.1 hg.size, hk.2.2.1, by
        rcases hat with e | e
        · rw [e]; exact hk.2.2.2
        · rw [e]; intro e2; injection e2 with e3; have := hk.2.1; omega⟩)
        (fun k hk => (Below.heap_setCell _ _ _ _ hk.2.2.1).trans (hg.block k hk.2.1 (Ne.symm hk.2.2.2)))
    rcases List.mem_append.1 hy with hy | hy
    · exact hk y (h.kids y hy)
    · obtain rfl := List.mem_singleton.1 hy
      exact hk y hx
  box := heap_setCell_same W' b 3 _ _ v' (h.boxed hg)
  lo := h.lo
  bm := h.bm
theorem RT.last {w W : World} {bm b : Nat} {K num : Int} {nm : ByteArray} {v : Value} {xs : List (Go.Tm.T × Option Addr × Nat)} (h : RT w W bm b K num nm v xs) (hn : nm.size ≤ 9223372036854775807) : ∃ A c, v = .slice A (xs.map (·.1)).length c ∧ TmV W (fun k => b < k ∧ k < W.heap.size) (.node K nm num (xs.map (·.1))) A c := by
  have hl : xs.length = (xs.map (·.1)).length := by rw [List.length_map]
  obtain ⟨h1, ⟨rfl, h2⟩ | ⟨g, cap, cur, rfl, hb, hg, r1, r2, r3, r4⟩⟩ := h.own
  · rw [← hl, h2]
    exact ⟨none, 0, rfl, hn, .inl (by show xs.map (·.1) = []; exact List.eq_nil_of_length_eq_zero (by rw [← hl, h2]))⟩
  · rw [← hl]
    refine ⟨_, _, rfl, hn, .inr ⟨g, 0, rfl, ?_⟩⟩
    exact row_new (W := W) (p := fun k => b < k ∧ k < W.heap.size) (b := g) ⟨by omega, World.lt_of_get hg⟩ xs 0 (fun x hx => (h.kids x hx).kept (fun k hk => ⟨hk.1, hk.2.1⟩) (fun _ _ => rfl)) (fun i u hu => by
      rw [Nat.zero_add, cell_of_row W g i _ _ _ hg]
      have h3 : (cur.toList.take (xs.length * 4))[i]? = some u := by rw [r4]; exact hu
      have h4 : i < (cur.toList.take (xs.length * 4)).length := (List.getElem?_eq_some_iff.1 h3).1
      rw [List.getElem?_take_of_lt (by rw [List.length_take] at h4; omega), Array.getElem?_toList] at h3
      exact h3)
end Go.Proofs.YthidblhkajahdaaDoor
