/-
  What the statements' turning of a term into the reference's gathers: the kids by value, in a row of its own. Conditions: as stated.
-/
import Derived.Test.YtmomdehilfnpcaaDoorTmRf1
import Derived.Test.YtmomdehilfnpcaaDoorTmKindW
import Derived.Maps.AppendAt
namespace Go.Proofs.YtmomdehilfnpcaaDoor
open Go.RowKit Go.Shelf Go.Tm

theorem info_ref3 : (Tryd.prog.info? 28).map (fun i => (i.zero, i.size, i.bytes)) = some (some (.agg #[.int .i64 0, .string ⟨#[]⟩, .int .i64 0, .slice none 0 0]), 4, 56) := by kernel_rfl
/-- an append to what was gathered, at a step of a region that draws its order; it tells where the row lies now -/
theorem step_append_at {P : Program} {ops : Array Oper} {o : Oper} {a : Act} {w : World} {K : Act → World → Prop} {Q : Exit → Act → World → Prop} {E : Prop}
    (hg : o.guard = none) (s x : Operand) (t : TypeId) (hop : o.op = Op.call { callee := Callee.builtin Builtin.append, args := #[s, x], argTypes := #[t, t] })
    (base : Nat) (e : TypeId) (i : TypeInfo) (z : Value) (size bytes : Nat) (h1 : P.underlying t = some (.slice e)) (h2 : P.info? e = some i) (h3 : i.zero = some z) (h4 : i.size = size) (h5 : i.bytes = bytes) (h6 : z.cells.size = size) (h7 : 0 < size)
    (v : Value) (n : Nat) (xs : List Value) (hs : a.eval s = v) (hown : w.ownsRow base e size v n xs)
    (ad : Addr) (m c : Nat) (news : List Value) (hx : a.eval x = .slice (some ad) m c) (hn : news.length = m * size) (hc : ∀ j u, news[j]? = some u → w.cell? (ad.add j) = some u) (h1c : ∀ u ∈ news, u.oneCell' = true)
    (b1 : n + m ≤ maxLen) (b2 : (n + m) * bytes ≤ 140737488355328) (hbase : base ≤ w.heap.size)
    (hK : ∀ v' w', w'.ownsRow base e size v' (n + m) (xs ++ news) → w.grownBy w' v.ownBlock → (v'.ownBlock = v.ownBlock ∨ v'.ownBlock = some w.heap.size) → K (a.put o.dst v') w') :
    if Region.wanted o (yielded ops a.tmps) = true then Oper.wp P o a w K Q else E := by
  have hw : Region.wanted o (yielded ops a.tmps) = true := by simp [Region.wanted, hg]
  rw [if_pos hw]
  obtain ⟨v', w', hrun, r1, r2, _, r4⟩ := run_append_own_at (P := P) w base t o.type e i z size bytes h1 h2 h3 h4 h5 h6 h7 v n xs hown ad m c news hn hc h1c b1 b2 hbase
  unfold Oper.wp
  simp [execOp, hop, resolve, invoke, builtin, hs, hx, hrun, Result.andThen]
  exact hK v' w' r1 r2 r4

/-- where the kids may lie -/
def KidB (W : World) (b : Nat) (v : Value) (k : Nat) : Prop := b < k ∧ k < W.heap.size ∧ k ≠ b ∧ v.ownBlock ≠ some k
/-- the kids gathered, and where theirs lie -/
structure RS (w W : World) (b : Nat) (t : Go.Tm.T) (v : Value) (xs : List (Go.Tm.T × Option Addr × Nat)) : Prop where
  below : Below w.heap.size w W
  own : W.ownsRow (b + 1) 28 4 v xs.length (xs.flatMap tmC)
  kids : ∀ x ∈ xs, TmV W (KidB W b v) x.1 x.2.1 x.2.2
  box : W.heap[b]? = some (.cells #[.int .i64 t.kind, .string t.name, .int .i64 t.num, v] 28 (0, 0))
  lo : w.heap.size ≤ b
theorem RS.first {w W : World} {b : Nat} {t : Go.Tm.T} (hb : Below w.heap.size w W) (hx : W.heap[b]? = some (.cells #[.int .i64 t.kind, .string t.name, .int .i64 t.num, .slice none 0 0] 28 (0, 0))) (hl : w.heap.size ≤ b) : RS w W b t (.slice none 0 0) [] :=
  ⟨hb, World.ownsRow_nil _ _ _ _, fun _ hx => (by cases hx), hx, hl⟩
theorem RS.later {w W W' : World} {b : Nat} {t : Go.Tm.T} {v : Value} {xs : List (Go.Tm.T × Option Addr × Nat)} (h : RS w W b t v xs) (hb : Below W.heap.size W W') : RS w W' b t v xs :=
  ⟨h.below.trans (hb.mono h.below.size), ownsRow_same h.own fun g hg => by
    obtain ⟨cur, hc, _⟩ := ownsRow_at h.own hg
    exact hb.block g (World.lt_of_get hc),
    fun x hx => (h.kids x hx).kept (fun k hk => ⟨hk.1, Nat.lt_of_lt_of_le hk.2.1 hb.size, hk.2.2⟩) (fun k hk => hb.block k hk.2.1), (hb.block b (World.lt_of_get h.box)).trans h.box, h.lo⟩
theorem RS.grown {w W W' : World} {b : Nat} {t : Go.Tm.T} {v : Value} {xs : List (Go.Tm.T × Option Addr × Nat)} (h : RS w W b t v xs) (hg : W.grownBy W' v.ownBlock) : Below (b + 1) W W' :=
  (Below.refl _ W).grown hg (World.lt_of_get h.box) fun _ hg => (ownsRow_at h.own hg).choose_spec.2
theorem RS.boxed {w W W' : World} {b : Nat} {t : Go.Tm.T} {v : Value} {xs : List (Go.Tm.T × Option Addr × Nat)} (h : RS w W b t v xs) (hg : W.grownBy W' v.ownBlock) : W'.heap[b]? = some (.cells #[.int .i64 t.kind, .string t.name, .int .i64 t.num, v] 28 (0, 0)) :=
  ((h.grown hg).block b (by omega)).trans h.box
theorem RS.put {w W W' : World} {b : Nat} {t : Go.Tm.T} {v v' : Value} {xs : List (Go.Tm.T × Option Addr × Nat)} {x : Go.Tm.T × Option Addr × Nat} (h : RS w W b t v xs) (hx : TmV W (KidB W b v) x.1 x.2.1 x.2.2) (hg : W.grownBy W' v.ownBlock)
    (ho : W'.ownsRow (b + 1) 28 4 v' (xs.length + 1) (xs.flatMap tmC ++ tmC x)) (hat : v'.ownBlock = v.ownBlock ∨ v'.ownBlock = some W.heap.size) : RS w (W'.setCell ⟨b, 3, none⟩ v') b t v' (xs ++ [x]) := by
  have hsz : W.heap.size ≤ W'.heap.size := (h.grown hg).size
  have hk : ∀ y, TmV W (KidB W b v) y.1 y.2.1 y.2.2 → TmV (W'.setCell ⟨b, 3, none⟩ v') (KidB (W'.setCell ⟨b, 3, none⟩ v') b v') (y : Go.Tm.T × Option Addr × Nat).1 y.2.1 y.2.2 := fun y hy =>
    hy.kept (fun k hk => ⟨hk.1, by simp; exact Nat.lt_of_lt_of_le hk.2.1 hsz, hk.2.2.1, by
      rcases hat with e | e
      · rw [e]; exact hk.2.2.2
      · rw [e]; intro e2; injection e2 with e3; have := hk.2.1; omega⟩)
      (fun k hk => (Below.heap_setCell _ _ _ _ hk.2.2.1).trans (hg.block k hk.2.1 (Ne.symm hk.2.2.2)))
  refine ⟨(h.below.trans ((h.grown hg).mono (by have := h.lo; omega))).setCell (p := ⟨b, 3, none⟩) h.lo _, ?_, fun y hy => ?_, heap_setCell_same W' b 3 _ _ v' (h.boxed hg), h.lo⟩
  · rw [List.flatMap_append, List.length_append]
    exact ownsRow_setCell_below (by simpa using ho) (a := ⟨b, 3, none⟩) (Nat.lt_succ_self b) v'
  · rcases List.mem_append.1 hy with hy | hy
    · exact hk y (h.kids y hy)
    · obtain rfl := List.mem_singleton.1 hy
      exact hk y hx
theorem RS.last {w W : World} {b : Nat} {t : Go.Tm.T} {v : Value} {xs : List (Go.Tm.T × Option Addr × Nat)} (h : RS w W b t v xs) (hn : t.name.size ≤ 9223372036854775807) (hxs : xs.map (·.1) = t.kids) : ∃ A c, v = .slice A t.kids.length c ∧ TmV W (fun k => b < k ∧ k < W.heap.size) t A c := by
  have hl : xs.length = t.kids.length := by rw [← hxs, List.length_map]
  obtain ⟨h1, ⟨rfl, h2⟩ | ⟨g, cap, cur, rfl, hb, hg, r1, r2, r3, r4⟩⟩ := h.own
  · rw [← hl, h2]
    exact ⟨none, 0, rfl, hn, .inl (List.eq_nil_of_length_eq_zero (by rw [← hl, h2]))⟩
  · rw [← hl]
    refine ⟨_, _, rfl, hn, .inr ⟨g, 0, rfl, ?_⟩⟩
    have hr := row_new (W := W) (p := fun k => b < k ∧ k < W.heap.size) (b := g) ⟨by omega, World.lt_of_get hg⟩ xs 0 (fun x hx => (h.kids x hx).kept (fun k hk => ⟨hk.1, hk.2.1⟩) (fun _ _ => rfl)) (fun i u hu => by
      rw [Nat.zero_add, cell_of_row W g i _ _ _ hg]
      have h3 : (cur.toList.take (xs.length * 4))[i]? = some u := by rw [r4]; exact hu
      have h4 : i < (cur.toList.take (xs.length * 4)).length := (List.getElem?_eq_some_iff.1 h3).1
      rw [List.getElem?_take_of_lt (by rw [List.length_take] at h4; omega), Array.getElem?_toList] at h3
      exact h3)
    rw [hxs] at hr
    exact hr
end Go.Proofs.YtmomdehilfnpcaaDoor
