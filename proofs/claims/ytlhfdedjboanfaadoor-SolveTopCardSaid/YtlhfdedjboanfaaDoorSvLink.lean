/-
  A way put in: a row grown, and its slice put into the row of rows. Condition: the rise lies as it should.
-/
import Derived.Test.YtlhfdedjboanfaaDoorSvNew
import Derived.Test.YtlhfdedjboanfaaDoorSvLay
namespace Go.Proofs.YtlhfdedjboanfaaDoor
open Go.RowKit Go.Shelf Go.At Go.Sv

/-- an append to what is owned, at a step of a region that draws its order; where the row then lies -/
theorem step_append_hat {P : Program} {ops : Array Oper} {o : Oper} {a : Act} {w : World} {K : Act → World → Prop} {Q : Exit → Act → World → Prop} {E : Prop}
    (hg : o.guard = none) (s x : Operand) (t : TypeId) (hop : o.op = Op.call { callee := Callee.builtin Builtin.append, args := #[s, x], argTypes := #[t, t] })
    (base : Nat) (e : TypeId) (i : TypeInfo) (z : Value) (size bytes : Nat) (h1 : P.underlying t = some (.slice e)) (h2 : P.info? e = some i) (h3 : i.zero = some z) (h4 : i.size = size) (h5 : i.bytes = bytes) (h6 : z.cells.size = size) (h7 : 0 < size)
    (v : Value) (n : Nat) (xs : List Value) (hs : a.eval s = v) (hown : w.ownsRow base e size v n xs)
    (ad : Addr) (m c : Nat) (news : List Value) (hx : a.eval x = .slice (some ad) m c) (hn : news.length = m * size) (hc : ∀ j u, news[j]? = some u → w.cell? (ad.add j) = some u) (h1c : ∀ u ∈ news, u.oneCell' = true)
    (b1 : n + m ≤ maxLen) (b2 : (n + m) * bytes ≤ 140737488355328) (hbase : base ≤ w.heap.size)
    (hK : ∀ v' w', w'.ownsRow base e size v' (n + m) (xs ++ news) → w.grownBy w' v.ownBlock → (v'.ownBlock = v.ownBlock ∨ v'.ownBlock = some w.heap.size) → K (a.put o.dst v') w') :
    if Region.wanted o (yielded ops a.tmps) = true then Oper.wp P o a w K Q else E := by
  have hw : Region.wanted o (yielded ops a.tmps) = true := by simp [Region.wanted, hg]
  rw [if_pos hw]
  obtain ⟨v', w', hrun, r1, r2, _, r5⟩ := run_append_own_at (P := P) w base t o.type e i z size bytes h1 h2 h3 h4 h5 h6 h7 v n xs hown ad m c news hn hc h1c b1 b2 hbase
  unfold Oper.wp
  simp [execOp, hop, resolve, invoke, builtin, hs, hx, hrun, Result.andThen]
  exact hK v' w' r1 r2 r5
section
variable {W W' W1 : World} {base q n : Nat} {va : Nat → Value} {s : St}
theorem RiseAt.link {a b gO cO : Nat} {v' : Value} (h : RiseAt W base q n va s) (ha : a < n) (eO : va 1 = .slice (some ⟨gO, 0, none⟩) n cO) (hb : Below W.heap.size W W1) (ho : W'.ownsRow base 3 1 v' (s.O a ++ [b]).length (intL (s.O a ++ [b]))) (hg : W1.grownBy W' (va (a + 5)).ownBlock)
    (hat : v'.ownBlock = (va (a + 5)).ownBlock ∨ ∃ z, v'.ownBlock = some z ∧ W.heap.size ≤ z) :
    RiseAt (W'.setCell ⟨gO, a, none⟩ v') base q n (upd va (a + 5) v') (Go.Sv.linked s a b) ∧ W'.cell? ⟨gO, a, none⟩ = some (va (a + 5)) ∧ W'.frozen? ⟨gO, a, none⟩ = false ∧ W'.cell? ⟨q, 1, none⟩ = some (va 1) := by
  have hbk := h.bank.grow (k := a + 5) (by omega) hb ho hg hat
  have hq : W'.heap[q]? = some (.cells #[va 0, va 1, va 2, va 3, va 4] 77 (0, 0)) :=
    ((hg.block q (Nat.lt_of_lt_of_le h.bank.qlt hb.size) (fun e => h.bank.out (a + 5) (by omega) e.symm)).trans (hb.block q h.bank.qlt)).trans h.box
  have eO2 : upd va (a + 5) v' 1 = .slice (some ⟨gO, 0, none⟩) (upd (rLe n s) (a + 5) (s.O a ++ [b]).length 1) cO := by
    rw [upd_other _ _ (by omega), upd_other _ _ (by omega)]; exact eO
  have hcell := hbk.cellOf (k := 1) (i := a) (by omega) eO2 (by rw [upd_other _ _ (by omega)]; exact rowV_get ha _ _) (by rw [upd_other _ _ (by omega)]; show 0 < n; omega)
  have hgq : gO ≠ q := fun e => h.bank.out 1 (by omega) (by rw [eO, ← e]; rfl)
  refine ⟨⟨(hbk.set (k := 1) (by omega) eO2 a v').cong (fun j _ => ?_) (fun j _ => ?_), (Below.heap_setCell _ _ _ _ hgq.symm).trans ?_, h.r64⟩, hcell.1, hcell.2, cell_of_row _ _ 1 _ _ _ hq⟩
  · match j with
    | 0 | 1 | 2 | 3 | 4 => rfl
    | j + 5 =>
      show (upd s.O a (s.O a ++ [b]) j).length = upd (rLe n s) (a + 5) _ (j + 5)
      by_cases e : j = a
      · subst e; rw [upd_same, upd_same]
      · rw [upd_other _ _ e, upd_other _ _ (by omega)]; rfl
  · match j with
    | 1 =>
      rw [upd_same, upd_other _ _ (by omega)]
      refine Eq.trans ?_ (rowV_set n a (fun i => va (i + 5)) id v').symm
      show rowV n (fun i => upd va (a + 5) v' (i + 5)) id = _
      congr 1
      funext i
      unfold upd
      by_cases e : i = a
      · subst e; rw [if_pos rfl, if_pos rfl]
      · rw [if_neg e, if_neg (by omega)]
    | 0 | 2 | 3 | 4 => rfl
    | j + 5 =>
      show intL (upd s.O a (s.O a ++ [b]) j) = upd (upd (rXs n va s) (a + 5) _) 1 _ (j + 5)
      rw [upd_other _ _ (show j + 5 ≠ 1 by omega)]
      by_cases e : j = a
      · subst e; rw [upd_same, upd_same]
      · rw [upd_other _ _ e, upd_other _ _ (by omega)]; rfl
  · rw [hq]
    rfl
theorem vars_i64 {l : List Pr} (h6 : ∀ p ∈ l, I64 p.1 ∧ I64 p.2) {k : Nat} (hk : k < (varsL l).length) : I64 ((varsL l).getD k 0) := by
  have h1 : (varsL l).getD k 0 ∈ varsL l := by rw [getD_get hk]; exact List.getElem_mem _
  obtain ⟨p, hp, e⟩ := (atoms_mem l _).1 ((vars_mem l _).1 h1).1
  rcases e with e | e
  · rw [e]; exact (h6 p hp).1
  · rw [e]; exact (h6 p hp).2
/-- a map's block is none of the rise's -/
theorem RiseAt.not_map {mb N : Nat} {f : Int → Option Int} (h : RiseAt W base q n va s) (hm : IMap W mb N f) : mb ≠ q ∧ ∀ j, j < n + 5 → (va j).ownBlock ≠ some mb := by
  obtain ⟨k, D, ⟨es, cl, h1, _⟩, _⟩ := hm
  refine ⟨fun e => ?_, fun j hj e => ?_⟩
  · subst e
    rw [h.box] at h1
    cases h1
  · obtain ⟨_, ⟨h2, _⟩ | ⟨g, cap, cur, h2, _, h3, _⟩⟩ := h.bank.own j hj
    · rw [h2] at e; cases e
    · rw [h2] at e
      injection e with e
      subst e
      rw [h3] at h1
      cases h1
theorem RiseAt.mapped {mb N : Nat} {f : Int → Option Int} (h : RiseAt W base q n va s) (hm : IMap W mb N f) (hg : W.grownBy W' (some mb)) : RiseAt W' base q n va s := by
  obtain ⟨n1, n2⟩ := h.not_map hm
  refine ⟨h.bank.same hg.size fun k hk g hgk => hg.block g (own_at (h.bank.own k hk) hgk).2 fun e => n2 k hk (by rw [hgk]; exact e), (hg.block q h.bank.qlt fun e => n1 ?_).trans h.box, h.r64⟩
  injection e with e
  exact e.symm
theorem IMap.kept {mb N : Nat} {f : Int → Option Int} (hm : IMap W mb N f) (h : RiseAt W base q n va s) (hk : Kept q n va W W') : IMap W' mb N f :=
  hm.same (hk mb hm.lt (h.not_map hm).1 (h.not_map hm).2)
end
end Go.Proofs.YtlhfdedjboanfaaDoor
