/-
  The walk of below: by a list of the places that are left. Condition: the term can be read, and has at most 8388608 terms.
-/
import Derived.Test.YthmchdpinobbgaaGreatDoorTmRun
namespace Go.Proofs.YthmchdpinobbgaaGreatDoor
open Go.RowKit Go.Shelf Go.Tm
attribute [local go_sem] Oper.semAt_some

theorem wide1 (n : Nat) : Fence.wide.depth.isSome = true → 1 ≤ n := fun h => by simp [Fence.wide] at h
def plC (e : Pl) : List Value := [.pointer (some ⟨e.blk, e.off, none⟩), .int .i64 e.kid, .int .i64 e.depth]
def cellsP (st : List Pl) : List Value := st.flatMap plC
theorem cellsP_len (st : List Pl) : (cellsP st).length = st.length * 3 := by
  induction st with
  | nil => rfl
  | cons e st ih =>
    show (plC e ++ cellsP st).length = _
    rw [List.length_append, ih]; simp [plC]; omega
theorem cellsP_snoc (st : List Pl) (e : Pl) : cellsP (st ++ [e]) = cellsP st ++ plC e := by simp [cellsP]
theorem info_place : (Tryz.prog.info? 60).map (fun i => (i.zero, i.size, i.bytes)) = some (some (.agg #[.pointer none, .int .i64 0, .int .i64 0]), 3, 24) := by kernel_rfl

theorem Run.node {J : List Pl → List Nat → World → Prop} {n₀ : Nat} {T0 T : List Nat} {W0 W : World} {pre : List Pl} (h : Run J n₀ T0 W0 pre T W) {b o : Nat} {t : Go.Tm.T} (hn : NodeAt W0 (PT n₀ T0 W0) b o t) : NodeAt W (PT n₀ T0 W) b o t :=
  NodeAt.kept (fun k hk => hk.imp id fun hk => ⟨hk.1, hk.2.same (h.keep k hk.1)⟩) (fun k hk => hk.elim (fun hk => h.below.block k hk) (fun hk => h.keep k hk.1)) hn
theorem Run.cell {J : List Pl → List Nat → World → Prop} {n₀ : Nat} {T0 T : List Nat} {W0 W : World} {pre : List Pl} (h : Run J n₀ T0 W0 pre T W) {b : Nat} (hb : PT n₀ T0 W0 b) (i : Nat) : W.cell? ⟨b, i, none⟩ = W0.cell? ⟨b, i, none⟩ :=
  World.cell?_of_block (a := ⟨b, i, none⟩) (hb.elim (fun hk => h.below.block b hk) (fun hk => h.keep b hk.1))
theorem kids_le (t : T) : t.kids.length ≤ t.size := by
  have : ∀ ks : List T, ks.length ≤ sizes ks := fun ks => by
    induction ks with
    | nil => simp [sizes]
    | cons a ks ih => rw [sizes, List.length_cons]; have := size_pos a; omega
  have := this t.kids
  rw [size_eq]; omega

structure BI (J : List Pl → List Nat → World → Prop) (n₀ : Nat) (T : List Nat) (W : World) (pre : List Pl) (x : Pl) (st xs : List Pl) (T' : List Nat) (gb cap : Nat) (wr : World) : Prop where
  run : Run J n₀ T W (pre ++ xs) T' wr
  own : wr.ownsRow (W.heap.size + 1) 60 3 (.slice (some ⟨gb, 0, none⟩) st.length cap) st.length (cellsP st)
  gT : gb ∈ T'
  gn : W.heap.size + 1 ≤ gb
  fst : wr.heap[W.heap.size]? = some (.cells #[.pointer (some ⟨x.blk, x.off, none⟩), .int .i64 x.kid, .int .i64 x.depth] 60 (0, 0))
  fT : W.heap.size ∈ T'
  ys : walk x.par x.kid x.depth x.t = xs.map Pl.p3 ++ pends x.depth st
  ok : ∀ e, e ∈ st → NodeAt W (PT n₀ T W) e.blk e.off e.par ∧ e.kid < e.par.kids.length ∧ x.depth ≤ e.depth ∧ e.depth + e.par.size ≤ 8388608

theorem pends_le (d0 : Nat) : ∀ st : List Pl, st.length ≤ (pends d0 st).length
  | [] => Nat.zero_le _
  | e :: st => by
    have := pends_le d0 st
    rw [pends, List.length_append, pend_eq, List.length_cons, List.length_cons]
    omega
theorem BI.len {J : List Pl → List Nat → World → Prop} {n₀ : Nat} {T : List Nat} {W : World} {pre : List Pl} {x : Pl} {st xs : List Pl} {T' : List Nat} {gb cap : Nat} {wr : World} (h : BI J n₀ T W pre x st xs T' gb cap wr) (hsz : x.depth + x.t.size ≤ 8388608) : st.length ≤ 8388608 := by
  have h1 := pends_le x.depth st
  have h2 := congrArg List.length h.ys
  rw [walk_len, List.length_append] at h2
  omega
theorem own_get {W : World} {base gb n cap : Nat} {st : List Pl} {e : Pl} (h : W.ownsRow base 60 3 (.slice (some ⟨gb, 0, none⟩) n cap) (st ++ [e]).length (cellsP (st ++ [e]))) :
    W.cell? ⟨gb, st.length * 3, none⟩ = some (.pointer (some ⟨e.blk, e.off, none⟩)) ∧ W.cell? ⟨gb, st.length * 3 + 1, none⟩ = some (.int .i64 e.kid) ∧ W.cell? ⟨gb, st.length * 3 + 2, none⟩ = some (.int .i64 e.depth) := by
  have hc := h.cells (g := gb) rfl
  have hadd : ∀ j, (⟨gb, 0, none⟩ : Addr).add j = ⟨gb, j, none⟩ := fun j => by unfold Addr.add; split <;> simp_all
  have hg : ∀ i v, (plC e)[i]? = some v → W.cell? ⟨gb, st.length * 3 + i, none⟩ = some v := fun i v hv => by
    have := hc (st.length * 3 + i) v (by rw [cellsP_snoc, List.getElem?_append_right (by rw [cellsP_len]; omega), cellsP_len, Nat.add_sub_cancel_left]; exact hv)
    rwa [hadd] at this
  exact ⟨hg 0 _ rfl, hg 1 _ rfl, hg 2 _ rfl⟩
theorem own_lt {W : World} {base gb n m cap : Nat} {e : TypeId} {size : Nat} {xs : List Value} (h : W.ownsRow base e size (.slice (some ⟨gb, 0, none⟩) n cap) m xs) : gb < W.heap.size := by
  obtain ⟨_, h2 | ⟨g, cp, cur, hv, hbg, hg, _⟩⟩ := h
  · obtain ⟨h2, _⟩ := h2; cases h2
  · cases hv; exact (Array.getElem?_eq_some_iff.1 hg).1
theorem own_kept {W W1 W2 : World} {base gb n m cap : Nat} {e : TypeId} {size : Nat} {xs : List Value} (h : W.ownsRow base e size (.slice (some ⟨gb, 0, none⟩) n cap) m xs) (h2 : W2.heap[gb]? = W1.heap[gb]?) (h1 : W1.heap[gb]? = W.heap[gb]?) : W2.ownsRow base e size (.slice (some ⟨gb, 0, none⟩) n cap) m xs := by
  obtain ⟨g0, g1 | ⟨g, cp, cur, hv, hbg, hg, r⟩⟩ := h
  · obtain ⟨g1, _⟩ := g1; cases g1
  · cases hv; exact ⟨g0, .inr ⟨_, _, cur, rfl, hbg, (h2.trans h1).trans hg, r⟩⟩
theorem _root_.Go.World.lt_of_get {W : World} {k : Nat} {o : Obj} (h : W.heap[k]? = some o) : k < W.heap.size := (Array.getElem?_eq_some_iff.1 h).1
theorem own_pop {W : World} {base gb n cap : Nat} {st : List Pl} {e : Pl} (h : W.ownsRow base 60 3 (.slice (some ⟨gb, 0, none⟩) n cap) (st ++ [e]).length (cellsP (st ++ [e]))) :
    W.ownsRow base 60 3 (.slice (some ⟨gb, 0, none⟩) st.length cap) st.length (cellsP st) := by
  obtain ⟨h1, h2 | ⟨g, cp, cur, hv, hbg, hg, r1, r2, r3, r4⟩⟩ := h
  · obtain ⟨h2, _⟩ := h2; cases h2
  · cases hv
    refine ⟨cellsP_len st, .inr ⟨_, _, cur, rfl, hbg, hg, ?_, r2, r3, ?_⟩⟩
    · rw [List.length_append] at r1; simp at r1; omega
    · have := congrArg (List.take (st.length * 3)) r4
      rw [List.take_take, cellsP_snoc, List.take_left' (cellsP_len st)] at this
      rw [← this]
      congr 1
      rw [List.length_append, List.length_singleton]; omega

/-- behind the round of e: what is known while its followers are put on the list -/
structure MI (J : List Pl → List Nat → World → Prop) (n₀ : Nat) (T : List Nat) (W : World) (pre : List Pl) (x e : Pl) (Bp : Nat) (st xs : List Pl) (T' : List Nat) (gb cap : Nat) (wr : World) : Prop where
  run : Run J n₀ T W (pre ++ xs) T' wr
  own : wr.ownsRow (W.heap.size + 1) 60 3 (.slice (some ⟨gb, 0, none⟩) st.length cap) st.length (cellsP st)
  gT : gb ∈ T'
  gn : W.heap.size + 1 ≤ gb
  fst : wr.heap[W.heap.size]? = some (.cells #[.pointer (some ⟨x.blk, x.off, none⟩), .int .i64 x.kid, .int .i64 x.depth] 60 (0, 0))
  fT : W.heap.size ∈ T'
  bp : wr.heap[Bp]? = some (.cells #[.pointer (some ⟨e.blk, e.off, none⟩), .int .i64 e.kid, .int .i64 e.depth] 60 (0, 0))
  bne : gb ≠ Bp
  hT : ∀ k, k ∈ T → k < W.heap.size
  n0 : n₀ ≤ W.heap.size
section
variable {J : List Pl → List Nat → World → Prop} {n₀ : Nat} {T : List Nat} {W : World} {pre : List Pl} {x e : Pl} {Bp : Nat} {st xs : List Pl} {T' : List Nat} {gb cap : Nat} {wr : World}
theorem MI.later (hJ : ∀ pre T T' W W', J pre T W → ItStep T T' W W' → J pre T' W') (h : MI J n₀ T W pre x e Bp st xs T' gb cap wr) {w' : World} (hb : Below wr.heap.size wr w') : MI J n₀ T W pre x e Bp st xs T' gb cap w' :=
  ⟨h.run.later hJ hb, own_kept h.own (W1 := wr) (hb.block gb (own_lt h.own)) rfl, h.gT, h.gn, (hb.block _ (World.lt_of_get h.fst)).trans h.fst, h.fT, (hb.block _ (World.lt_of_get h.bp)).trans h.bp, h.bne, h.hT, h.n0⟩
theorem MI.push (hJ : ∀ pre T T' W W', J pre T W → ItStep T T' W W' → J pre T' W') (h : MI J n₀ T W pre x e Bp st xs T' gb cap wr) (y : Pl) {v' : Value} {w' : World} {news : List Value} (hy : plC y = news) {n : Nat} (hnl : n = st.length)
    (hown' : w'.ownsRow (W.heap.size + 1) 60 3 v' (n + 1) (cellsP st ++ news)) (hgrow : wr.grownBy w' (Value.ownBlock (.slice (some ⟨gb, 0, none⟩) n cap))) (hat : v'.ownBlock = Value.ownBlock (.slice (some ⟨gb, 0, none⟩) n cap) ∨ v'.ownBlock = some wr.heap.size) :
    ∃ gb' cap', v' = .slice (some ⟨gb', 0, none⟩) (n + 1) cap' ∧ MI J n₀ T W pre x e Bp (st ++ [y]) xs (gb' :: T') gb' cap' w' := by
  subst hy hnl
  have hown2 := hown'
  obtain ⟨g0, g1 | ⟨g, cp, cur, hv, hbg, hg, r⟩⟩ := hown'
  · exact absurd g1.2 (by omega)
  · subst hv
    have hgn := h.gn
    have hbp := World.lt_of_get h.bp
    have hf := World.lt_of_get h.fst
    have hgg : g = gb ∨ g = wr.heap.size := by simpa [Value.ownBlock] using hat
    have hgT : g ∈ T' ∨ g = wr.heap.size := by
      rcases hgg with e1 | e1
      · exact .inl (by rw [e1]; exact h.gT)
      · exact .inr e1
    have hlen : (st ++ [y]).length = st.length + 1 := by simp
    refine ⟨g, cp, rfl, ⟨h.run.grown hJ hgrow (fun r er => ?_) (fun r er => ?_) hgT (World.lt_of_get hg), by rw [hlen, cellsP_snoc]; exact hown2, List.mem_cons_self .., hbg, ?_, List.mem_cons_of_mem _ h.fT, ?_, ?_, h.hT, h.n0⟩⟩
    · obtain rfl : gb = r := by simpa [Value.ownBlock] using er
      refine ⟨h.gT, fun hk => ?_, ?_⟩
      · have := h.hT _ hk; omega
      · have := h.n0; omega
    · obtain rfl : gb = r := by simpa [Value.ownBlock] using er
      obtain ⟨_, q1 | ⟨q, _, _, qv, _, qg, _⟩⟩ := h.own
      · obtain ⟨q1, _⟩ := q1; cases q1
      · cases qv
        rintro ⟨cs, f, hc⟩
        rw [qg] at hc; cases hc
    · exact (hgrow.block _ hf (by simp [Value.ownBlock]; omega)).trans h.fst
    · exact (hgrow.block _ hbp (by simp [Value.ownBlock]; exact fun e => h.bne e.symm)).trans h.bp
    · rcases hgg with rfl | rfl
      · exact h.bne
      · omega
end
theorem ys_next {ys : List P3} {d0 : Nat} {s' xs st2 : List Pl} {e : Pl} (h : ys = xs.map Pl.p3 ++ pends d0 (s' ++ [e])) (h2 : pends d0 st2 = walks e.t 0 (e.depth + 1) e.t.kids ++ (sibs d0 e ++ pends d0 s')) :
    ys = (xs ++ [e]).map Pl.p3 ++ pends d0 st2 ∧ (pends d0 st2).length < (pends d0 (s' ++ [e])).length := by
  have e1 : pends d0 (s' ++ [e]) = e.p3 :: pends d0 st2 := by
    rw [pends_snoc, pend_eq, h2]; simp
  rw [e1] at h ⊢
  refine ⟨by rw [h]; simp, by simp⟩
/-- the round of e is one of the whole's -/
theorem round_pre {L ys : List P3} {d0 : Nat} {s' xs pre : List Pl} {e : Pl} (h : pre.map Pl.p3 ++ ys <+: L) (hy : ys = xs.map Pl.p3 ++ pends d0 (s' ++ [e])) : ((pre ++ xs) ++ [e]).map Pl.p3 <+: L := by
  refine List.IsPrefix.trans ?_ h
  rw [hy, pends_snoc, pend_eq]
  exact ⟨walks e.t 0 (e.depth + 1) e.t.kids ++ sibs d0 e ++ pends d0 s', by simp⟩
theorem sib_pend {d0 : Nat} {e : Pl} (hd : d0 < e.depth) (hs : e.kid + 1 < e.par.kids.length) : pend d0 ⟨e.blk, e.off, e.par, e.kid + 1, e.depth⟩ = sibs d0 e := by
  rw [pend_deep (e := ⟨e.blk, e.off, e.par, e.kid + 1, e.depth⟩) hd hs]
  unfold sibs
  rw [if_pos hd]
theorem sib_none {d0 : Nat} {e : Pl} (h : ¬ (d0 < e.depth ∧ e.kid + 1 < e.par.kids.length)) : sibs d0 e = [] := by
  unfold sibs
  by_cases hd : d0 < e.depth
  · rw [if_pos hd, List.drop_eq_nil_of_le (by omega), walks]
  · rw [if_neg hd]
theorem child_pend {d0 : Nat} {e : Pl} (b o : Nat) (hd : d0 ≤ e.depth) (hs : 0 < e.t.kids.length) : pend d0 ⟨b, o, e.t, 0, e.depth + 1⟩ = walks e.t 0 (e.depth + 1) e.t.kids := by
  rw [pend_deep (e := ⟨b, o, e.t, 0, e.depth + 1⟩) (by show d0 < e.depth + 1; omega) hs, List.drop_zero]
theorem walks_none {t : Go.Tm.T} {d : Nat} {ks : List Go.Tm.T} (h : ¬ 0 < ks.length) : walks t 0 d ks = [] := by
  have h2 : ks = [] := List.eq_nil_of_length_eq_zero (by omega)
  rw [h2, walks]
theorem under_zero (blk off kid d len kb ko c : Nat) (w : World) (h3 : w.cell? ⟨blk, off + 3, none⟩ = some (.slice (some ⟨kb, ko, none⟩) len c)) (hk : kid < len) (hd : d ≤ 4294967296) :
    Calls Tryz.prog 45 #[.agg #[.pointer (some ⟨blk, off, none⟩), .int .i64 kid, .int .i64 d], .int .i64 0] w fun e w' => e = .returned (.agg #[.pointer (some ⟨kb, ko + kid * 4, none⟩), .int .i64 0, .int .i64 ((d : Int) + 1)]) ∧ Below w.heap.size w w' :=
  under_any blk off kid d len kb ko c 0 w h3 hk hd
theorem cells_new3 (W : World) (a b c : Value) (t : TypeId) : ∀ (j : Nat) (u : Value), [a, b, c][j]? = some u → (W.alloc (.cells #[a, b, c] t)).cell? ((⟨W.heap.size, 0, none⟩ : Addr).add j) = some u := by
  intro j u hu
  have hadd : (⟨W.heap.size, 0, none⟩ : Addr).add j = ⟨W.heap.size, j, none⟩ := by unfold Addr.add; split <;> simp_all
  rw [hadd, cell_of_row _ W.heap.size j _ _ _ (World.alloc_heap_new W _)]
  simpa using hu
theorem one3 (x : Option Addr) (a b : Int) : ∀ u ∈ [Value.pointer x, .int .i64 a, .int .i64 b], u.oneCell' = true := by
  intro u hu
  simp at hu
  rcases hu with rfl | rfl | rfl <;> rfl

set_option maxRecDepth 100000 in
set_option maxHeartbeats 4000000 in
theorem below_in (n l n₀ : Nat) (L : List P3) (J : List Pl → List Nat → World → Prop) (Jx : List Pl → World → Prop) (hJ : ∀ pre T T' W W', J pre T W → ItStep T T' W W' → J pre T' W') (hY : Rounds Tryz.prog l n₀ L J Jx)
    (x : Pl) (pre : List Pl) (T : List Nat) (W : World) (hn : n₀ ≤ W.heap.size) (hj : J pre T W) (hlt : ∀ k, k ∈ T → k < W.heap.size) (hx : NodeAt W (PT n₀ T W) x.blk x.off x.par) (hk : x.kid < x.par.kids.length) (hsz : x.depth + x.par.size ≤ 8388608) (hS : pre.map Pl.p3 ++ walk x.par x.kid x.depth x.t <+: L) :
    CallsIn Fence.wide n Tryz.prog 44 #[plV x, .func (.yield l) #[] #[]] W (Went J Jx n₀ T W pre (walk x.par x.kid x.depth x.t)) := by
  obtain ⟨i0, hi, hi2⟩ := Option.map_eq_some_iff.1 info_place
  obtain ⟨hz0, hz1, hz2⟩ : i0.zero = some (.agg #[.pointer none, .int .i64 0, .int .i64 0]) ∧ i0.size = 3 ∧ i0.bytes = 24 := by
    injection hi2 with h1 h2; injection h2 with h2 h3; exact ⟨h1, h2, h3⟩
  replace hi := Lib.hid hi
  replace hz0 := Lib.hid hz0
  replace hz1 := Lib.hid hz1
  replace hz2 := Lib.hid hz2
  clear hi2
  have hB0 : Hid (BI J n₀ T W pre x [x] [] ((W.heap.size + 1) :: W.heap.size :: T) (W.heap.size + 1) 1 ((W.alloc (.cells #[.pointer (some ⟨x.blk, x.off, none⟩), .int .i64 x.kid, .int .i64 x.depth] 60)).alloc (.cells #[.pointer (some ⟨x.blk, x.off, none⟩), .int .i64 x.kid, .int .i64 x.depth] 60))) := by
    have r0 : Run J n₀ T W pre T W := Run.start hj hlt hn
    have r1 := (r0.alloc hJ (.cells #[.pointer (some ⟨x.blk, x.off, none⟩), .int .i64 x.kid, .int .i64 x.depth] 60)).alloc hJ (.cells #[.pointer (some ⟨x.blk, x.off, none⟩), .int .i64 x.kid, .int .i64 x.depth] 60)
    rw [World.size_alloc] at r1
    have hn2 := World.alloc_heap_new (W.alloc (.cells #[.pointer (some ⟨x.blk, x.off, none⟩), .int .i64 x.kid, .int .i64 x.depth] 60)) (.cells #[.pointer (some ⟨x.blk, x.off, none⟩), .int .i64 x.kid, .int .i64 x.depth] 60)
    rw [World.size_alloc] at hn2
    refine ⟨by rw [List.append_nil]; exact r1, ⟨rfl, .inr ⟨_, _, _, rfl, Nat.le_refl _, hn2, Nat.le_refl _, by decide, rfl, rfl⟩⟩, by simp, Nat.le_refl _, ?_, by simp, ?_, ?_⟩
    · exact (Below.heap_alloc _ _ _ (by simp)).trans (World.alloc_heap_new W _)
    · rw [List.map_nil, List.nil_append, pends, pends, List.nil_append]
      unfold pend sibs
      rw [if_neg (Nat.lt_irrefl _), List.append_nil]
    · intro e he
      obtain rfl := List.mem_singleton.1 he
      exact ⟨hx, hk, Nat.le_refl _, hsz⟩
  refine callsIn_of_wp Tryz.func44 rfl trivial ?_ rfl
  simp only [Tryz.ntmps44, List.size_toArray, List.length_cons, List.length_nil, Nat.reduceAdd, Nat.reduceSub, Array.replicate_succ, Array.replicate_zero, List.push_toArray, List.append_toArray, List.nil_append, List.cons_append, plV]
  have hsx : x.depth + x.t.size ≤ 8388608 := by have := kid_small x.par x.kid hk; show x.depth + (x.par.kids.getD x.kid default).size ≤ _; omega
  clear hj hx hk
  replace hlt := Lib.hid hlt
  replace hS := Lib.hid hS
  gi_wp2
  gi_loopg [5] ((pends x.depth [x]).length) (fun g v wr => ∃ (st xs : List Pl) (T' : List Nat) (gb cap : Nat), g = (pends x.depth st).length ∧ v = .slice (some ⟨gb, 0, none⟩) st.length cap ∧ Hid (BI J n₀ T W pre x st xs T' gb cap wr))
  case atStart => exact ⟨[x], [], _, _, _, rfl, rfl, hB0⟩
  case round =>
    clear hB0
    obtain ⟨st, xs, T', gb, cap, rfl, rfl, hB⟩ := hrel
    rcases List.eq_nil_or_concat st with rfl | ⟨s', e, he⟩
    · gi_wp2
      go_ret
      exact .inl ⟨rfl, xs, T', by have := hB.out.ys; rw [pends, List.append_nil] at this; exact this.symm, hB.out.run⟩
    · rw [List.concat_eq_append] at he
      subst he
      have hlen : (s' ++ [e]).length = s'.length + 1 := by simp
      obtain ⟨c0, c1, c2⟩ := own_get hB.out.own
      obtain ⟨k1, k2, k3, k4⟩ := hB.out.ok e (by simp)
      have hr3 := Run.alloc hJ hB.out.run (.cells #[.pointer (some ⟨e.blk, e.off, none⟩), .int .i64 e.kid, .int .i64 e.depth] 60)
      have hok3 : PlIn n₀ e (wr.alloc (.cells #[.pointer (some ⟨e.blk, e.off, none⟩), .int .i64 e.kid, .int .i64 e.depth] 60)) := ⟨(hr3.node k1).wide (fun _ hb => hb.imp id And.right), k2⟩
      obtain ⟨fn, tmps, assign, body, hy, hR⟩ := hY (n - 1) (pre ++ xs) _ e _ hr3.j hok3 (round_pre hS.out hB.out.ys) hr3.lt
      simp only [plV] at hy
      have hq0 := World.alloc_heap_new wr (.cells #[.pointer (some ⟨e.blk, e.off, none⟩), .int .i64 e.kid, .int .i64 e.depth] 60)
      have hown3 := own_pop hB.out.own
      rw [hlen]
      have hcap : s'.length + 1 ≤ cap := by
        obtain ⟨_, h2 | ⟨g, cp, cur, hv, hbg, hg, r1, _⟩⟩ := hB.out.own
        · obtain ⟨h2, _⟩ := h2; cases h2
        · cases hv; rw [hlen] at r1; exact r1
      have hcap2 : s'.length ≤ cap := by omega
      have hsl : s'.length < 8388608 := by have := hB.out.len hsx; omega
      replace hlen := Lib.hid hlen
      replace k1 := Lib.hid k1
      replace hr3 := Lib.hid hr3
      replace hq0 := Lib.hid hq0
      replace hown3 := Lib.hid hown3
      clear hok3
      gi_wp2
      refine ⟨wide1 _, ?_⟩
      refine hR.mono ?_
      rintro e1 W4 (⟨rfl, hj4, hk4, hb4⟩ | ⟨rfl, hx4⟩)
      · have hr4 := Run.round hr3.out hj4 hk4 hb4
        have hpb := (hk4 wr.heap.size (by simp)).trans hq0.out
        have hfb := (hk4 W.heap.size (by simp [hB.out.fT])).trans ((Below.heap_alloc wr _ _ (World.lt_of_get hB.out.fst)).trans hB.out.fst)
        have p0 := cell_of_row W4 wr.heap.size 0 _ _ _ hpb
        have p1 := cell_of_row W4 wr.heap.size 1 _ _ _ hpb
        have p2 := cell_of_row W4 wr.heap.size 2 _ _ _ hpb
        have p3 := cell_of_row W4 W.heap.size 2 _ _ _ hfb
        obtain ⟨A, c, hh⟩ := k1.out.hdr
        obtain ⟨kb, ko, rfl, hkid⟩ := hh.row e.kid k2
        obtain ⟨A2, cc, hh2⟩ := hkid.hdr
        have p4 := (hr4.cell hh.at_ _).trans hh.kids
        have hown4 := own_kept hown3.out (hk4 gb (by simp [hB.out.gT])) (Below.heap_alloc wr _ _ (own_lt hB.out.own))
        replace hr4 := Lib.hid hr4
        replace hpb := Lib.hid hpb
        replace hfb := Lib.hid hfb
        replace hown4 := Lib.hid hown4
        replace hkid := Lib.hid hkid
        replace hh := Lib.hid hh
        replace hh2 := Lib.hid hh2
        have hkl : e.par.kids.length ≤ 8388608 := by have := kids_le e.par; omega
        have hkl2 : e.t.kids.length ≤ 8388608 := by
          have h1 := kids_le e.t
          have h2 : e.t.size < e.par.size := kid_small e.par e.kid k2
          omega
        have hM : MI J n₀ T W pre x e wr.heap.size s' (xs ++ [e]) (wr.heap.size :: T') gb cap W4 :=
          ⟨by rw [← List.append_assoc]; exact hr4.out, hown4.out, List.mem_cons_of_mem _ hB.out.gT, hB.out.gn, hfb.out, List.mem_cons_of_mem _ hB.out.fT, hpb.out, by have := own_lt hB.out.own; omega, hlt.out, hn⟩
        have hM1 : Hid (∀ nq, MI J n₀ T W pre x e wr.heap.size s' (xs ++ [e]) (wr.heap.size :: T') gb cap ((W4.drewN nq).alloc (.cells #[.pointer (some ⟨e.blk, e.off, none⟩), .int .i64 ((e.kid : Int) + 1), .int .i64 e.depth] 60))) := fun nq =>
          (hM.later hJ (belowN (Below.refl _ _) nq)).later hJ (later_alloc _ _)
        replace hM := Lib.hid hM
        clear c0 c1 c2 hy hR
        by_cases hd : x.depth < e.depth
        · by_cases hs : e.kid + 1 < e.par.kids.length
          · gi_wp2
            refine wpIn_round_quiet (by kernel_rfl) (by kernel_rfl) (by kernel_rfl) ?_
            repeat (gi_big_quiet_step (fail))
            refine wpQuietIn_nil ?_
            rintro _ ⟨nq, rfl⟩
            gi_wp2_with (gi_at_builtin; refine wpListIn_append_own_at _ rfl _ _ 65 rfl (W.heap.size + 1) 60 i0 (.agg #[.pointer none, .int .i64 0, .int .i64 0]) 3 24 Tryz.underlying65 hi.out hz0.out hz1.out hz2.out rfl (by decide) _ _ _ rfl (hM1.out nq).own ⟨W4.heap.size, 0, none⟩ 1 1 [.pointer (some ⟨e.blk, e.off, none⟩), .int .i64 ((e.kid : Int) + 1), .int .i64 e.depth] rfl rfl (cells_new3 (W4.drewN nq) _ _ _ _) (one3 _ _ _) (by unfold maxLen; omega) (by omega) (World.lt_of_get (hM1.out nq).fst) ?_; intro v5 w5 hown5 hgrow5 _ hat5; obtain ⟨gb5, cap5, rfl, hM5⟩ := MI.push hJ (hM1.out nq) ⟨e.blk, e.off, e.par, e.kid + 1, e.depth⟩ rfl rfl hown5 hgrow5 hat5; clear hown5 hgrow5 hat5; have b0 := cell_of_row w5 wr.heap.size 0 _ _ _ hM5.bp; have b1 := cell_of_row w5 wr.heap.size 1 _ _ _ hM5.bp; have b2 := cell_of_row w5 wr.heap.size 2 _ _ _ hM5.bp; replace hM5 := Lib.hid hM5)
            have hok2 : ∀ y, y ∈ s' ++ [(⟨e.blk, e.off, e.par, e.kid + 1, e.depth⟩ : Pl)] → NodeAt W (PT n₀ T W) y.blk y.off y.par ∧ y.kid < y.par.kids.length ∧ x.depth ≤ y.depth ∧ y.depth + y.par.size ≤ 8388608 := fun y hy => by
              rcases List.mem_append.1 hy with hy | hy
              · exact hB.out.ok y (List.mem_append_left _ hy)
              · obtain rfl := List.mem_singleton.1 hy
                exact ⟨k1.out, hs, k3, k4⟩
            refine ⟨trivial, wide1 _, ?_⟩
            refine (callsIn_wide.2 (term_any e.blk e.off e.kid e.depth e.par.kids.length kb ko c w5 ((hM5.out.run.cell hh.out.at_ _).trans hh.out.kids) k2)).mono ?_
            rintro e6 w6 ⟨rfl, hb6⟩
            have hM6 := MI.later hJ hM5.out hb6
            have p5 : w6.cell? ⟨kb, ko + e.kid * 4 + 3, none⟩ = some (.slice A2 e.t.kids.length cc) := (hM6.run.cell hh2.out.at_ _).trans hh2.out.kids
            have b0' := cell_of_row w6 wr.heap.size 0 _ _ _ hM6.bp
            have b1' := cell_of_row w6 wr.heap.size 1 _ _ _ hM6.bp
            have b2' := cell_of_row w6 wr.heap.size 2 _ _ _ hM6.bp
            replace hM6 := Lib.hid hM6
            replace hb6 := Lib.hid hb6
            have hst2 : (s' ++ [(⟨e.blk, e.off, e.par, e.kid + 1, e.depth⟩ : Pl)]).length ≤ 8388609 := by rw [List.length_append, List.length_singleton]; omega
            by_cases hz : 0 < e.t.kids.length
            · gi_wp2
              refine ⟨trivial, wide1 _, ?_⟩
              refine (callsIn_wide.2 (under_zero e.blk e.off e.kid e.depth e.par.kids.length kb ko c w6 ((hM6.out.run.cell hh.out.at_ _).trans hh.out.kids) k2 (by omega))).mono ?_
              rintro e7 w7 ⟨rfl, hb7⟩
              have hM7 := MI.later hJ hM6.out hb7
              have hM8 := Lib.hid (MI.later hJ hM7 (later_alloc w7 (.cells #[.pointer (some ⟨kb, ko + e.kid * 4, none⟩), .int .i64 0, .int .i64 ((e.depth : Int) + 1)] 60)))
              clear hb7 hM7
              have hln : (s' ++ [(⟨e.blk, e.off, e.par, e.kid + 1, e.depth⟩ : Pl)]).length = s'.length + 1 := by simp
              have hown8 := hM8.out.own
              rw [hln] at hown8
              replace hown8 := Lib.hid hown8
              replace hln := Lib.hid hln
              gi_wp2_with (gi_at_builtin; refine wpListIn_append_own_at _ rfl _ _ 65 rfl (W.heap.size + 1) 60 i0 (.agg #[.pointer none, .int .i64 0, .int .i64 0]) 3 24 Tryz.underlying65 hi.out hz0.out hz1.out hz2.out rfl (by decide) _ _ _ rfl hown8.out ⟨w7.heap.size, 0, none⟩ 1 1 [.pointer (some ⟨kb, ko + e.kid * 4, none⟩), .int .i64 0, .int .i64 ((e.depth : Int) + 1)] rfl rfl (cells_new3 w7 _ _ _ _) (one3 _ _ _) (by unfold maxLen; omega) (by omega) (World.lt_of_get hM8.out.fst) ?_; intro v9 w9 hown9 hgrow9 _ hat9; obtain ⟨gb9, cap9, rfl, hM9⟩ := MI.push hJ hM8.out ⟨kb, ko + e.kid * 4, e.t, 0, e.depth + 1⟩ rfl hln.out.symm hown9 hgrow9 hat9; clear hown9 hgrow9 hat9; replace hM9 := Lib.hid hM9)
              have hnx := ys_next (st2 := s' ++ [(⟨e.blk, e.off, e.par, e.kid + 1, e.depth⟩ : Pl)] ++ [⟨kb, ko + e.kid * 4, e.t, 0, e.depth + 1⟩]) hB.out.ys (by rw [pends_snoc, child_pend _ _ k3 hz, pends_snoc, sib_pend hd hs])
              gi_roundg ((pends x.depth (s' ++ [(⟨e.blk, e.off, e.par, e.kid + 1, e.depth⟩ : Pl)] ++ [⟨kb, ko + e.kid * 4, e.t, 0, e.depth + 1⟩])).length)
              case measure => exact hnx.2
              case rel =>
                refine ⟨_, _, _, _, _, rfl, by simp, ⟨hM9.out.run, hM9.out.own, hM9.out.gT, hM9.out.gn, hM9.out.fst, hM9.out.fT, hnx.1, fun y hy => ?_⟩⟩
                rcases List.mem_append.1 hy with hy | hy
                · exact hok2 y hy
                · obtain rfl := List.mem_singleton.1 hy
                  exact ⟨hkid.out, hz, by show x.depth ≤ e.depth + 1; omega, by have h2 : e.t.size < e.par.size := kid_small e.par e.kid k2; show e.depth + 1 + e.t.size ≤ _; omega⟩
            · have hnx := ys_next (st2 := s' ++ [(⟨e.blk, e.off, e.par, e.kid + 1, e.depth⟩ : Pl)]) hB.out.ys (by rw [walks_none hz, List.nil_append, pends_snoc, sib_pend hd hs])
              replace hnx := Lib.hid hnx
              have hz1 : e.t.kids.length = 0 := by omega
              rw [hz1] at p5
              clear hz
              replace hz1 := Lib.hid hz1
              gi_wp2
              gi_roundg ((pends x.depth (s' ++ [(⟨e.blk, e.off, e.par, e.kid + 1, e.depth⟩ : Pl)])).length)
              case measure => exact hnx.out.2
              case rel => exact ⟨_, _, _, _, _, rfl, by simp, ⟨hM6.out.run, hM6.out.own, hM6.out.gT, hM6.out.gn, hM6.out.fst, hM6.out.fT, hnx.out.1, hok2⟩⟩
          · have hns := sib_none (d0 := x.depth) (e := e) (fun h => hs h.2)
            have hs2 : decide ((e.kid : Int) + 1 < (e.par.kids.length : Int)) = false := decide_eq_false (by omega)
            replace hns := Lib.hid hns
            gi_wp2
            refine wpIn_round_quiet (by kernel_rfl) (by kernel_rfl) (by kernel_rfl) ?_
            repeat (gi_big_quiet_step (fail))
            refine wpQuietIn_nil ?_
            rintro _ ⟨nq, rfl⟩
            have hM5 := MI.later hJ hM.out (belowN (Below.refl _ _) nq)
            have b0 := cell_of_row (W4.drewN nq) wr.heap.size 0 _ _ _ hM5.bp
            have b1 := cell_of_row (W4.drewN nq) wr.heap.size 1 _ _ _ hM5.bp
            have b2 := cell_of_row (W4.drewN nq) wr.heap.size 2 _ _ _ hM5.bp
            replace hM5 := Lib.hid hM5
            gi_wp2
            have hok2 : ∀ y, y ∈ s' → NodeAt W (PT n₀ T W) y.blk y.off y.par ∧ y.kid < y.par.kids.length ∧ x.depth ≤ y.depth ∧ y.depth + y.par.size ≤ 8388608 := fun y hy => hB.out.ok y (List.mem_append_left _ hy)
            refine ⟨trivial, wide1 _, ?_⟩
            refine (callsIn_wide.2 (term_any e.blk e.off e.kid e.depth e.par.kids.length kb ko c _ ((hM5.out.run.cell hh.out.at_ _).trans hh.out.kids) k2)).mono ?_
            rintro e6 w6 ⟨rfl, hb6⟩
            have hM6 := MI.later hJ hM5.out hb6
            have p5 : w6.cell? ⟨kb, ko + e.kid * 4 + 3, none⟩ = some (.slice A2 e.t.kids.length cc) := (hM6.run.cell hh2.out.at_ _).trans hh2.out.kids
            have b0' := cell_of_row w6 wr.heap.size 0 _ _ _ hM6.bp
            have b1' := cell_of_row w6 wr.heap.size 1 _ _ _ hM6.bp
            have b2' := cell_of_row w6 wr.heap.size 2 _ _ _ hM6.bp
            replace hM6 := Lib.hid hM6
            replace hb6 := Lib.hid hb6
            have hst2 : (s').length ≤ 8388609 := by omega
            by_cases hz : 0 < e.t.kids.length
            · gi_wp2
              refine ⟨trivial, wide1 _, ?_⟩
              refine (callsIn_wide.2 (under_zero e.blk e.off e.kid e.depth e.par.kids.length kb ko c w6 ((hM6.out.run.cell hh.out.at_ _).trans hh.out.kids) k2 (by omega))).mono ?_
              rintro e7 w7 ⟨rfl, hb7⟩
              have hM7 := MI.later hJ hM6.out hb7
              have hM8 := Lib.hid (MI.later hJ hM7 (later_alloc w7 (.cells #[.pointer (some ⟨kb, ko + e.kid * 4, none⟩), .int .i64 0, .int .i64 ((e.depth : Int) + 1)] 60)))
              clear hb7 hM7
              have hown8 := hM8.out.own
              replace hown8 := Lib.hid hown8
              gi_wp2_with (gi_at_builtin; refine wpListIn_append_own_at _ rfl _ _ 65 rfl (W.heap.size + 1) 60 i0 (.agg #[.pointer none, .int .i64 0, .int .i64 0]) 3 24 Tryz.underlying65 hi.out hz0.out hz1.out hz2.out rfl (by decide) _ _ _ rfl hown8.out ⟨w7.heap.size, 0, none⟩ 1 1 [.pointer (some ⟨kb, ko + e.kid * 4, none⟩), .int .i64 0, .int .i64 ((e.depth : Int) + 1)] rfl rfl (cells_new3 w7 _ _ _ _) (one3 _ _ _) (by unfold maxLen; omega) (by omega) (World.lt_of_get hM8.out.fst) ?_; intro v9 w9 hown9 hgrow9 _ hat9; obtain ⟨gb9, cap9, rfl, hM9⟩ := MI.push hJ hM8.out ⟨kb, ko + e.kid * 4, e.t, 0, e.depth + 1⟩ rfl rfl hown9 hgrow9 hat9; clear hown9 hgrow9 hat9; replace hM9 := Lib.hid hM9)
              have hnx := ys_next (st2 := s' ++ [⟨kb, ko + e.kid * 4, e.t, 0, e.depth + 1⟩]) hB.out.ys (by rw [pends_snoc, child_pend _ _ k3 hz, hns.out, List.nil_append])
              gi_roundg ((pends x.depth (s' ++ [⟨kb, ko + e.kid * 4, e.t, 0, e.depth + 1⟩])).length)
              case measure => exact hnx.2
              case rel =>
                refine ⟨_, _, _, _, _, rfl, by simp, ⟨hM9.out.run, hM9.out.own, hM9.out.gT, hM9.out.gn, hM9.out.fst, hM9.out.fT, hnx.1, fun y hy => ?_⟩⟩
                rcases List.mem_append.1 hy with hy | hy
                · exact hok2 y hy
                · obtain rfl := List.mem_singleton.1 hy
                  exact ⟨hkid.out, hz, by show x.depth ≤ e.depth + 1; omega, by have h2 : e.t.size < e.par.size := kid_small e.par e.kid k2; show e.depth + 1 + e.t.size ≤ _; omega⟩
            · have hnx := ys_next (st2 := s') hB.out.ys (by rw [walks_none hz, List.nil_append, hns.out, List.nil_append])
              replace hnx := Lib.hid hnx
              have hz1 : e.t.kids.length = 0 := by omega
              rw [hz1] at p5
              clear hz
              replace hz1 := Lib.hid hz1
              gi_wp2
              gi_roundg ((pends x.depth (s')).length)
              case measure => exact hnx.out.2
              case rel => exact ⟨_, _, _, _, _, rfl, by simp, ⟨hM6.out.run, hM6.out.own, hM6.out.gT, hM6.out.gn, hM6.out.fst, hM6.out.fT, hnx.out.1, hok2⟩⟩
        · have hns := sib_none (d0 := x.depth) (e := e) (fun h => hd h.1)
          have hd2 : decide ((x.depth : Int) < (e.depth : Int)) = false := decide_eq_false (by omega)
          replace hns := Lib.hid hns
          gi_wp2
          refine wpIn_round_quiet (by kernel_rfl) (by kernel_rfl) (by kernel_rfl) ?_
          repeat (gi_big_quiet_step (fail))
          refine wpQuietIn_nil ?_
          rintro _ ⟨nq, rfl⟩
          have hM5 := MI.later hJ hM.out (belowN (Below.refl _ _) nq)
          have b0 := cell_of_row (W4.drewN nq) wr.heap.size 0 _ _ _ hM5.bp
          have b1 := cell_of_row (W4.drewN nq) wr.heap.size 1 _ _ _ hM5.bp
          have b2 := cell_of_row (W4.drewN nq) wr.heap.size 2 _ _ _ hM5.bp
          replace hM5 := Lib.hid hM5
          gi_wp2
          have hok2 : ∀ y, y ∈ s' → NodeAt W (PT n₀ T W) y.blk y.off y.par ∧ y.kid < y.par.kids.length ∧ x.depth ≤ y.depth ∧ y.depth + y.par.size ≤ 8388608 := fun y hy => hB.out.ok y (List.mem_append_left _ hy)
          refine ⟨trivial, wide1 _, ?_⟩
          refine (callsIn_wide.2 (term_any e.blk e.off e.kid e.depth e.par.kids.length kb ko c _ ((hM5.out.run.cell hh.out.at_ _).trans hh.out.kids) k2)).mono ?_
          rintro e6 w6 ⟨rfl, hb6⟩
          have hM6 := MI.later hJ hM5.out hb6
          have p5 : w6.cell? ⟨kb, ko + e.kid * 4 + 3, none⟩ = some (.slice A2 e.t.kids.length cc) := (hM6.run.cell hh2.out.at_ _).trans hh2.out.kids
          have b0' := cell_of_row w6 wr.heap.size 0 _ _ _ hM6.bp
          have b1' := cell_of_row w6 wr.heap.size 1 _ _ _ hM6.bp
          have b2' := cell_of_row w6 wr.heap.size 2 _ _ _ hM6.bp
          replace hM6 := Lib.hid hM6
          replace hb6 := Lib.hid hb6
          have hst2 : (s').length ≤ 8388609 := by omega
          by_cases hz : 0 < e.t.kids.length
          · gi_wp2
            refine ⟨trivial, wide1 _, ?_⟩
            refine (callsIn_wide.2 (under_zero e.blk e.off e.kid e.depth e.par.kids.length kb ko c w6 ((hM6.out.run.cell hh.out.at_ _).trans hh.out.kids) k2 (by omega))).mono ?_
            rintro e7 w7 ⟨rfl, hb7⟩
            have hM7 := MI.later hJ hM6.out hb7
            have hM8 := Lib.hid (MI.later hJ hM7 (later_alloc w7 (.cells #[.pointer (some ⟨kb, ko + e.kid * 4, none⟩), .int .i64 0, .int .i64 ((e.depth : Int) + 1)] 60)))
            clear hb7 hM7
            have hown8 := hM8.out.own
            replace hown8 := Lib.hid hown8
            gi_wp2_with (gi_at_builtin; refine wpListIn_append_own_at _ rfl _ _ 65 rfl (W.heap.size + 1) 60 i0 (.agg #[.pointer none, .int .i64 0, .int .i64 0]) 3 24 Tryz.underlying65 hi.out hz0.out hz1.out hz2.out rfl (by decide) _ _ _ rfl hown8.out ⟨w7.heap.size, 0, none⟩ 1 1 [.pointer (some ⟨kb, ko + e.kid * 4, none⟩), .int .i64 0, .int .i64 ((e.depth : Int) + 1)] rfl rfl (cells_new3 w7 _ _ _ _) (one3 _ _ _) (by unfold maxLen; omega) (by omega) (World.lt_of_get hM8.out.fst) ?_; intro v9 w9 hown9 hgrow9 _ hat9; obtain ⟨gb9, cap9, rfl, hM9⟩ := MI.push hJ hM8.out ⟨kb, ko + e.kid * 4, e.t, 0, e.depth + 1⟩ rfl rfl hown9 hgrow9 hat9; clear hown9 hgrow9 hat9; replace hM9 := Lib.hid hM9)
            have hnx := ys_next (st2 := s' ++ [⟨kb, ko + e.kid * 4, e.t, 0, e.depth + 1⟩]) hB.out.ys (by rw [pends_snoc, child_pend _ _ k3 hz, hns.out, List.nil_append])
            gi_roundg ((pends x.depth (s' ++ [⟨kb, ko + e.kid * 4, e.t, 0, e.depth + 1⟩])).length)
            case measure => exact hnx.2
            case rel =>
              refine ⟨_, _, _, _, _, rfl, by simp, ⟨hM9.out.run, hM9.out.own, hM9.out.gT, hM9.out.gn, hM9.out.fst, hM9.out.fT, hnx.1, fun y hy => ?_⟩⟩
              rcases List.mem_append.1 hy with hy | hy
              · exact hok2 y hy
              · obtain rfl := List.mem_singleton.1 hy
                exact ⟨hkid.out, hz, by show x.depth ≤ e.depth + 1; omega, by have h2 : e.t.size < e.par.size := kid_small e.par e.kid k2; show e.depth + 1 + e.t.size ≤ _; omega⟩
          · have hnx := ys_next (st2 := s') hB.out.ys (by rw [walks_none hz, List.nil_append, hns.out, List.nil_append])
            replace hnx := Lib.hid hnx
            have hz1 : e.t.kids.length = 0 := by omega
            rw [hz1] at p5
            clear hz
            replace hz1 := Lib.hid hz1
            gi_wp2
            gi_roundg ((pends x.depth (s')).length)
            case measure => exact hnx.out.2
            case rel => exact ⟨_, _, _, _, _, rfl, by simp, ⟨hM6.out.run, hM6.out.own, hM6.out.gT, hM6.out.gn, hM6.out.fst, hM6.out.fT, hnx.out.1, hok2⟩⟩
      · gi_wp2
        go_ret
        refine .inr ⟨rfl, xs ++ [e], ?_, by rw [← List.append_assoc]; exact hx4⟩
        rw [hB.out.ys, pends_snoc, pend_eq, List.map_append]
        exact ⟨walks e.t 0 (e.depth + 1) e.t.kids ++ (sibs x.depth e ++ pends x.depth s'), by simp⟩
end Go.Proofs.YthmchdpinobbgaaGreatDoor
