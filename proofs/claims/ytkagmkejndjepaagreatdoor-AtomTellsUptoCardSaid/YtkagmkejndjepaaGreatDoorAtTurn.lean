/-
  turned: each atom by a function value. Condition: the pairs can be read, at most 2^43; the function value leaves the world as it is.
-/
import Derived.Test.YtkagmkejndjepaaGreatDoorAtW1
namespace Go.Proofs.YtkagmkejndjepaaGreatDoor
open Go.RowKit Go.Shelf Go.At
attribute [local go_sem] Oper.semAt_some

theorem infoPr : (Tryz.prog.info? 53).map (fun i => (i.zero, i.size, i.bytes)) = some (some (.agg #[.int .i64 0, .int .i64 0]), 2, 16) := by kernel_rfl
/-- a row of L pairs, the first of which are told -/
def PMade (W : World) (ty : TypeId) (g L : Nat) (m : List Pr) : Prop := ∃ cur : Array Value, W.heap[g]? = some (.cells cur ty (0, 0)) ∧ cur.size = L * 2 ∧ ∀ j, j < m.length → cur[j * 2]? = some (.int .i64 (m.getD j (0, 0)).1) ∧ cur[j * 2 + 1]? = some (.int .i64 (m.getD j (0, 0)).2)
theorem PMade.block {W W' : World} {ty : TypeId} {g L : Nat} {m : List Pr} (h : PMade W ty g L m) (e : W'.heap[g]? = W.heap[g]?) : PMade W' ty g L m := by
  obtain ⟨cur, h1, h2⟩ := h
  exact ⟨cur, e.trans h1, h2⟩
theorem PMade.lt {W : World} {ty : TypeId} {g L : Nat} {m : List Pr} (h : PMade W ty g L m) : g < W.heap.size := by
  obtain ⟨cur, h1, _⟩ := h
  exact World.lt_of_get h1
theorem PMade.old {W : World} {ty : TypeId} {g L : Nat} {m : List Pr} (h : PMade W ty g L m) {k : Nat} (hk : k < L) : (∃ u, W.cell? ⟨g, k * 2, none⟩ = some u) ∧ (∃ u, W.cell? ⟨g, k * 2 + 1, none⟩ = some u) ∧ W.frozen? ⟨g, k * 2, none⟩ = false ∧ W.frozen? ⟨g, k * 2 + 1, none⟩ = false := by
  obtain ⟨cur, h1, h2, _⟩ := h
  refine ⟨⟨cur[k * 2]'(by omega), ?_⟩, ⟨cur[k * 2 + 1]'(by omega), ?_⟩, by simp [World.frozen?, h1], by simp [World.frozen?, h1]⟩
  · simp [World.cell?, h1]
  · simp [World.cell?, h1]
theorem PMade.put {W : World} {ty : TypeId} {g L : Nat} {m : List Pr} (h : PMade W ty g L m) (hk : m.length < L) (p : Pr) : PMade ((W.setCell ⟨g, m.length * 2, none⟩ (.int .i64 p.1)).setCell ⟨g, m.length * 2 + 1, none⟩ (.int .i64 p.2)) ty g L (m ++ [p]) := by
  obtain ⟨cur, h1, h2, h3⟩ := h
  have e1 := heap_setCell_same W g (m.length * 2) _ _ (.int .i64 p.1) h1
  have e2 := heap_setCell_same _ g (m.length * 2 + 1) _ _ (.int .i64 p.2) e1
  refine ⟨_, e2, by simpa using h2, fun j hj => ?_⟩
  rw [List.length_append, List.length_singleton] at hj
  by_cases e : j = m.length
  · subst e
    have e3 : (m ++ [p]).getD m.length (0, 0) = p := by simp
    rw [e3]
    constructor
    · rw [Array.getElem?_setIfInBounds, if_neg (by omega), Array.getElem?_setIfInBounds, if_pos rfl, if_pos (by omega)]
    · rw [Array.getElem?_setIfInBounds, if_pos rfl, if_pos (by simp; omega)]
  · have e3 : (m ++ [p]).getD j (0, 0) = m.getD j (0, 0) := by
      rw [List.getD_eq_getElem?_getD, List.getD_eq_getElem?_getD, List.getElem?_append_left (by omega)]
    rw [e3]
    obtain ⟨x1, x2⟩ := h3 j (by omega)
    constructor
    · rw [Array.getElem?_setIfInBounds, if_neg (by omega), Array.getElem?_setIfInBounds, if_neg (by omega)]; exact x1
    · rw [Array.getElem?_setIfInBounds, if_neg (by omega), Array.getElem?_setIfInBounds, if_neg (by omega)]; exact x2
theorem PMade.prs {W : World} {ty : TypeId} {g L : Nat} {m : List Pr} (h : PMade W ty g L m) : Prs W (some ⟨g, 0, none⟩) m := fun _ => by
  have hl := h.lt
  obtain ⟨cur, h1, h2, h3⟩ := h
  refine ⟨g, 0, rfl, hl, fun j hj => ?_⟩
  obtain ⟨x1, x2⟩ := h3 j hj
  rw [Nat.zero_add]
  exact ⟨by simpa [World.cell?, h1] using x1, by simpa [World.cell?, h1] using x2⟩

set_option maxRecDepth 100000 in
set_option maxHeartbeats 4000000 in
theorem turned_any (g : Nat) (cb : Array Value) (f : Int → Int) (A : Option Addr) (l : List Pr) (c : Nat) (w : World) (hP : Prs w A l) (h6 : ∀ p ∈ l, I64 p.1 ∧ I64 p.2) (hl : l.length ≤ 8796093022208)
    (eg : ∀ args W, (callFunc g args).run Tryz.prog W = .ok (.enter g args) W) (hG : ∀ a W, Below w.heap.size w W → I64 a → Calls Tryz.prog g (#[.int .i64 a] ++ cb) W fun e w' => e = .returned (.int .i64 (f a)) ∧ W = w') :
    Calls Tryz.prog 46 #[.slice A l.length c, .func (.func g) #[] cb] w fun e w' => (∃ A c, e = .returned (.slice A (mapL f l).length c) ∧ Prs w' A (mapL f l)) ∧ Below w.heap.size w w' := by
  obtain ⟨i0, hi, hi2⟩ := Option.map_eq_some_iff.1 infoPr
  obtain ⟨hz0, hz1, hz2⟩ : i0.zero = some (.agg #[.int .i64 0, .int .i64 0]) ∧ i0.size = 2 ∧ i0.bytes = 16 := by
    injection hi2 with h1 h2; injection h2 with h2 h3; exact ⟨h1, h2, h3⟩
  have hby : i0.bytes * l.length ≤ 281474976710656 := by rw [hz2]; omega
  have hmx : l.length ≤ maxLen := by unfold maxLen; omega
  replace hi := Lib.hid hi
  replace hz0 := Lib.hid hz0
  replace hz1 := Lib.hid hz1
  replace hz2 := Lib.hid hz2
  clear hi2
  have hml : (mapL f l).length = l.length := by simp [mapL]
  rw [hml]
  replace hml := Lib.hid hml
  obtain ⟨L, hL⟩ : ∃ L, Hid (l.length = L) := ⟨_, rfl⟩
  have hLl := hL.out
  rw [hLl] at hl hby hmx ⊢
  clear hLl
  replace h6 := Lib.hid h6
  replace hG := Lib.hid hG
  replace hby := Lib.hid hby
  replace hmx := Lib.hid hmx
  go_enter Tryz.func46, Tryz.ntmps46
  go_wp2_with (refine wpList_make_full _ rfl _ _ 22 rfl w.heap.size 53 i0 (.agg #[.int .i64 0, .int .i64 0]) 2 Tryz.underlying22 hi.out hz0.out hz1.out .i64 .i64 _ _ L rfl rfl rfl rfl hby.out hmx.out (Nat.le_refl _) ?_)
  intro w1 ho hg1
  have hb1 : Hid (Below w.heap.size w w1) := (Below.refl _ _).grown hg1 (Nat.le_refl _) (fun k hk => by cases hk)
  have hM : Hid (PMade w1 53 w.heap.size L []) := by
    obtain ⟨x1, ⟨x2, _⟩ | ⟨g', cap', cur, x2, x3, x4, x5, x6, x7, x8⟩⟩ := ho
    · cases x2
    · injection x2 with y1 y2 y3
      injection y1 with y1
      injection y1 with y1
      subst y1; subst y3
      exact ⟨cur, x4, x7, fun j hj => absurd hj (Nat.not_lt_zero j)⟩
  clear ho hg1
  go_wp2_with fail
  go_loopw [13] (fun i wr => ∃ k : Nat, k ≤ L ∧ i = .int .i64 k ∧ Hid (PMade wr 53 w.heap.size L (mapL f (l.take k))) ∧ Hid (Below w.heap.size w wr)) (fun i _ => L - (intOf i).toNat)
  case atStart => exact ⟨0, Nat.zero_le _, rfl, hM.out, hb1.out⟩
  case round =>
    clear hM hb1
    obtain ⟨k, hk, rfl, hM, hB⟩ := hrel
    by_cases hlt : k < L
    · have hkl : k < l.length := by rw [hL.out]; exact hlt
      obtain ⟨b, off, rfl, hb, hc⟩ := (hP.later hB.out) (by intro e; subst e; simp at hkl)
      obtain ⟨c0, c1⟩ := hc k hkl
      clear hc
      have htk := take_snoc l (0, 0) k hkl
      have h7 := h6.out (l.getD k (0, 0)) (by rw [List.getD_eq_getElem?_getD, List.getElem?_eq_getElem hkl]; exact List.getElem_mem _)
      have hlen : (mapL f (l.take k)).length = k := by simp [mapL]; omega
      generalize l.getD k (0, 0) = q at c0 c1 htk h7
      obtain ⟨x, y⟩ := q
      dsimp only at c0 c1 h7
      have hmk : Hid (mapL f (l.take (k + 1)) = mapL f (l.take k) ++ [(f x, f y)]) := by
        show _ = _
        rw [htk]; simp [mapL]
      clear htk
      go_wp2_with fail
      obtain ⟨V, hV⟩ : ∃ V, wr.alloc (.cells #[.int .i64 x, .int .i64 y] 53) = V := ⟨_, rfl⟩
      have hx := World.alloc_heap_new wr (.cells #[.int .i64 x, .int .i64 y] 53)
      have hVb := later_alloc wr (.cells #[.int .i64 x, .int .i64 y] 53)
      rw [hV] at hx hVb ⊢
      replace hV := Lib.hid hV
      have hMV : Hid (PMade V 53 w.heap.size L (mapL f (l.take k))) := hM.out.block (hVb.block _ hM.out.lt)
      have hBV : Hid (Below w.heap.size w V) := hB.out.trans (hVb.mono hB.out.size)
      have q0 := cell_of_row _ _ 0 _ _ _ hx
      have q1 := cell_of_row _ _ 1 _ _ _ hx
      obtain ⟨⟨u0, o0⟩, ⟨u1, o1⟩, f0, f1⟩ := hMV.out.old hlt
      have kx := Lib.hid (fun n => hG.out x (V.drewN n) (belowN hBV.out n) h7.1)
      have ky := Lib.hid (fun n => hG.out y (V.drewN n) (belowN hBV.out n) h7.2)
      have hBW := Lib.hid hM.out.lt
      clear hx hVb c0 c1 hM hB
      go_wp2_with fail
      have hne : wr.heap.size ≠ w.heap.size := by have := hMV.out.lt; have := hBW.out; omega
      have hS9 : Hid (∀ n v0 v1, (((V.drewN n).setCell ⟨w.heap.size, k * 2, none⟩ v0).setCell ⟨w.heap.size, k * 2 + 1, none⟩ v1).cell? ⟨wr.heap.size, 0, none⟩ = some (.int .i64 x) ∧ (((V.drewN n).setCell ⟨w.heap.size, k * 2, none⟩ v0).setCell ⟨w.heap.size, k * 2 + 1, none⟩ v1).cell? ⟨wr.heap.size, 1, none⟩ = some (.int .i64 y)) := fun n v0 v1 => by
        have e : (((V.drewN n).setCell ⟨w.heap.size, k * 2, none⟩ v0).setCell ⟨w.heap.size, k * 2 + 1, none⟩ v1).heap[wr.heap.size]? = V.heap[wr.heap.size]? := (Below.heap_setCell _ _ _ _ hne).trans (Below.heap_setCell _ _ _ _ hne)
        exact ⟨(World.cell?_of_block (a := ⟨wr.heap.size, 0, none⟩) e).trans q0, (World.cell?_of_block (a := ⟨wr.heap.size, 1, none⟩) e).trans q1⟩
      have hend : Hid (∀ n, PMade (((V.drewN n).setCell ⟨w.heap.size, k * 2, none⟩ (.int .i64 (f x))).setCell ⟨w.heap.size, k * 2 + 1, none⟩ (.int .i64 (f y))) 53 w.heap.size L (mapL f (l.take (k + 1))) ∧ Below w.heap.size w (((V.drewN n).setCell ⟨w.heap.size, k * 2, none⟩ (.int .i64 (f x))).setCell ⟨w.heap.size, k * 2 + 1, none⟩ (.int .i64 (f y)))) := fun n => by
        have h1 : PMade (V.drewN n) 53 w.heap.size L (mapL f (l.take k)) := hMV.out
        have h2 := h1.put (by rw [hlen]; exact hlt) (f x, f y)
        rw [hlen] at h2
        rw [hmk.out]
        exact ⟨h2, ((belowN hBV.out n).setCell (p := ⟨w.heap.size, k * 2, none⟩) (Nat.le_refl _) _).setCell (p := ⟨w.heap.size, k * 2 + 1, none⟩) (Nat.le_refl _) _⟩
      go_region_held3 (fun W => W.cell? ⟨wr.heap.size, 0, none⟩ = some (.int .i64 x) ∧ W.cell? ⟨wr.heap.size, 1, none⟩ = some (.int .i64 y)) (first | exact ⟨q0, q1⟩ | exact hS9.out _ _ _) (first | (refine (kx.out _).mono ?_; rintro e w' ⟨rfl, rfl⟩) | (refine (ky.out _).mono ?_; rintro e w' ⟨rfl, rfl⟩))
      all_goals
        go_wp2_with fail
        go_roundw
        case rel => exact ⟨k + 1, by omega, by go_num, (hend.out _).1, (hend.out _).2⟩
        case measure => simp [intOf]; omega
    · obtain rfl : k = L := by omega
      have h9 := hM.out
      rw [List.take_of_length_le (by rw [hL.out]; exact Nat.le_refl _)] at h9
      replace h9 := Lib.hid h9.prs
      go_wp2_with fail
      go_ret
      exact ⟨⟨_, _, rfl, h9.out⟩, hB.out⟩
end Go.Proofs.YtkagmkejndjepaaGreatDoor
