/-
  The document's own pairs, numbers: copies of ours. Condition: they can be read, at most 2^20.
-/
import Derived.Test.YtkagmkejndjepaaGreatDoorAtLawNorm
namespace Go.Proofs.YtkagmkejndjepaaGreatDoor
open Go.RowKit Go.Shelf Go.At
attribute [local go_sem] Oper.semAt_some

theorem infoRP : (Tryz.prog.info? 60).map (fun i => (i.zero, i.size, i.bytes)) = some (some (.agg #[.int .i64 0, .int .i64 0]), 2, 16) := by kernel_rfl
theorem infoRI : (Tryz.prog.info? 3).map (fun i => (i.zero, i.size, i.bytes)) = some (some (.int .i64 0), 1, 8) := by kernel_rfl
theorem news_pair (w : World) (x y : Int) (ty : TypeId) : ∀ j u, [Value.int .i64 x, .int .i64 y][j]? = some u → (w.alloc (.cells #[.int .i64 x, .int .i64 y] ty)).cell? ((⟨w.heap.size, 0, none⟩ : Addr).add j) = some u := by
  intro j u hj
  match j, hj with
  | 0, hj => cases hj; exact cell_of_row _ _ 0 _ _ _ (World.alloc_heap_new w _)
  | 1, hj => cases hj; exact cell_of_row _ _ 1 _ _ _ (World.alloc_heap_new w _)
  | j + 2, hj => simp at hj
theorem news_pair1 (x y : Int) : ∀ u ∈ [Value.int .i64 x, .int .i64 y], u.oneCell' = true := by
  intro u hu
  simp at hu
  rcases hu with rfl | rfl <;> rfl
theorem news_int (w : World) (x : Int) (ty : TypeId) : ∀ j u, [Value.int .i64 x][j]? = some u → (w.alloc (.cells #[.int .i64 x] ty)).cell? ((⟨w.heap.size, 0, none⟩ : Addr).add j) = some u := by
  intro j u hj
  match j, hj with
  | 0, hj => cases hj; exact cell_of_row _ _ 0 _ _ _ (World.alloc_heap_new w _)
  | j + 1, hj => simp at hj
theorem news_int1 (x : Int) : ∀ u ∈ [Value.int .i64 x], u.oneCell' = true := by
  intro u hu
  simp at hu
  rw [hu]; rfl

set_option maxRecDepth 100000 in
set_option maxHeartbeats 4000000 in
theorem refPairs_any (A : Option Addr) (l : List Pr) (c : Nat) (w : World) (hP : Prs w A l) (hl : l.length ≤ 1048576) :
    Calls Tryz.prog 10 #[.slice A l.length c] w fun e w' => (∃ A c, e = .returned (.slice A l.length c) ∧ Prs w' A l ∧ OkS A l.length c) ∧ Below w.heap.size w w' := by
  obtain ⟨i0, hi, hi2⟩ := Option.map_eq_some_iff.1 infoRP
  obtain ⟨hz0, hz1, hz2⟩ : i0.zero = some (.agg #[.int .i64 0, .int .i64 0]) ∧ i0.size = 2 ∧ i0.bytes = 16 := by
    injection hi2 with h1 h2; injection h2 with h2 h3; exact ⟨h1, h2, h3⟩
  replace hi := Lib.hid hi
  replace hz0 := Lib.hid hz0
  replace hz1 := Lib.hid hz1
  replace hz2 := Lib.hid hz2
  clear hi2
  obtain ⟨L, hL⟩ : ∃ L, Hid (l.length = L) := ⟨_, rfl⟩
  have hLl := hL.out
  rw [hLl] at hl ⊢
  clear hLl
  go_enter Tryz.func10, Tryz.ntmps10
  go_wp2_with fail
  go_loopw [3, 4] (fun v i wr => ∃ (k : Nat) (v' : Value), k ≤ L ∧ i = .int .i64 k ∧ v = v' ∧ Hid (wr.ownsRow w.heap.size 60 2 v' k (cellsP (l.take k))) ∧ Hid (Below w.heap.size w wr)) (fun _ i _ => L - (intOf i).toNat)
  case atStart => exact ⟨0, _, Nat.zero_le _, rfl, rfl, World.ownsRow_nil _ _ _ _, Below.refl _ _⟩
  case round =>
    obtain ⟨k, v', hk, rfl, rfl, hown, hB⟩ := hrel
    by_cases hlt : k < L
    · have hkl : k < l.length := by rw [hL.out]; exact hlt
      obtain ⟨b, off, rfl, hb, hc⟩ := (hP.later hB.out) (by intro e; subst e; simp at hkl)
      obtain ⟨c0, c1⟩ := hc k hkl
      clear hc
      have htk := take_snoc l (0, 0) k hkl
      generalize l.getD k (0, 0) = q at c0 c1 htk
      obtain ⟨x, y⟩ := q
      dsimp only at c0 c1
      have htn : Hid (cellsP (l.take (k + 1)) = cellsP (l.take k) ++ [.int .i64 x, .int .i64 y]) := by show _ = _; rw [htk, cellsP_append]; rfl
      clear htk
      have hbx := Lib.hid ((Below.refl wr.heap.size wr).drew.alloc (Nat.le_refl _) (.cells #[.int .i64 x, .int .i64 y] 60))
      have hown1 := Lib.hid (own_later hown.out hbx.out)
      have hbs := Lib.hid (Nat.le_trans hB.out.size hbx.out.size)
      clear hown
      go_wp2_with fail
      go_region_law (
        refine step_append_held rfl (.tmp 11) (.tmp 23) 27 rfl w.heap.size 60 i0 (.agg #[.int .i64 0, .int .i64 0]) 2 16 Tryz.underlying27 hi.out hz0.out hz1.out hz2.out rfl (by decide) _ _ _ (by simp [Act.eval]) hown1.out ⟨wr.heap.size, 0, none⟩ 1 1 [.int .i64 x, .int .i64 y] (by simp [Act.eval]) rfl (news_pair wr.drew x y _) (news_pair1 x y) (by unfold maxLen; omega) (by omega) hbs.out ?_
        intro v'' w3 hown' hgrow
        have hown2 : Hid (w3.ownsRow w.heap.size 60 2 v'' (k + 1) (cellsP (l.take (k + 1)))) := by
          show w3.ownsRow _ _ _ _ _ _
          rw [htn.out]
          exact hown'
        have hb3 : Hid (Below w.heap.size w w3) := (hB.out.trans (hbx.out.mono hB.out.size)).grown hgrow hbs.out (own_block hown1.out)
        clear hown' hgrow)
      all_goals
        clear hown1 hbx hbs c0 c1
        go_wp2_with fail
        go_roundw
        case rel => exact ⟨k + 1, v'', by omega, by go_num, rfl, hown2.out, hb3.out⟩
        case measure => simp [intOf]; omega
    · obtain rfl : k = L := by omega
      go_wp2_with fail
      go_ret
      have ho := hown.out
      rw [List.take_of_length_le (by rw [hL.out]; exact Nat.le_refl _), ← hL.out] at ho
      obtain ⟨A5, c5, e5, h5, -⟩ := prs_own ho
      rw [hL.out] at e5
      subst e5
      have hok := own_ok ho
      rw [hL.out] at hok
      exact ⟨⟨A5, c5, rfl, h5, hok⟩, hB.out⟩

set_option maxRecDepth 100000 in
set_option maxHeartbeats 4000000 in
theorem refAtoms_any (A : Option Addr) (l : List Int) (c : Nat) (w : World) (hP : Nms w A l) (hl : l.length ≤ 2097152) :
    Calls Tryz.prog 11 #[.slice A l.length c] w fun e w' => (∃ A c, e = .returned (.slice A l.length c) ∧ Nms w' A l ∧ OkS A l.length c) ∧ Below w.heap.size w w' := by
  obtain ⟨i0, hi, hi2⟩ := Option.map_eq_some_iff.1 infoRI
  obtain ⟨hz0, hz1, hz2⟩ : i0.zero = some (.int .i64 0) ∧ i0.size = 1 ∧ i0.bytes = 8 := by
    injection hi2 with h1 h2; injection h2 with h2 h3; exact ⟨h1, h2, h3⟩
  replace hi := Lib.hid hi
  replace hz0 := Lib.hid hz0
  replace hz1 := Lib.hid hz1
  replace hz2 := Lib.hid hz2
  clear hi2
  obtain ⟨L, hL⟩ : ∃ L, Hid (l.length = L) := ⟨_, rfl⟩
  have hLl := hL.out
  rw [hLl] at hl ⊢
  clear hLl
  go_enter Tryz.func11, Tryz.ntmps11
  go_wp2_with fail
  go_loopw [3, 4] (fun v i wr => ∃ (k : Nat) (v' : Value), k ≤ L ∧ i = .int .i64 k ∧ v = v' ∧ Hid (wr.ownsRow w.heap.size 3 1 v' k ((l.take k).map (Value.int .i64))) ∧ Hid (Below w.heap.size w wr)) (fun _ i _ => L - (intOf i).toNat)
  case atStart => exact ⟨0, _, Nat.zero_le _, rfl, rfl, World.ownsRow_nil _ _ _ _, Below.refl _ _⟩
  case round =>
    obtain ⟨k, v', hk, rfl, rfl, hown, hB⟩ := hrel
    by_cases hlt : k < L
    · have hkl : k < l.length := by rw [hL.out]; exact hlt
      obtain ⟨b, off, rfl, hb, hc⟩ := (hP.later hB.out) (by intro e; subst e; simp at hkl)
      have c0 := hc k hkl
      clear hc
      have htk := take_snoc l 0 k hkl
      generalize l.getD k 0 = x at c0 htk
      have htn : Hid ((l.take (k + 1)).map (Value.int .i64) = (l.take k).map (Value.int .i64) ++ [.int .i64 x]) := by show _ = _; rw [htk, List.map_append]; rfl
      clear htk
      have hbx := Lib.hid (later_alloc wr (.cells #[.int .i64 x] 3))
      have hown1 := Lib.hid (own_later hown.out hbx.out)
      have hbs := Lib.hid (Nat.le_trans hB.out.size hbx.out.size)
      clear hown
      go_wp2_with (at_builtin; refine wpList_append_own _ rfl _ _ 29 rfl w.heap.size 3 i0 (.int .i64 0) 1 8 Tryz.underlying29 hi.out hz0.out hz1.out hz2.out rfl (by decide) _ _ _ rfl hown1.out ⟨wr.heap.size, 0, none⟩ 1 1 [.int .i64 x] rfl rfl (news_int wr x _) (news_int1 x) (by unfold maxLen; omega) (by omega) hbs.out ?_)
      intro v2 w2 ho2 hg2 _
      have hown2 : Hid (w2.ownsRow w.heap.size 3 1 v2 (k + 1) ((l.take (k + 1)).map (Value.int .i64))) := by
        show w2.ownsRow _ _ _ _ _ _
        rw [htn.out]
        first | exact ho2 | (rw [List.map_take]; exact ho2)
      have hb3 : Hid (Below w.heap.size w w2) := (hB.out.trans (hbx.out.mono hB.out.size)).grown hg2 hbs.out (own_block hown1.out)
      clear ho2 hg2 hown1 hbx hbs c0
      go_wp2_with fail
      go_roundw
      case rel => exact ⟨k + 1, v2, by omega, by go_num, rfl, hown2.out, hb3.out⟩
      case measure => simp [intOf]; omega
    · obtain rfl : k = L := by omega
      go_wp2_with fail
      go_ret
      have ho := hown.out
      rw [List.take_of_length_le (by rw [hL.out]; exact Nat.le_refl _), ← hL.out] at ho
      obtain ⟨A5, c5, e5, h5, -⟩ := nms_own ho
      rw [hL.out] at e5
      subst e5
      have hok := own_ok ho
      rw [hL.out] at hok
      exact ⟨⟨A5, c5, rfl, h5, hok⟩, hB.out⟩
end Go.Proofs.YtkagmkejndjepaaGreatDoor
