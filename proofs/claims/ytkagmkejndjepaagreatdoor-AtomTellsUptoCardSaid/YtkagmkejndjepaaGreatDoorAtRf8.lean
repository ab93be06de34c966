/-
  The document's own Norm. Condition: the pairs can be read, at most 2^20.
-/
import Derived.Test.YtkagmkejndjepaaGreatDoorAtRf6
import Derived.Test.YtkagmkejndjepaaGreatDoorAtRf7
namespace Go.At
theorem norm_step (l : List Pr) (k : Nat) (p : Pr) (h : l.take (k + 1) = l.take k ++ [p]) : normL (l.take (k + 1)) = if unlike p = true then ins ltP p (normL (l.take k)) else normL (l.take k) := by
  unfold normL
  rw [h, List.filter_append, ord_app]
  by_cases hu : unlike p = true
  · rw [if_pos hu]; simp [hu]
  · rw [if_neg hu]; simp [hu]
end Go.At
namespace Go.Proofs.YtkagmkejndjepaaGreatDoor
open Go.RowKit Go.Shelf Go.At
attribute [local go_sem] Oper.semAt_some

/-- the pairs at a place of a row, as an append reads them -/
theorem prow_news {W : World} {b off k : Nat} {l m : List Pr} (h : PRow W b off l) (hm : ∀ j, j < m.length → k + j < l.length ∧ m.getD j (0, 0) = l.getD (k + j) (0, 0)) :
    ∀ j u, (cellsP m)[j]? = some u → W.cell? ((⟨b, off + k * 2, none⟩ : Addr).add j) = some u := fun j u hj => by
  have hlj : j < m.length * 2 := by rw [← cellsP_len]; exact (List.getElem?_eq_some_iff.1 hj).1
  obtain ⟨h1, h2⟩ := hm (j / 2) (by omega)
  obtain ⟨x0, x1⟩ := h (k + j / 2) h1
  obtain ⟨y0, y1⟩ := cellsP_get m (j / 2) (by omega)
  rw [← h2] at x0 x1
  rw [Addr.add_lit]
  rcases (show j % 2 = 0 ∨ j % 2 = 1 by omega) with h | h
  · rw [show j / 2 * 2 = j by omega] at y0
    rw [show off + (k + j / 2) * 2 = off + k * 2 + j by omega] at x0
    rw [y0] at hj
    rw [x0, hj]
  · rw [show j / 2 * 2 + 1 = j by omega] at y1
    rw [show off + (k + j / 2) * 2 + 1 = off + k * 2 + j by omega] at x1
    rw [y1] at hj
    rw [x1, hj]
theorem takeP_at (l : List Pr) (k : Nat) : ∀ j, j < (l.take k).length → 0 + j < l.length ∧ (l.take k).getD j (0, 0) = l.getD (0 + j) (0, 0) := fun j hj => by
  rw [List.length_take] at hj
  rw [Nat.zero_add]
  exact ⟨by omega, by rw [List.getD_eq_getElem?_getD, List.getD_eq_getElem?_getD, List.getElem?_take, if_pos (by omega)]⟩
theorem dropP_at (l : List Pr) (k : Nat) : ∀ j, j < (l.drop k).length → k + j < l.length ∧ (l.drop k).getD j (0, 0) = l.getD (k + j) (0, 0) := fun j hj => by
  rw [List.length_drop] at hj
  exact ⟨by omega, by rw [List.getD_eq_getElem?_getD, List.getD_eq_getElem?_getD, List.getElem?_drop]⟩

set_option maxRecDepth 100000 in
set_option maxHeartbeats 8000000 in
theorem refNorm_any (A : Option Addr) (l : List Pr) (c : Nat) (w : World) (hP : Prs w A l) (hl : l.length ≤ 1048576) :
    Calls Tryz.prog 18 #[.slice A l.length c] w fun e w' => (∃ A c, e = .returned (.slice A (normL l).length c) ∧ Prs w' A (normL l)) ∧ Below w.heap.size w w' := by
  obtain ⟨i0, hi, hi2⟩ := Option.map_eq_some_iff.1 infoRP
  obtain ⟨hz0, hz1, hz2⟩ : i0.zero = some (.agg #[.int .i64 0, .int .i64 0]) ∧ i0.size = 2 ∧ i0.bytes = 16 := by
    injection hi2 with h1 h2; injection h2 with h2 h3; exact ⟨h1, h2, h3⟩
  replace hi := Lib.hid hi
  replace hz0 := Lib.hid hz0
  replace hz1 := Lib.hid hz1
  replace hz2 := Lib.hid hz2
  clear hi2
  obtain ⟨L, hL⟩ : ∃ L, Hid (l.length = L) := ⟨_, rfl⟩
  have hLl := hL.out
  rw [hLl] at hl ⊢
  clear hLl
  go_enter Tryz.func18, Tryz.ntmps18
  go_wp2_with fail
  go_loopw [3, 4] (fun v i wr => ∃ (k : Nat) (Am : Option Addr) (cm : Nat) (m : List Pr), k ≤ L ∧ i = .int .i64 k ∧ v = .slice Am m.length cm ∧ Hid (m = normL (l.take k)) ∧ Hid (Prs wr Am m) ∧ OkS Am m.length cm ∧ Hid (m = [] → Am = none ∧ cm = 0) ∧ Hid (Below w.heap.size w wr)) (fun _ i _ => L - (intOf i).toNat)
  case atStart => exact ⟨0, none, 0, [], Nat.zero_le _, rfl, rfl, rfl, Prs.nil _ _, ⟨Nat.le_refl _, Nat.zero_le _, fun _ => rfl⟩, fun _ => ⟨rfl, rfl⟩, Below.refl _ _⟩
  case round =>
    obtain ⟨k, Am, cm, m, hk, rfl, rfl, hm, hN, hO, hZ, hB⟩ := hrel
    by_cases hlt : k < L
    · have hkl : k < l.length := by rw [hL.out]; exact hlt
      obtain ⟨b, off, rfl, hb, hc⟩ := (hP.later hB.out) (by intro e; subst e; simp at hkl)
      obtain ⟨c0, c1⟩ := hc k hkl
      clear hc
      have hst := norm_step l k _ (take_snoc l (0, 0) k hkl)
      rw [← hm.out] at hst
      have hml : m.length ≤ 1048576 := by
        rw [hm.out]
        have h8 := norm_len (l.take k)
        rw [List.length_take] at h8
        omega
      generalize l.getD k (0, 0) = q at c0 c1 hst
      obtain ⟨x, y⟩ := q
      dsimp only at c0 c1
      obtain ⟨r, hr⟩ : ∃ r, Hid (normL (l.take (k + 1)) = r) := ⟨_, rfl⟩
      rw [hr.out] at hst
      replace hst := Lib.hid hst
      obtain ⟨M, hM⟩ : ∃ M, Hid (m.length = M) := ⟨_, rfl⟩
      have hMm := hM.out
      rw [hMm] at hml hO ⊢
      clear hMm hm
      obtain ⟨o1, o2, o3⟩ := hO
      replace o3 := Lib.hid o3
      have hmx : maxLen = 9223372036854775807 := rfl
      rw [hmx] at o2
      clear hmx
      have hba := Lib.hid (later_alloc wr (.cells #[.int .i64 x, .int .i64 y] 60))
      have hq0 : (wr.alloc (.cells #[.int .i64 x, .int .i64 y] 60)).cell? ⟨wr.heap.size, 0, none⟩ = some (.int .i64 x) := cell_of_row _ _ 0 _ _ _ (World.alloc_heap_new wr _)
      have hq1 : (wr.alloc (.cells #[.int .i64 x, .int .i64 y] 60)).cell? ⟨wr.heap.size, 1, none⟩ = some (.int .i64 y) := cell_of_row _ _ 1 _ _ _ (World.alloc_heap_new wr _)
      go_wp2_with fail
      obtain ⟨W1, hW1⟩ : ∃ W1, wr.alloc (.cells #[.int .i64 x, .int .i64 y] 60) = W1 := ⟨_, rfl⟩
      have hs1 : wr.heap.size < W1.heap.size := by rw [← hW1]; simp
      rw [hW1] at hba hq0 hq1 ⊢
      replace hW1 := Lib.hid hW1
      obtain ⟨BX, hBX⟩ : ∃ BX, wr.heap.size = BX := ⟨_, rfl⟩
      have hN1 := Lib.hid (hN.out.later hba.out)
      have hB1 := Lib.hid (hB.out.trans (hba.out.mono hB.out.size))
      rw [hBX] at hq0 hq1 hs1 hba ⊢
      replace hBX := Lib.hid hBX
      clear hN c0 c1 hba
      replace hq0 := Lib.hid hq0
      replace hq1 := Lib.hid hq1
      go_loopw [6] (fun i W => ∃ j : Nat, j ≤ M ∧ i = .int .i64 j ∧ Hid (∀ t, t < j → t < m.length → ltP (m.getD t (0, 0)) (x, y) = true) ∧ Hid (Below W1.heap.size W1 W)) (fun i _ => M - (intOf i).toNat)
      case atStart => exact ⟨0, Nat.zero_le _, rfl, fun j hj => absurd hj (Nat.not_lt_zero j), Below.refl _ _⟩
      case round =>
        obtain ⟨j, hj, rfl, hno, hBW⟩ := hrel
        have q0 := (hBW.out.cell (p := ⟨BX, 0, none⟩) hs1).trans hq0.out
        have q1 := (hBW.out.cell (p := ⟨BX, 1, none⟩) hs1).trans hq1.out
        by_cases hjm : j < M
        · have hjl : j < m.length := by rw [hM.out]; exact hjm
          obtain ⟨bm, om, rfl, hbm, hcm⟩ := (hN1.out.later hBW.out) (by intro e; subst e; simp at hjl)
          obtain ⟨e0, e1⟩ := hcm j hjl
          replace hcm := Lib.hid hcm
          replace hbm := Lib.hid hbm
          have hins := Lib.hid (ins_at linP (x, y) (0, 0) m j hjl hno.out)
          have hnx : Hid (ltP (m.getD j (0, 0)) (x, y) = true → ∀ t, t < j + 1 → t < m.length → ltP (m.getD t (0, 0)) (x, y) = true) := fun h t ht hl => by
            by_cases e : t = j
            · rw [e]; exact h
            · exact hno.out t (by omega) hl
          generalize m.getD j (0, 0) = z at e0 e1 hins hnx
          obtain ⟨z0, z1⟩ := z
          dsimp only at e0 e1
          have hlp : Hid (ltP (z0, z1) (x, y) = (decide (z0 < x) || (decide (z0 = x) && decide (z1 < y)))) := rfl
          have hjM : (j : Int) < (M : Int) := by omega
          by_cases d1 : z0 < x
          · have hd1 : decide (z0 < x) = true := decide_eq_true d1
            have hnx2 := Lib.hid (hnx.out (by rw [hlp.out, hd1]; rfl))
            clear hins hnx hlp
            go_wp2_with fail
            go_quiet (fail)
            all_goals
              go_wp2_with fail
              go_roundw
              case rel => exact ⟨j + 1, by omega, by go_num, hnx2.out, belowN hBW.out _⟩
              case measure => simp [intOf]; omega
          · have hd1 : decide (z0 < x) = false := decide_eq_false d1
            by_cases d2 : z0 = x
            · have hd2 : decide (z0 = x) = true := decide_eq_true d2
              have hd2b : (z0 == x) = true := beq_iff_eq.2 d2
              by_cases d3 : z1 < y
              · have hd3 : decide (z1 < y) = true := decide_eq_true d3
                have hnx2 := Lib.hid (hnx.out (by rw [hlp.out, hd2, hd3]; simp))
                clear hins hnx hlp
                replace d2 := Lib.hid d2
                go_wp2_with fail
                go_quiet (fail)
                all_goals
                  go_wp2_with fail
                  go_roundw
                  case rel => exact ⟨j + 1, by omega, by go_num, hnx2.out, belowN hBW.out _⟩
                  case measure => simp [intOf]; omega
              · have hd3 : decide (z1 < y) = false := decide_eq_false d3
                replace d2 := Lib.hid d2
                by_cases d4 : x = y
                · have hd4 : decide (x = y) = true := decide_eq_true d4
                  have hd4b : (x == y) = true := beq_iff_eq.2 d4
                  have hrm : Hid (m = r) := by
                    have h := hst.out
                    rw [if_neg (by unfold unlike; simp [hd4b])] at h
                    exact h.symm
                  replace d4 := Lib.hid d4
                  clear hins hnx hlp
                  go_wp2_with fail
                  go_quiet (fail)
                  all_goals
                    obtain ⟨W2, hW2⟩ : ∃ W2, wr.drewN nq = W2 := ⟨_, rfl⟩
                    have q0 : W2.cell? ⟨BX, 0, none⟩ = some (.int .i64 x) := by rw [← hW2]; exact q0
                    have q1 : W2.cell? ⟨BX, 1, none⟩ = some (.int .i64 y) := by rw [← hW2]; exact q1
                    have hBW : Hid (Below W1.heap.size W1 W2) := by rw [← hW2]; exact belowN hBW.out _
                    have hbx : Hid (BX < W2.heap.size) := Nat.lt_of_lt_of_le hs1 hBW.out.size
                    have e0 : W2.cell? ⟨bm, om + j * 2, none⟩ = some (.int .i64 z0) := by rw [← hW2]; exact e0
                    have e1 : W2.cell? ⟨bm, om + j * 2 + 1, none⟩ = some (.int .i64 z1) := by rw [← hW2]; exact e1
                    have hcm : Hid (PRow W2 bm om m) := by rw [← hW2]; exact hcm.out
                    have hbm : Hid (bm < W2.heap.size) := by rw [← hW2]; exact hbm.out
                    rw [hW2]
                    clear hW2
                    go_wp2_with fail
                    go_quiet (fail)
                    all_goals
                      obtain ⟨W3, hW3⟩ : ∃ W3, W2.drewN nq = W3 := ⟨_, rfl⟩
                      have q0 : W3.cell? ⟨BX, 0, none⟩ = some (.int .i64 x) := by rw [← hW3]; exact q0
                      have q1 : W3.cell? ⟨BX, 1, none⟩ = some (.int .i64 y) := by rw [← hW3]; exact q1
                      have hBW : Hid (Below W1.heap.size W1 W3) := by rw [← hW3]; exact belowN hBW.out _
                      have hbx : Hid (BX < W3.heap.size) := Nat.lt_of_lt_of_le hs1 hBW.out.size
                      have e0 : W3.cell? ⟨bm, om + j * 2, none⟩ = some (.int .i64 z0) := by rw [← hW3]; exact e0
                      have e1 : W3.cell? ⟨bm, om + j * 2 + 1, none⟩ = some (.int .i64 z1) := by rw [← hW3]; exact e1
                      have hcm : Hid (PRow W3 bm om m) := by rw [← hW3]; exact hcm.out
                      have hbm : Hid (bm < W3.heap.size) := by rw [← hW3]; exact hbm.out
                      rw [hW3]
                      clear hW3
                      go_wp2_with fail
                      go_roundw
                      case rel => exact ⟨k + 1, _, cm, m, by omega, by go_num, by rw [hM.out], by rw [hr.out]; exact hrm.out, hN1.out.later hBW.out, ⟨by rw [hM.out]; exact o1, o2, o3.out⟩, hZ.out, hB1.out.trans (hBW.out.mono hB1.out.size)⟩
                      case measure => simp [intOf]; omega

                · by_cases d5 : z1 = y
                  · replace d5 := Lib.hid d5
                    have hd4 : decide (x = y) = false := decide_eq_false d4
                    have hd4b : (x == y) = false := beq_eq_false_iff_ne.2 d4
                    have hri : Hid (r = ins ltP (x, y) m) := by
                      have h := hst.out
                      rw [if_pos (by unfold unlike; simp [hd4b])] at h
                      exact h
                    replace d4 := Lib.hid d4
                    have hrm : Hid (m = r) := by show _ = _; rw [hri.out]; exact ((hins.out (by rw [hlp.out]; simp [hd1, hd2, hd3])).2 (by unfold ltP; simp [d2.out, d5.out])).symm
                    have hsp : sameP z0 z1 x y = true := by unfold sameP; rw [hd2b, beq_iff_eq.2 d5.out]; rfl
                    have heq : ∀ w, Sem.run Tryz.prog (binOp .eql 60 (.agg #[.int .i64 z0, .int .i64 z1]) (.agg #[.int .i64 x, .int .i64 y])) w = .ok (.bool true) w := fun w => by rw [eqPairR, hsp]
                    have hgd : ∀ (op : BinOp) (a b : Operand) w, Sem.run Tryz.prog (eqGuard op 60 a b (.agg #[.int .i64 z0, .int .i64 z1]) (.agg #[.int .i64 x, .int .i64 y])) w = .ok () w := fun op a b w => guardPairR op a b _ _ w
                    replace hsp := Lib.hid hsp
                    clear hins hnx hlp
                    go_wp2_with fail
                    go_quiet (fail)
                    all_goals
                      obtain ⟨W2, hW2⟩ : ∃ W2, wr.drewN nq = W2 := ⟨_, rfl⟩
                      have q0 : W2.cell? ⟨BX, 0, none⟩ = some (.int .i64 x) := by rw [← hW2]; exact q0
                      have q1 : W2.cell? ⟨BX, 1, none⟩ = some (.int .i64 y) := by rw [← hW2]; exact q1
                      have hBW : Hid (Below W1.heap.size W1 W2) := by rw [← hW2]; exact belowN hBW.out _
                      have hbx : Hid (BX < W2.heap.size) := Nat.lt_of_lt_of_le hs1 hBW.out.size
                      have e0 : W2.cell? ⟨bm, om + j * 2, none⟩ = some (.int .i64 z0) := by rw [← hW2]; exact e0
                      have e1 : W2.cell? ⟨bm, om + j * 2 + 1, none⟩ = some (.int .i64 z1) := by rw [← hW2]; exact e1
                      have hcm : Hid (PRow W2 bm om m) := by rw [← hW2]; exact hcm.out
                      have hbm : Hid (bm < W2.heap.size) := by rw [← hW2]; exact hbm.out
                      rw [hW2]
                      clear hW2
                      go_wp2_with fail
                      go_quiet (fail)
                      all_goals
                        obtain ⟨W3, hW3⟩ : ∃ W3, W2.drewN nq = W3 := ⟨_, rfl⟩
                        have q0 : W3.cell? ⟨BX, 0, none⟩ = some (.int .i64 x) := by rw [← hW3]; exact q0
                        have q1 : W3.cell? ⟨BX, 1, none⟩ = some (.int .i64 y) := by rw [← hW3]; exact q1
                        have hBW : Hid (Below W1.heap.size W1 W3) := by rw [← hW3]; exact belowN hBW.out _
                        have hbx : Hid (BX < W3.heap.size) := Nat.lt_of_lt_of_le hs1 hBW.out.size
                        have e0 : W3.cell? ⟨bm, om + j * 2, none⟩ = some (.int .i64 z0) := by rw [← hW3]; exact e0
                        have e1 : W3.cell? ⟨bm, om + j * 2 + 1, none⟩ = some (.int .i64 z1) := by rw [← hW3]; exact e1
                        have hcm : Hid (PRow W3 bm om m) := by rw [← hW3]; exact hcm.out
                        have hbm : Hid (bm < W3.heap.size) := by rw [← hW3]; exact hbm.out
                        rw [hW3]
                        clear hW3
                        go_wp2_with fail
                        go_roundw
                        case rel => exact ⟨k + 1, _, cm, m, by omega, by go_num, by rw [hM.out], by rw [hr.out]; exact hrm.out, hN1.out.later hBW.out, ⟨by rw [hM.out]; exact o1, o2, o3.out⟩, hZ.out, hB1.out.trans (hBW.out.mono hB1.out.size)⟩
                        case measure => simp [intOf]; omega

                  · replace d5 := Lib.hid d5
                    have hd4 : decide (x = y) = false := decide_eq_false d4
                    have hd4b : (x == y) = false := beq_eq_false_iff_ne.2 d4
                    have hri : Hid (r = ins ltP (x, y) m) := by
                      have h := hst.out
                      rw [if_pos (by unfold unlike; simp [hd4b])] at h
                      exact h
                    replace d4 := Lib.hid d4
                    have e : Hid (r = m.take j ++ [(x, y)] ++ m.drop j) := by show _ = _; rw [hri.out]; exact (hins.out (by rw [hlp.out]; simp [hd1, hd2, hd3])).1 (by unfold ltP; simp; have a := d2.out; have a5 := d5.out; omega)
                    have hsp : sameP z0 z1 x y = false := by unfold sameP; rw [hd2b, beq_eq_false_iff_ne.2 d5.out]; rfl
                    have heq : ∀ w, Sem.run Tryz.prog (binOp .eql 60 (.agg #[.int .i64 z0, .int .i64 z1]) (.agg #[.int .i64 x, .int .i64 y])) w = .ok (.bool false) w := fun w => by rw [eqPairR, hsp]
                    have hgd : ∀ (op : BinOp) (a b : Operand) w, Sem.run Tryz.prog (eqGuard op 60 a b (.agg #[.int .i64 z0, .int .i64 z1]) (.agg #[.int .i64 x, .int .i64 y])) w = .ok () w := fun op a b w => guardPairR op a b _ _ w
                    replace hsp := Lib.hid hsp
                    clear hins hnx hlp
                    go_wp2_with fail
                    go_quiet (fail)
                    all_goals
                      obtain ⟨W2, hW2⟩ : ∃ W2, wr.drewN nq = W2 := ⟨_, rfl⟩
                      have q0 : W2.cell? ⟨BX, 0, none⟩ = some (.int .i64 x) := by rw [← hW2]; exact q0
                      have q1 : W2.cell? ⟨BX, 1, none⟩ = some (.int .i64 y) := by rw [← hW2]; exact q1
                      have hBW : Hid (Below W1.heap.size W1 W2) := by rw [← hW2]; exact belowN hBW.out _
                      have hbx : Hid (BX < W2.heap.size) := Nat.lt_of_lt_of_le hs1 hBW.out.size
                      have e0 : W2.cell? ⟨bm, om + j * 2, none⟩ = some (.int .i64 z0) := by rw [← hW2]; exact e0
                      have e1 : W2.cell? ⟨bm, om + j * 2 + 1, none⟩ = some (.int .i64 z1) := by rw [← hW2]; exact e1
                      have hcm : Hid (PRow W2 bm om m) := by rw [← hW2]; exact hcm.out
                      have hbm : Hid (bm < W2.heap.size) := by rw [← hW2]; exact hbm.out
                      rw [hW2]
                      clear hW2
                      go_wp2_with fail
                      go_quiet (fail)
                      all_goals
                        obtain ⟨W3, hW3⟩ : ∃ W3, W2.drewN nq = W3 := ⟨_, rfl⟩
                        have q0 : W3.cell? ⟨BX, 0, none⟩ = some (.int .i64 x) := by rw [← hW3]; exact q0
                        have q1 : W3.cell? ⟨BX, 1, none⟩ = some (.int .i64 y) := by rw [← hW3]; exact q1
                        have hBW : Hid (Below W1.heap.size W1 W3) := by rw [← hW3]; exact belowN hBW.out _
                        have hbx : Hid (BX < W3.heap.size) := Nat.lt_of_lt_of_le hs1 hBW.out.size
                        have e0 : W3.cell? ⟨bm, om + j * 2, none⟩ = some (.int .i64 z0) := by rw [← hW3]; exact e0
                        have e1 : W3.cell? ⟨bm, om + j * 2 + 1, none⟩ = some (.int .i64 z1) := by rw [← hW3]; exact e1
                        have hcm : Hid (PRow W3 bm om m) := by rw [← hW3]; exact hcm.out
                        have hbm : Hid (bm < W3.heap.size) := by rw [← hW3]; exact hbm.out
                        rw [hW3]
                        clear hW3
                        go_wp2_with fail
                        have hkc : j ≤ cm := by omega
                        have hkc2 : (j : Int) ≤ (cm : Int) := by omega
                        have hkL : (j : Int) ≤ (M : Int) := by omega
                        have hck : ¬ cm = j := by omega
                        have hrow2 : Hid (∀ W, Below W3.heap.size W3 W → ∀ ad : Addr, some (⟨bm, om + j * 2, none⟩ : Addr) = some ad → ∀ i u, (cellsP (m.drop j))[i]? = some u → W.cell? (ad.add i) = some u) := fun W hW ad had => by
                          injection had with had
                          subst had
                          exact prow_news (k := j) (hcm.out.block (hW.block bm hbm.out)) (dropP_at m j)
                        have hlt2 : (cellsP (m.drop j)).length = (M - j) * 2 := by rw [cellsP_len, List.length_drop, hM.out]
                        have hrow1 : Hid (∀ W, Below W3.heap.size W3 W → ∀ ad : Addr, some (⟨bm, om, none⟩ : Addr) = some ad → ∀ i u, (cellsP (m.take j))[i]? = some u → W.cell? (ad.add i) = some u) := fun W hW ad had => by
                          injection had with had
                          subst had
                          exact prow_news (k := 0) (hcm.out.block (hW.block bm hbm.out)) (takeP_at m j)
                        have hlt1 : (cellsP (m.take j)).length = j * 2 := by rw [cellsP_len, List.length_take, hM.out]; omega
                        have hbA : Hid (Below W3.heap.size W3 W3.drew) := (Below.refl _ _).drew
                        have hbB : Hid (Below W3.heap.size W3 (W3.drew.alloc (.cells #[.int .i64 x, .int .i64 y] 60))) := (Below.refl W3.heap.size W3).drew.alloc (Nat.le_refl _) _
                        have hsB : Hid (W3.heap.size + 1 ≤ (W3.drew.alloc (.cells #[.int .i64 x, .int .i64 y] 60)).heap.size) := by show _ ≤ _; rw [World.size_alloc]; exact Nat.le_refl _
                        have hxB : Hid (∀ W, Below (W3.heap.size + 1) (W3.drew.alloc (.cells #[.int .i64 x, .int .i64 y] 60)) W → ∀ j u, [Value.int .i64 x, .int .i64 y][j]? = some u → W.cell? ((⟨W3.heap.size, 0, none⟩ : Addr).add j) = some u) := fun W hW j u hj => (hW.cell (p := (⟨W3.heap.size, 0, none⟩ : Addr).add j) (by rw [Addr.add_lit]; show W3.heap.size < W3.heap.size + 1; omega)).trans (news_pair W3.drew x y _ j u hj)
                        go_wp2_with fail
                        go_region_law (first
                          | (refine step_append_sl rfl (.const (.slice none 0 0)) (.tmp 74) 27 rfl W3.heap.size 60 i0 (.agg #[.int .i64 0, .int .i64 0]) 2 16 Tryz.underlying27 hi.out hz0.out hz1.out hz2.out rfl (by decide) (.slice none 0 0) 0 [] (by go_simp) (World.ownsRow_nil _ _ _ _) (some ⟨bm, om, none⟩) j cm (cellsP (m.take j)) (by go_simp) (fun h => by cases h) hlt1 (hrow1.out _ hbA.out) (cells_one _) (by unfold maxLen; omega) (by omega) hbA.out.size ?_
                             intro v1 w1 hown1 hg1
                             have hb1 : Hid (Below W3.heap.size W3 w1) := hg1 _ _ hbA.out hbA.out.size (fun _ h => by cases h)
                             have q0a : w1.cell? ⟨BX, 0, none⟩ = some (.int .i64 x) := (hb1.out.cell (p := ⟨BX, 0, none⟩) hbx.out).trans q0
                             have q1a : w1.cell? ⟨BX, 1, none⟩ = some (.int .i64 y) := (hb1.out.cell (p := ⟨BX, 1, none⟩) hbx.out).trans q1
                             replace hown1 := Lib.hid hown1
                             have hown1a := Lib.hid (own_later hown1.out (later_alloc w1 (.cells #[.int .i64 x, .int .i64 y] 60)))
                             have hb1a : Hid (Below W3.heap.size W3 (w1.alloc (.cells #[.int .i64 x, .int .i64 y] 60))) := hb1.out.alloc hb1.out.size _
                             have hx1a : Hid (∀ j u, [Value.int .i64 x, .int .i64 y][j]? = some u → (w1.alloc (.cells #[.int .i64 x, .int .i64 y] 60)).cell? ((⟨w1.heap.size, 0, none⟩ : Addr).add j) = some u) := news_pair w1 x y _
                             clear hg1)
                          | (refine step_append_sl rfl (.const (.slice none 0 0)) (.tmp 74) 27 rfl (W3.heap.size + 1) 60 i0 (.agg #[.int .i64 0, .int .i64 0]) 2 16 Tryz.underlying27 hi.out hz0.out hz1.out hz2.out rfl (by decide) (.slice none 0 0) 0 [] (by go_simp) (World.ownsRow_nil _ _ _ _) (some ⟨bm, om, none⟩) j cm (cellsP (m.take j)) (by go_simp) (fun h => by cases h) hlt1 (hrow1.out _ hbB.out) (cells_one _) (by unfold maxLen; omega) (by omega) hsB.out ?_
                             intro v1 w1 hown1 hg1
                             have hb1 : Hid (Below W3.heap.size W3 w1) := hg1 _ _ hbB.out hbB.out.size (fun _ h => by cases h)
                             have hx1 : Hid (∀ j u, [Value.int .i64 x, .int .i64 y][j]? = some u → w1.cell? ((⟨W3.heap.size, 0, none⟩ : Addr).add j) = some u) := hxB.out w1 (hg1 (W3.heap.size + 1) (W3.drew.alloc (.cells #[.int .i64 x, .int .i64 y] 60)) (Below.refl _ _) hsB.out (fun _ h => by cases h))
                             replace hown1 := Lib.hid hown1
                             clear hg1)
                          | (refine step_append_sl rfl (.tmp 75) (.tmp 77) 27 rfl (W3.heap.size + 1) 60 i0 (.agg #[.int .i64 0, .int .i64 0]) 2 16 Tryz.underlying27 hi.out hz0.out hz1.out hz2.out rfl (by decide) v1 (0 + j) ([] ++ (cellsP (m.take j))) (by go_simp) hown1.out (some ⟨W3.heap.size, 0, none⟩) 1 1 [Value.int .i64 x, .int .i64 y] (by go_simp) (fun h => by cases h) rfl (fun ad h => by injection h with h; subst h; exact hx1.out) (news_pair1 x y) (by unfold maxLen; omega) (by omega) (show W3.heap.size + 1 ≤ w1.heap.size from World.block_lt_of_cell? _ _ (hx1.out 0 _ rfl)) ?_
                             intro v2 w2 hown2 hg2
                             have hb2 : Hid (Below W3.heap.size W3 w2) := hg2 _ _ hb1.out hb1.out.size (fun k h => Nat.le_of_succ_le (own_block hown1.out k h))
                             replace hown2 := Lib.hid hown2
                             clear hg2)
                          | (refine step_append_sl rfl (.tmp 75) (.tmp 77) 27 rfl W3.heap.size 60 i0 (.agg #[.int .i64 0, .int .i64 0]) 2 16 Tryz.underlying27 hi.out hz0.out hz1.out hz2.out rfl (by decide) v1 (0 + j) ([] ++ (cellsP (m.take j))) (by go_simp) hown1a.out (some ⟨w1.heap.size, 0, none⟩) 1 1 [Value.int .i64 x, .int .i64 y] (by go_simp) (fun h => by cases h) rfl (fun ad h => by injection h with h; subst h; exact hx1a.out) (news_pair1 x y) (by unfold maxLen; omega) (by omega) hb1a.out.size ?_
                             intro v2 w2 hown2 hg2
                             have hb2 : Hid (Below W3.heap.size W3 w2) := hg2 _ _ hb1a.out hb1a.out.size (own_block hown1a.out)
                             replace hown2 := Lib.hid hown2
                             clear hg2)
                          | (refine step_append_sl rfl (.tmp 78) (.tmp 81) 27 rfl _ 60 i0 (.agg #[.int .i64 0, .int .i64 0]) 2 16 Tryz.underlying27 hi.out hz0.out hz1.out hz2.out rfl (by decide) v2 (0 + j + 1) ([] ++ (cellsP (m.take j)) ++ [Value.int .i64 x, .int .i64 y]) (by go_simp) hown2.out (some ⟨bm, om + j * 2, none⟩) (M - j) (cm - j) (cellsP (m.drop j)) (by go_simp) (fun h => by cases h) hlt2 (hrow2.out _ hb2.out) (cells_one _) (by unfold maxLen; omega) (by omega) (own_base hown2.out (by decide) (by omega)) ?_
                             intro v3 w3 hown3 hg3
                             have hb3 : Hid (Below W3.heap.size W3 w3) := hg3 _ _ hb2.out hb2.out.size (fun k h => by have := own_block hown2.out k h; omega)
                             replace hown3 := Lib.hid hown3
                             clear hg3))
                        all_goals
                          have h9 := hown3.out
                          have e9 : [] ++ cellsP (m.take j) ++ [.int .i64 x, .int .i64 y] ++ cellsP (m.drop j) = cellsP r := by rw [e.out, cellsP_append, cellsP_append]; rfl
                          have n9 : 0 + j + 1 + (M - j) = r.length := by rw [e.out]; have := hM.out; simp; omega
                          rw [e9, n9] at h9
                          obtain ⟨A5, c5, e5, h5, -⟩ := prs_own h9
                          subst e5
                          have hok5 := Lib.hid (own_ok h9)
                          have hB5 := Lib.hid ((hB1.out.trans (hBW.out.mono hB1.out.size)).trans (hb3.out.mono (Nat.le_trans hB1.out.size hBW.out.size)))
                          have hrn : Hid (r ≠ []) := by show _ ≠ _; rw [e.out]; simp
                          replace h5 := Lib.hid h5
                          replace hr := hr
                          clear hown3 h9 e9 n9
                          go_wp2_with fail
                          all_goals
                            go_roundw
                            case rel => exact ⟨k + 1, A5, c5, r, by omega, by go_num, rfl, hr.out.symm, h5.out, hok5.out, fun h => absurd h hrn.out, hB5.out⟩
                            case measure => simp [intOf]; omega
            · have hd2 : decide (z0 = x) = false := decide_eq_false d2
              have hd2b : (z0 == x) = false := beq_eq_false_iff_ne.2 d2
              by_cases d4 : x = y
              · have hd4 : decide (x = y) = true := decide_eq_true d4
                have hd4b : (x == y) = true := beq_iff_eq.2 d4
                have hrm : Hid (m = r) := by
                  have h := hst.out
                  rw [if_neg (by unfold unlike; simp [hd4b])] at h
                  exact h.symm
                replace d4 := Lib.hid d4
                clear hins hnx hlp
                go_wp2_with fail
                go_quiet (fail)
                all_goals
                  obtain ⟨W2, hW2⟩ : ∃ W2, wr.drewN nq = W2 := ⟨_, rfl⟩
                  have q0 : W2.cell? ⟨BX, 0, none⟩ = some (.int .i64 x) := by rw [← hW2]; exact q0
                  have q1 : W2.cell? ⟨BX, 1, none⟩ = some (.int .i64 y) := by rw [← hW2]; exact q1
                  have hBW : Hid (Below W1.heap.size W1 W2) := by rw [← hW2]; exact belowN hBW.out _
                  have hbx : Hid (BX < W2.heap.size) := Nat.lt_of_lt_of_le hs1 hBW.out.size
                  have e0 : W2.cell? ⟨bm, om + j * 2, none⟩ = some (.int .i64 z0) := by rw [← hW2]; exact e0
                  have e1 : W2.cell? ⟨bm, om + j * 2 + 1, none⟩ = some (.int .i64 z1) := by rw [← hW2]; exact e1
                  have hcm : Hid (PRow W2 bm om m) := by rw [← hW2]; exact hcm.out
                  have hbm : Hid (bm < W2.heap.size) := by rw [← hW2]; exact hbm.out
                  rw [hW2]
                  clear hW2
                  go_wp2_with fail
                  go_quiet (fail)
                  all_goals
                    obtain ⟨W3, hW3⟩ : ∃ W3, W2.drewN nq = W3 := ⟨_, rfl⟩
                    have q0 : W3.cell? ⟨BX, 0, none⟩ = some (.int .i64 x) := by rw [← hW3]; exact q0
                    have q1 : W3.cell? ⟨BX, 1, none⟩ = some (.int .i64 y) := by rw [← hW3]; exact q1
                    have hBW : Hid (Below W1.heap.size W1 W3) := by rw [← hW3]; exact belowN hBW.out _
                    have hbx : Hid (BX < W3.heap.size) := Nat.lt_of_lt_of_le hs1 hBW.out.size
                    have e0 : W3.cell? ⟨bm, om + j * 2, none⟩ = some (.int .i64 z0) := by rw [← hW3]; exact e0
                    have e1 : W3.cell? ⟨bm, om + j * 2 + 1, none⟩ = some (.int .i64 z1) := by rw [← hW3]; exact e1
                    have hcm : Hid (PRow W3 bm om m) := by rw [← hW3]; exact hcm.out
                    have hbm : Hid (bm < W3.heap.size) := by rw [← hW3]; exact hbm.out
                    rw [hW3]
                    clear hW3
                    go_wp2_with fail
                    go_roundw
                    case rel => exact ⟨k + 1, _, cm, m, by omega, by go_num, by rw [hM.out], by rw [hr.out]; exact hrm.out, hN1.out.later hBW.out, ⟨by rw [hM.out]; exact o1, o2, o3.out⟩, hZ.out, hB1.out.trans (hBW.out.mono hB1.out.size)⟩
                    case measure => simp [intOf]; omega

              · have hd4 : decide (x = y) = false := decide_eq_false d4
                have hd4b : (x == y) = false := beq_eq_false_iff_ne.2 d4
                have hri : Hid (r = ins ltP (x, y) m) := by
                  have h := hst.out
                  rw [if_pos (by unfold unlike; simp [hd4b])] at h
                  exact h
                replace d4 := Lib.hid d4
                have e : Hid (r = m.take j ++ [(x, y)] ++ m.drop j) := by show _ = _; rw [hri.out]; exact (hins.out (by rw [hlp.out]; simp [hd1, hd2])).1 (by unfold ltP; simp; omega)
                have hsp : sameP z0 z1 x y = false := by unfold sameP; rw [hd2b]; rfl
                have heq : ∀ w, Sem.run Tryz.prog (binOp .eql 60 (.agg #[.int .i64 z0, .int .i64 z1]) (.agg #[.int .i64 x, .int .i64 y])) w = .ok (.bool false) w := fun w => by rw [eqPairR, hsp]
                have hgd : ∀ (op : BinOp) (a b : Operand) w, Sem.run Tryz.prog (eqGuard op 60 a b (.agg #[.int .i64 z0, .int .i64 z1]) (.agg #[.int .i64 x, .int .i64 y])) w = .ok () w := fun op a b w => guardPairR op a b _ _ w
                replace hsp := Lib.hid hsp
                clear hins hnx hlp
                go_wp2_with fail
                go_quiet (fail)
                all_goals
                  obtain ⟨W2, hW2⟩ : ∃ W2, wr.drewN nq = W2 := ⟨_, rfl⟩
                  have q0 : W2.cell? ⟨BX, 0, none⟩ = some (.int .i64 x) := by rw [← hW2]; exact q0
                  have q1 : W2.cell? ⟨BX, 1, none⟩ = some (.int .i64 y) := by rw [← hW2]; exact q1
                  have hBW : Hid (Below W1.heap.size W1 W2) := by rw [← hW2]; exact belowN hBW.out _
                  have hbx : Hid (BX < W2.heap.size) := Nat.lt_of_lt_of_le hs1 hBW.out.size
                  have e0 : W2.cell? ⟨bm, om + j * 2, none⟩ = some (.int .i64 z0) := by rw [← hW2]; exact e0
                  have e1 : W2.cell? ⟨bm, om + j * 2 + 1, none⟩ = some (.int .i64 z1) := by rw [← hW2]; exact e1
                  have hcm : Hid (PRow W2 bm om m) := by rw [← hW2]; exact hcm.out
                  have hbm : Hid (bm < W2.heap.size) := by rw [← hW2]; exact hbm.out
                  rw [hW2]
                  clear hW2
                  go_wp2_with fail
                  go_quiet (fail)
                  all_goals
                    obtain ⟨W3, hW3⟩ : ∃ W3, W2.drewN nq = W3 := ⟨_, rfl⟩
                    have q0 : W3.cell? ⟨BX, 0, none⟩ = some (.int .i64 x) := by rw [← hW3]; exact q0
                    have q1 : W3.cell? ⟨BX, 1, none⟩ = some (.int .i64 y) := by rw [← hW3]; exact q1
                    have hBW : Hid (Below W1.heap.size W1 W3) := by rw [← hW3]; exact belowN hBW.out _
                    have hbx : Hid (BX < W3.heap.size) := Nat.lt_of_lt_of_le hs1 hBW.out.size
                    have e0 : W3.cell? ⟨bm, om + j * 2, none⟩ = some (.int .i64 z0) := by rw [← hW3]; exact e0
                    have e1 : W3.cell? ⟨bm, om + j * 2 + 1, none⟩ = some (.int .i64 z1) := by rw [← hW3]; exact e1
                    have hcm : Hid (PRow W3 bm om m) := by rw [← hW3]; exact hcm.out
                    have hbm : Hid (bm < W3.heap.size) := by rw [← hW3]; exact hbm.out
                    rw [hW3]
                    clear hW3
                    go_wp2_with fail
                    have hkc : j ≤ cm := by omega
                    have hkc2 : (j : Int) ≤ (cm : Int) := by omega
                    have hkL : (j : Int) ≤ (M : Int) := by omega
                    have hck : ¬ cm = j := by omega
                    have hrow2 : Hid (∀ W, Below W3.heap.size W3 W → ∀ ad : Addr, some (⟨bm, om + j * 2, none⟩ : Addr) = some ad → ∀ i u, (cellsP (m.drop j))[i]? = some u → W.cell? (ad.add i) = some u) := fun W hW ad had => by
                      injection had with had
                      subst had
                      exact prow_news (k := j) (hcm.out.block (hW.block bm hbm.out)) (dropP_at m j)
                    have hlt2 : (cellsP (m.drop j)).length = (M - j) * 2 := by rw [cellsP_len, List.length_drop, hM.out]
                    have hrow1 : Hid (∀ W, Below W3.heap.size W3 W → ∀ ad : Addr, some (⟨bm, om, none⟩ : Addr) = some ad → ∀ i u, (cellsP (m.take j))[i]? = some u → W.cell? (ad.add i) = some u) := fun W hW ad had => by
                      injection had with had
                      subst had
                      exact prow_news (k := 0) (hcm.out.block (hW.block bm hbm.out)) (takeP_at m j)
                    have hlt1 : (cellsP (m.take j)).length = j * 2 := by rw [cellsP_len, List.length_take, hM.out]; omega
                    have hbA : Hid (Below W3.heap.size W3 W3.drew) := (Below.refl _ _).drew
                    have hbB : Hid (Below W3.heap.size W3 (W3.drew.alloc (.cells #[.int .i64 x, .int .i64 y] 60))) := (Below.refl W3.heap.size W3).drew.alloc (Nat.le_refl _) _
                    have hsB : Hid (W3.heap.size + 1 ≤ (W3.drew.alloc (.cells #[.int .i64 x, .int .i64 y] 60)).heap.size) := by show _ ≤ _; rw [World.size_alloc]; exact Nat.le_refl _
                    have hxB : Hid (∀ W, Below (W3.heap.size + 1) (W3.drew.alloc (.cells #[.int .i64 x, .int .i64 y] 60)) W → ∀ j u, [Value.int .i64 x, .int .i64 y][j]? = some u → W.cell? ((⟨W3.heap.size, 0, none⟩ : Addr).add j) = some u) := fun W hW j u hj => (hW.cell (p := (⟨W3.heap.size, 0, none⟩ : Addr).add j) (by rw [Addr.add_lit]; show W3.heap.size < W3.heap.size + 1; omega)).trans (news_pair W3.drew x y _ j u hj)
                    go_wp2_with fail
                    go_region_law (first
                      | (refine step_append_sl rfl (.const (.slice none 0 0)) (.tmp 74) 27 rfl W3.heap.size 60 i0 (.agg #[.int .i64 0, .int .i64 0]) 2 16 Tryz.underlying27 hi.out hz0.out hz1.out hz2.out rfl (by decide) (.slice none 0 0) 0 [] (by go_simp) (World.ownsRow_nil _ _ _ _) (some ⟨bm, om, none⟩) j cm (cellsP (m.take j)) (by go_simp) (fun h => by cases h) hlt1 (hrow1.out _ hbA.out) (cells_one _) (by unfold maxLen; omega) (by omega) hbA.out.size ?_
                         intro v1 w1 hown1 hg1
                         have hb1 : Hid (Below W3.heap.size W3 w1) := hg1 _ _ hbA.out hbA.out.size (fun _ h => by cases h)
                         have q0a : w1.cell? ⟨BX, 0, none⟩ = some (.int .i64 x) := (hb1.out.cell (p := ⟨BX, 0, none⟩) hbx.out).trans q0
                         have q1a : w1.cell? ⟨BX, 1, none⟩ = some (.int .i64 y) := (hb1.out.cell (p := ⟨BX, 1, none⟩) hbx.out).trans q1
                         replace hown1 := Lib.hid hown1
                         have hown1a := Lib.hid (own_later hown1.out (later_alloc w1 (.cells #[.int .i64 x, .int .i64 y] 60)))
                         have hb1a : Hid (Below W3.heap.size W3 (w1.alloc (.cells #[.int .i64 x, .int .i64 y] 60))) := hb1.out.alloc hb1.out.size _
                         have hx1a : Hid (∀ j u, [Value.int .i64 x, .int .i64 y][j]? = some u → (w1.alloc (.cells #[.int .i64 x, .int .i64 y] 60)).cell? ((⟨w1.heap.size, 0, none⟩ : Addr).add j) = some u) := news_pair w1 x y _
                         clear hg1)
                      | (refine step_append_sl rfl (.const (.slice none 0 0)) (.tmp 74) 27 rfl (W3.heap.size + 1) 60 i0 (.agg #[.int .i64 0, .int .i64 0]) 2 16 Tryz.underlying27 hi.out hz0.out hz1.out hz2.out rfl (by decide) (.slice none 0 0) 0 [] (by go_simp) (World.ownsRow_nil _ _ _ _) (some ⟨bm, om, none⟩) j cm (cellsP (m.take j)) (by go_simp) (fun h => by cases h) hlt1 (hrow1.out _ hbB.out) (cells_one _) (by unfold maxLen; omega) (by omega) hsB.out ?_
                         intro v1 w1 hown1 hg1
                         have hb1 : Hid (Below W3.heap.size W3 w1) := hg1 _ _ hbB.out hbB.out.size (fun _ h => by cases h)
                         have hx1 : Hid (∀ j u, [Value.int .i64 x, .int .i64 y][j]? = some u → w1.cell? ((⟨W3.heap.size, 0, none⟩ : Addr).add j) = some u) := hxB.out w1 (hg1 (W3.heap.size + 1) (W3.drew.alloc (.cells #[.int .i64 x, .int .i64 y] 60)) (Below.refl _ _) hsB.out (fun _ h => by cases h))
                         replace hown1 := Lib.hid hown1
                         clear hg1)
                      | (refine step_append_sl rfl (.tmp 75) (.tmp 77) 27 rfl (W3.heap.size + 1) 60 i0 (.agg #[.int .i64 0, .int .i64 0]) 2 16 Tryz.underlying27 hi.out hz0.out hz1.out hz2.out rfl (by decide) v1 (0 + j) ([] ++ (cellsP (m.take j))) (by go_simp) hown1.out (some ⟨W3.heap.size, 0, none⟩) 1 1 [Value.int .i64 x, .int .i64 y] (by go_simp) (fun h => by cases h) rfl (fun ad h => by injection h with h; subst h; exact hx1.out) (news_pair1 x y) (by unfold maxLen; omega) (by omega) (show W3.heap.size + 1 ≤ w1.heap.size from World.block_lt_of_cell? _ _ (hx1.out 0 _ rfl)) ?_
                         intro v2 w2 hown2 hg2
                         have hb2 : Hid (Below W3.heap.size W3 w2) := hg2 _ _ hb1.out hb1.out.size (fun k h => Nat.le_of_succ_le (own_block hown1.out k h))
                         replace hown2 := Lib.hid hown2
                         clear hg2)
                      | (refine step_append_sl rfl (.tmp 75) (.tmp 77) 27 rfl W3.heap.size 60 i0 (.agg #[.int .i64 0, .int .i64 0]) 2 16 Tryz.underlying27 hi.out hz0.out hz1.out hz2.out rfl (by decide) v1 (0 + j) ([] ++ (cellsP (m.take j))) (by go_simp) hown1a.out (some ⟨w1.heap.size, 0, none⟩) 1 1 [Value.int .i64 x, .int .i64 y] (by go_simp) (fun h => by cases h) rfl (fun ad h => by injection h with h; subst h; exact hx1a.out) (news_pair1 x y) (by unfold maxLen; omega) (by omega) hb1a.out.size ?_
                         intro v2 w2 hown2 hg2
                         have hb2 : Hid (Below W3.heap.size W3 w2) := hg2 _ _ hb1a.out hb1a.out.size (own_block hown1a.out)
                         replace hown2 := Lib.hid hown2
                         clear hg2)
                      | (refine step_append_sl rfl (.tmp 78) (.tmp 81) 27 rfl _ 60 i0 (.agg #[.int .i64 0, .int .i64 0]) 2 16 Tryz.underlying27 hi.out hz0.out hz1.out hz2.out rfl (by decide) v2 (0 + j + 1) ([] ++ (cellsP (m.take j)) ++ [Value.int .i64 x, .int .i64 y]) (by go_simp) hown2.out (some ⟨bm, om + j * 2, none⟩) (M - j) (cm - j) (cellsP (m.drop j)) (by go_simp) (fun h => by cases h) hlt2 (hrow2.out _ hb2.out) (cells_one _) (by unfold maxLen; omega) (by omega) (own_base hown2.out (by decide) (by omega)) ?_
                         intro v3 w3 hown3 hg3
                         have hb3 : Hid (Below W3.heap.size W3 w3) := hg3 _ _ hb2.out hb2.out.size (fun k h => by have := own_block hown2.out k h; omega)
                         replace hown3 := Lib.hid hown3
                         clear hg3))
                    all_goals
                      have h9 := hown3.out
                      have e9 : [] ++ cellsP (m.take j) ++ [.int .i64 x, .int .i64 y] ++ cellsP (m.drop j) = cellsP r := by rw [e.out, cellsP_append, cellsP_append]; rfl
                      have n9 : 0 + j + 1 + (M - j) = r.length := by rw [e.out]; have := hM.out; simp; omega
                      rw [e9, n9] at h9
                      obtain ⟨A5, c5, e5, h5, -⟩ := prs_own h9
                      subst e5
                      have hok5 := Lib.hid (own_ok h9)
                      have hB5 := Lib.hid ((hB1.out.trans (hBW.out.mono hB1.out.size)).trans (hb3.out.mono (Nat.le_trans hB1.out.size hBW.out.size)))
                      have hrn : Hid (r ≠ []) := by show _ ≠ _; rw [e.out]; simp
                      replace h5 := Lib.hid h5
                      replace hr := hr
                      clear hown3 h9 e9 n9
                      go_wp2_with fail
                      all_goals
                        go_roundw
                        case rel => exact ⟨k + 1, A5, c5, r, by omega, by go_num, rfl, hr.out.symm, h5.out, hok5.out, fun h => absurd h hrn.out, hB5.out⟩
                        case measure => simp [intOf]; omega
        · obtain rfl : j = M := by omega
          by_cases d4 : x = y
          · have hd4 : decide (x = y) = true := decide_eq_true d4
            have hd4b : (x == y) = true := beq_iff_eq.2 d4
            have hrm : Hid (m = r) := by
              have h := hst.out
              rw [if_neg (by unfold unlike; simp [hd4b])] at h
              exact h.symm
            replace d4 := Lib.hid d4
            go_wp2_with fail
            go_quiet (fail)
            all_goals
              obtain ⟨W2, hW2⟩ : ∃ W2, wr.drewN nq = W2 := ⟨_, rfl⟩
              have q0 : W2.cell? ⟨BX, 0, none⟩ = some (.int .i64 x) := by rw [← hW2]; exact q0
              have q1 : W2.cell? ⟨BX, 1, none⟩ = some (.int .i64 y) := by rw [← hW2]; exact q1
              have hBW : Hid (Below W1.heap.size W1 W2) := by rw [← hW2]; exact belowN hBW.out _
              have hbx : Hid (BX < W2.heap.size) := Nat.lt_of_lt_of_le hs1 hBW.out.size
              rw [hW2]
              clear hW2
              go_wp2_with fail
              go_quiet (fail)
              all_goals
                obtain ⟨W3, hW3⟩ : ∃ W3, W2.drewN nq = W3 := ⟨_, rfl⟩
                have q0 : W3.cell? ⟨BX, 0, none⟩ = some (.int .i64 x) := by rw [← hW3]; exact q0
                have q1 : W3.cell? ⟨BX, 1, none⟩ = some (.int .i64 y) := by rw [← hW3]; exact q1
                have hBW : Hid (Below W1.heap.size W1 W3) := by rw [← hW3]; exact belowN hBW.out _
                have hbx : Hid (BX < W3.heap.size) := Nat.lt_of_lt_of_le hs1 hBW.out.size
                rw [hW3]
                clear hW3
                go_wp2_with fail
                go_roundw
                case rel => exact ⟨k + 1, _, cm, m, by omega, by go_num, by rw [hM.out], by rw [hr.out]; exact hrm.out, hN1.out.later hBW.out, ⟨by rw [hM.out]; exact o1, o2, o3.out⟩, hZ.out, hB1.out.trans (hBW.out.mono hB1.out.size)⟩
                case measure => simp [intOf]; omega

          · by_cases hm0 : m = []
            · obtain ⟨rfl, rfl⟩ := hZ.out hm0
              have hj0 : j = 0 := by rw [← hM.out, hm0]; rfl
              subst hj0
              have hd4 : decide (x = y) = false := decide_eq_false d4
              have hd4b : (x == y) = false := beq_eq_false_iff_ne.2 d4
              have hri : Hid (r = ins ltP (x, y) m) := by
                have h := hst.out
                rw [if_pos (by unfold unlike; simp [hd4b])] at h
                exact h
              replace d4 := Lib.hid d4
              have e : Hid (r = m ++ [(x, y)]) := by show _ = _; rw [hri.out]; exact ins_end linP (x, y) (0, 0) m fun t ht => hno.out t (by rw [← hM.out]; exact ht) ht
              go_wp2_with fail
              go_quiet (fail)
              all_goals
                obtain ⟨W2, hW2⟩ : ∃ W2, wr.drewN nq = W2 := ⟨_, rfl⟩
                have q0 : W2.cell? ⟨BX, 0, none⟩ = some (.int .i64 x) := by rw [← hW2]; exact q0
                have q1 : W2.cell? ⟨BX, 1, none⟩ = some (.int .i64 y) := by rw [← hW2]; exact q1
                have hBW : Hid (Below W1.heap.size W1 W2) := by rw [← hW2]; exact belowN hBW.out _
                have hbx : Hid (BX < W2.heap.size) := Nat.lt_of_lt_of_le hs1 hBW.out.size
                rw [hW2]
                clear hW2
                go_wp2_with fail
                go_quiet (fail)
                all_goals
                  obtain ⟨W3, hW3⟩ : ∃ W3, W2.drewN nq = W3 := ⟨_, rfl⟩
                  have q0 : W3.cell? ⟨BX, 0, none⟩ = some (.int .i64 x) := by rw [← hW3]; exact q0
                  have q1 : W3.cell? ⟨BX, 1, none⟩ = some (.int .i64 y) := by rw [← hW3]; exact q1
                  have hBW : Hid (Below W1.heap.size W1 W3) := by rw [← hW3]; exact belowN hBW.out _
                  have hbx : Hid (BX < W3.heap.size) := Nat.lt_of_lt_of_le hs1 hBW.out.size
                  rw [hW3]
                  clear hW3
                  go_wp2_with fail
                  have hrow2 : Hid (∀ W, Below W3.heap.size W3 W → ∀ ad : Addr, none = some ad → ∀ i u, ([] : List Value)[i]? = some u → W.cell? (ad.add i) = some u) := fun W hW ad had => by cases had
                  have hlt2 : ([] : List Value).length = 0 * 2 := rfl
                  have hrow1 : Hid (∀ W, Below W3.heap.size W3 W → ∀ ad : Addr, none = some ad → ∀ i u, (cellsP (m.take 0))[i]? = some u → W.cell? (ad.add i) = some u) := fun W hW ad had => by cases had
                  have hlt1 : (cellsP (m.take 0)).length = 0 * 2 := rfl
                  have hbA : Hid (Below W3.heap.size W3 W3.drew) := (Below.refl _ _).drew
                  have hbB : Hid (Below W3.heap.size W3 (W3.drew.alloc (.cells #[.int .i64 x, .int .i64 y] 60))) := (Below.refl W3.heap.size W3).drew.alloc (Nat.le_refl _) _
                  have hsB : Hid (W3.heap.size + 1 ≤ (W3.drew.alloc (.cells #[.int .i64 x, .int .i64 y] 60)).heap.size) := by show _ ≤ _; rw [World.size_alloc]; exact Nat.le_refl _
                  have hxB : Hid (∀ W, Below (W3.heap.size + 1) (W3.drew.alloc (.cells #[.int .i64 x, .int .i64 y] 60)) W → ∀ j u, [Value.int .i64 x, .int .i64 y][j]? = some u → W.cell? ((⟨W3.heap.size, 0, none⟩ : Addr).add j) = some u) := fun W hW j u hj => (hW.cell (p := (⟨W3.heap.size, 0, none⟩ : Addr).add j) (by rw [Addr.add_lit]; show W3.heap.size < W3.heap.size + 1; omega)).trans (news_pair W3.drew x y _ j u hj)
                  go_wp2_with fail
                  go_region_law (first
                    | (refine step_append_sl rfl (.const (.slice none 0 0)) (.tmp 74) 27 rfl W3.heap.size 60 i0 (.agg #[.int .i64 0, .int .i64 0]) 2 16 Tryz.underlying27 hi.out hz0.out hz1.out hz2.out rfl (by decide) (.slice none 0 0) 0 [] (by go_simp) (World.ownsRow_nil _ _ _ _) none 0 0 (cellsP (m.take 0)) (by go_simp) (fun _ => ⟨rfl, rfl⟩) hlt1 (hrow1.out _ hbA.out) (cells_one _) (by unfold maxLen; omega) (by omega) hbA.out.size ?_
                       intro v1 w1 hown1 hg1
                       have hb1 : Hid (Below W3.heap.size W3 w1) := hg1 _ _ hbA.out hbA.out.size (fun _ h => by cases h)
                       have q0a : w1.cell? ⟨BX, 0, none⟩ = some (.int .i64 x) := (hb1.out.cell (p := ⟨BX, 0, none⟩) hbx.out).trans q0
                       have q1a : w1.cell? ⟨BX, 1, none⟩ = some (.int .i64 y) := (hb1.out.cell (p := ⟨BX, 1, none⟩) hbx.out).trans q1
                       replace hown1 := Lib.hid hown1
                       have hown1a := Lib.hid (own_later hown1.out (later_alloc w1 (.cells #[.int .i64 x, .int .i64 y] 60)))
                       have hb1a : Hid (Below W3.heap.size W3 (w1.alloc (.cells #[.int .i64 x, .int .i64 y] 60))) := hb1.out.alloc hb1.out.size _
                       have hx1a : Hid (∀ j u, [Value.int .i64 x, .int .i64 y][j]? = some u → (w1.alloc (.cells #[.int .i64 x, .int .i64 y] 60)).cell? ((⟨w1.heap.size, 0, none⟩ : Addr).add j) = some u) := news_pair w1 x y _
                       clear hg1)
                    | (refine step_append_sl rfl (.const (.slice none 0 0)) (.tmp 74) 27 rfl (W3.heap.size + 1) 60 i0 (.agg #[.int .i64 0, .int .i64 0]) 2 16 Tryz.underlying27 hi.out hz0.out hz1.out hz2.out rfl (by decide) (.slice none 0 0) 0 [] (by go_simp) (World.ownsRow_nil _ _ _ _) none 0 0 (cellsP (m.take 0)) (by go_simp) (fun _ => ⟨rfl, rfl⟩) hlt1 (hrow1.out _ hbB.out) (cells_one _) (by unfold maxLen; omega) (by omega) hsB.out ?_
                       intro v1 w1 hown1 hg1
                       have hb1 : Hid (Below W3.heap.size W3 w1) := hg1 _ _ hbB.out hbB.out.size (fun _ h => by cases h)
                       have hx1 : Hid (∀ j u, [Value.int .i64 x, .int .i64 y][j]? = some u → w1.cell? ((⟨W3.heap.size, 0, none⟩ : Addr).add j) = some u) := hxB.out w1 (hg1 (W3.heap.size + 1) (W3.drew.alloc (.cells #[.int .i64 x, .int .i64 y] 60)) (Below.refl _ _) hsB.out (fun _ h => by cases h))
                       replace hown1 := Lib.hid hown1
                       clear hg1)
                    | (refine step_append_sl rfl (.tmp 75) (.tmp 77) 27 rfl (W3.heap.size + 1) 60 i0 (.agg #[.int .i64 0, .int .i64 0]) 2 16 Tryz.underlying27 hi.out hz0.out hz1.out hz2.out rfl (by decide) v1 (0 + 0) ([] ++ (cellsP (m.take 0))) (by go_simp) hown1.out (some ⟨W3.heap.size, 0, none⟩) 1 1 [Value.int .i64 x, .int .i64 y] (by go_simp) (fun h => by cases h) rfl (fun ad h => by injection h with h; subst h; exact hx1.out) (news_pair1 x y) (by unfold maxLen; omega) (by omega) (show W3.heap.size + 1 ≤ w1.heap.size from World.block_lt_of_cell? _ _ (hx1.out 0 _ rfl)) ?_
                       intro v2 w2 hown2 hg2
                       have hb2 : Hid (Below W3.heap.size W3 w2) := hg2 _ _ hb1.out hb1.out.size (fun k h => Nat.le_of_succ_le (own_block hown1.out k h))
                       replace hown2 := Lib.hid hown2
                       clear hg2)
                    | (refine step_append_sl rfl (.tmp 75) (.tmp 77) 27 rfl W3.heap.size 60 i0 (.agg #[.int .i64 0, .int .i64 0]) 2 16 Tryz.underlying27 hi.out hz0.out hz1.out hz2.out rfl (by decide) v1 (0 + 0) ([] ++ (cellsP (m.take 0))) (by go_simp) hown1a.out (some ⟨w1.heap.size, 0, none⟩) 1 1 [Value.int .i64 x, .int .i64 y] (by go_simp) (fun h => by cases h) rfl (fun ad h => by injection h with h; subst h; exact hx1a.out) (news_pair1 x y) (by unfold maxLen; omega) (by omega) hb1a.out.size ?_
                       intro v2 w2 hown2 hg2
                       have hb2 : Hid (Below W3.heap.size W3 w2) := hg2 _ _ hb1a.out hb1a.out.size (own_block hown1a.out)
                       replace hown2 := Lib.hid hown2
                       clear hg2)
                    | (refine step_append_sl rfl (.tmp 78) (.tmp 81) 27 rfl _ 60 i0 (.agg #[.int .i64 0, .int .i64 0]) 2 16 Tryz.underlying27 hi.out hz0.out hz1.out hz2.out rfl (by decide) v2 (0 + 0 + 1) ([] ++ (cellsP (m.take 0)) ++ [Value.int .i64 x, .int .i64 y]) (by go_simp) hown2.out none 0 0 ([] : List Value) (by go_simp) (fun _ => ⟨rfl, rfl⟩) hlt2 (hrow2.out _ hb2.out) (fun u h => by cases h) (by unfold maxLen; omega) (by omega) (own_base hown2.out (by decide) (by omega)) ?_
                       intro v3 w3 hown3 hg3
                       have hb3 : Hid (Below W3.heap.size W3 w3) := hg3 _ _ hb2.out hb2.out.size (fun k h => by have := own_block hown2.out k h; omega)
                       replace hown3 := Lib.hid hown3
                       clear hg3))
                  all_goals
                    have h9 := hown3.out
                    have e9 : [] ++ cellsP (m.take 0) ++ [.int .i64 x, .int .i64 y] ++ ([] : List Value) = cellsP r := by rw [e.out, cellsP_append]; have hm0 := List.eq_nil_of_length_eq_zero hM.out; rw [hm0]; rfl
                    have n9 : 0 + 0 + 1 + 0 = r.length := by rw [e.out]; have := hM.out; simp; omega
                    rw [e9, n9] at h9
                    obtain ⟨A5, c5, e5, h5, -⟩ := prs_own h9
                    subst e5
                    have hok5 := Lib.hid (own_ok h9)
                    have hB5 := Lib.hid ((hB1.out.trans (hBW.out.mono hB1.out.size)).trans (hb3.out.mono (Nat.le_trans hB1.out.size hBW.out.size)))
                    have hrn : Hid (r ≠ []) := by show _ ≠ _; rw [e.out]; simp
                    replace h5 := Lib.hid h5
                    replace hr := hr
                    clear hown3 h9 e9 n9
                    go_wp2_with fail
                    all_goals
                      go_roundw
                      case rel => exact ⟨k + 1, A5, c5, r, by omega, by go_num, rfl, hr.out.symm, h5.out, hok5.out, fun h => absurd h hrn.out, hB5.out⟩
                      case measure => simp [intOf]; omega
            · obtain ⟨bm, om, rfl, hbm, hcm⟩ := (hN1.out.later hBW.out) hm0
              have hj0 : 0 < j := by rw [← hM.out]; exact List.length_pos_iff.2 hm0
              replace hbm := Lib.hid hbm
              replace hcm := Lib.hid hcm
              have hd4 : decide (x = y) = false := decide_eq_false d4
              have hd4b : (x == y) = false := beq_eq_false_iff_ne.2 d4
              have hri : Hid (r = ins ltP (x, y) m) := by
                have h := hst.out
                rw [if_pos (by unfold unlike; simp [hd4b])] at h
                exact h
              replace d4 := Lib.hid d4
              have e : Hid (r = m ++ [(x, y)]) := by show _ = _; rw [hri.out]; exact ins_end linP (x, y) (0, 0) m fun t ht => hno.out t (by rw [← hM.out]; exact ht) ht
              go_wp2_with fail
              go_quiet (fail)
              all_goals
                obtain ⟨W2, hW2⟩ : ∃ W2, wr.drewN nq = W2 := ⟨_, rfl⟩
                have q0 : W2.cell? ⟨BX, 0, none⟩ = some (.int .i64 x) := by rw [← hW2]; exact q0
                have q1 : W2.cell? ⟨BX, 1, none⟩ = some (.int .i64 y) := by rw [← hW2]; exact q1
                have hBW : Hid (Below W1.heap.size W1 W2) := by rw [← hW2]; exact belowN hBW.out _
                have hbx : Hid (BX < W2.heap.size) := Nat.lt_of_lt_of_le hs1 hBW.out.size
                have hcm : Hid (PRow W2 bm om m) := by rw [← hW2]; exact hcm.out
                have hbm : Hid (bm < W2.heap.size) := by rw [← hW2]; exact hbm.out
                rw [hW2]
                clear hW2
                go_wp2_with fail
                go_quiet (fail)
                all_goals
                  obtain ⟨W3, hW3⟩ : ∃ W3, W2.drewN nq = W3 := ⟨_, rfl⟩
                  have q0 : W3.cell? ⟨BX, 0, none⟩ = some (.int .i64 x) := by rw [← hW3]; exact q0
                  have q1 : W3.cell? ⟨BX, 1, none⟩ = some (.int .i64 y) := by rw [← hW3]; exact q1
                  have hBW : Hid (Below W1.heap.size W1 W3) := by rw [← hW3]; exact belowN hBW.out _
                  have hbx : Hid (BX < W3.heap.size) := Nat.lt_of_lt_of_le hs1 hBW.out.size
                  have hcm : Hid (PRow W3 bm om m) := by rw [← hW3]; exact hcm.out
                  have hbm : Hid (bm < W3.heap.size) := by rw [← hW3]; exact hbm.out
                  rw [hW3]
                  clear hW3
                  go_wp2_with fail
                  have hkc : j ≤ cm := by omega
                  have hkc2 : (j : Int) ≤ (cm : Int) := by omega
                  have hrow2 : Hid (∀ W, Below W3.heap.size W3 W → ∀ ad : Addr, (if cm = j then some (⟨bm, om, none⟩ : Addr) else some ⟨bm, om + j * 2, none⟩) = some ad → ∀ i u, ([] : List Value)[i]? = some u → W.cell? (ad.add i) = some u) := fun W hW ad had i u hi => by simp at hi
                  have hlt2 : ([] : List Value).length = 0 * 2 := rfl
                  have hrow1 : Hid (∀ W, Below W3.heap.size W3 W → ∀ ad : Addr, some (⟨bm, om, none⟩ : Addr) = some ad → ∀ i u, (cellsP (m.take j))[i]? = some u → W.cell? (ad.add i) = some u) := fun W hW ad had => by
                    injection had with had
                    subst had
                    exact prow_news (k := 0) (hcm.out.block (hW.block bm hbm.out)) (takeP_at m j)
                  have hlt1 : (cellsP (m.take j)).length = j * 2 := by rw [cellsP_len, List.length_take, hM.out]; omega
                  have hbA : Hid (Below W3.heap.size W3 W3.drew) := (Below.refl _ _).drew
                  have hbB : Hid (Below W3.heap.size W3 (W3.drew.alloc (.cells #[.int .i64 x, .int .i64 y] 60))) := (Below.refl W3.heap.size W3).drew.alloc (Nat.le_refl _) _
                  have hsB : Hid (W3.heap.size + 1 ≤ (W3.drew.alloc (.cells #[.int .i64 x, .int .i64 y] 60)).heap.size) := by show _ ≤ _; rw [World.size_alloc]; exact Nat.le_refl _
                  have hxB : Hid (∀ W, Below (W3.heap.size + 1) (W3.drew.alloc (.cells #[.int .i64 x, .int .i64 y] 60)) W → ∀ j u, [Value.int .i64 x, .int .i64 y][j]? = some u → W.cell? ((⟨W3.heap.size, 0, none⟩ : Addr).add j) = some u) := fun W hW j u hj => (hW.cell (p := (⟨W3.heap.size, 0, none⟩ : Addr).add j) (by rw [Addr.add_lit]; show W3.heap.size < W3.heap.size + 1; omega)).trans (news_pair W3.drew x y _ j u hj)
                  go_wp2_with fail
                  go_region_law (first
                    | (refine step_append_sl rfl (.const (.slice none 0 0)) (.tmp 74) 27 rfl W3.heap.size 60 i0 (.agg #[.int .i64 0, .int .i64 0]) 2 16 Tryz.underlying27 hi.out hz0.out hz1.out hz2.out rfl (by decide) (.slice none 0 0) 0 [] (by go_simp) (World.ownsRow_nil _ _ _ _) (some ⟨bm, om, none⟩) j cm (cellsP (m.take j)) (by go_simp) (fun h => by cases h) hlt1 (hrow1.out _ hbA.out) (cells_one _) (by unfold maxLen; omega) (by omega) hbA.out.size ?_
                       intro v1 w1 hown1 hg1
                       have hb1 : Hid (Below W3.heap.size W3 w1) := hg1 _ _ hbA.out hbA.out.size (fun _ h => by cases h)
                       have q0a : w1.cell? ⟨BX, 0, none⟩ = some (.int .i64 x) := (hb1.out.cell (p := ⟨BX, 0, none⟩) hbx.out).trans q0
                       have q1a : w1.cell? ⟨BX, 1, none⟩ = some (.int .i64 y) := (hb1.out.cell (p := ⟨BX, 1, none⟩) hbx.out).trans q1
                       replace hown1 := Lib.hid hown1
                       have hown1a := Lib.hid (own_later hown1.out (later_alloc w1 (.cells #[.int .i64 x, .int .i64 y] 60)))
                       have hb1a : Hid (Below W3.heap.size W3 (w1.alloc (.cells #[.int .i64 x, .int .i64 y] 60))) := hb1.out.alloc hb1.out.size _
                       have hx1a : Hid (∀ j u, [Value.int .i64 x, .int .i64 y][j]? = some u → (w1.alloc (.cells #[.int .i64 x, .int .i64 y] 60)).cell? ((⟨w1.heap.size, 0, none⟩ : Addr).add j) = some u) := news_pair w1 x y _
                       clear hg1)
                    | (refine step_append_sl rfl (.const (.slice none 0 0)) (.tmp 74) 27 rfl (W3.heap.size + 1) 60 i0 (.agg #[.int .i64 0, .int .i64 0]) 2 16 Tryz.underlying27 hi.out hz0.out hz1.out hz2.out rfl (by decide) (.slice none 0 0) 0 [] (by go_simp) (World.ownsRow_nil _ _ _ _) (some ⟨bm, om, none⟩) j cm (cellsP (m.take j)) (by go_simp) (fun h => by cases h) hlt1 (hrow1.out _ hbB.out) (cells_one _) (by unfold maxLen; omega) (by omega) hsB.out ?_
                       intro v1 w1 hown1 hg1
                       have hb1 : Hid (Below W3.heap.size W3 w1) := hg1 _ _ hbB.out hbB.out.size (fun _ h => by cases h)
                       have hx1 : Hid (∀ j u, [Value.int .i64 x, .int .i64 y][j]? = some u → w1.cell? ((⟨W3.heap.size, 0, none⟩ : Addr).add j) = some u) := hxB.out w1 (hg1 (W3.heap.size + 1) (W3.drew.alloc (.cells #[.int .i64 x, .int .i64 y] 60)) (Below.refl _ _) hsB.out (fun _ h => by cases h))
                       replace hown1 := Lib.hid hown1
                       clear hg1)
                    | (refine step_append_sl rfl (.tmp 75) (.tmp 77) 27 rfl (W3.heap.size + 1) 60 i0 (.agg #[.int .i64 0, .int .i64 0]) 2 16 Tryz.underlying27 hi.out hz0.out hz1.out hz2.out rfl (by decide) v1 (0 + j) ([] ++ (cellsP (m.take j))) (by go_simp) hown1.out (some ⟨W3.heap.size, 0, none⟩) 1 1 [Value.int .i64 x, .int .i64 y] (by go_simp) (fun h => by cases h) rfl (fun ad h => by injection h with h; subst h; exact hx1.out) (news_pair1 x y) (by unfold maxLen; omega) (by omega) (show W3.heap.size + 1 ≤ w1.heap.size from World.block_lt_of_cell? _ _ (hx1.out 0 _ rfl)) ?_
                       intro v2 w2 hown2 hg2
                       have hb2 : Hid (Below W3.heap.size W3 w2) := hg2 _ _ hb1.out hb1.out.size (fun k h => Nat.le_of_succ_le (own_block hown1.out k h))
                       replace hown2 := Lib.hid hown2
                       clear hg2)
                    | (refine step_append_sl rfl (.tmp 75) (.tmp 77) 27 rfl W3.heap.size 60 i0 (.agg #[.int .i64 0, .int .i64 0]) 2 16 Tryz.underlying27 hi.out hz0.out hz1.out hz2.out rfl (by decide) v1 (0 + j) ([] ++ (cellsP (m.take j))) (by go_simp) hown1a.out (some ⟨w1.heap.size, 0, none⟩) 1 1 [Value.int .i64 x, .int .i64 y] (by go_simp) (fun h => by cases h) rfl (fun ad h => by injection h with h; subst h; exact hx1a.out) (news_pair1 x y) (by unfold maxLen; omega) (by omega) hb1a.out.size ?_
                       intro v2 w2 hown2 hg2
                       have hb2 : Hid (Below W3.heap.size W3 w2) := hg2 _ _ hb1a.out hb1a.out.size (own_block hown1a.out)
                       replace hown2 := Lib.hid hown2
                       clear hg2)
                    | (refine step_append_sl rfl (.tmp 78) (.tmp 81) 27 rfl _ 60 i0 (.agg #[.int .i64 0, .int .i64 0]) 2 16 Tryz.underlying27 hi.out hz0.out hz1.out hz2.out rfl (by decide) v2 (0 + j + 1) ([] ++ (cellsP (m.take j)) ++ [Value.int .i64 x, .int .i64 y]) (by go_simp) hown2.out (if cm = j then some ⟨bm, om, none⟩ else some ⟨bm, om + j * 2, none⟩) 0 (cm - j) ([] : List Value) (by go_simp) (fun h => by split at h <;> cases h) hlt2 (hrow2.out _ hb2.out) (fun u h => by cases h) (by unfold maxLen; omega) (by omega) (own_base hown2.out (by decide) (by omega)) ?_
                       intro v3 w3 hown3 hg3
                       have hb3 : Hid (Below W3.heap.size W3 w3) := hg3 _ _ hb2.out hb2.out.size (fun k h => by have := own_block hown2.out k h; omega)
                       replace hown3 := Lib.hid hown3
                       clear hg3))
                  all_goals
                    have h9 := hown3.out
                    have e9 : [] ++ cellsP (m.take j) ++ [.int .i64 x, .int .i64 y] ++ ([] : List Value) = cellsP r := by rw [e.out, cellsP_append, List.take_of_length_le (by rw [hM.out]; exact Nat.le_refl _)]; simp [cellsP]
                    have n9 : 0 + j + 1 + 0 = r.length := by rw [e.out]; have := hM.out; simp; omega
                    rw [e9, n9] at h9
                    obtain ⟨A5, c5, e5, h5, -⟩ := prs_own h9
                    subst e5
                    have hok5 := Lib.hid (own_ok h9)
                    have hB5 := Lib.hid ((hB1.out.trans (hBW.out.mono hB1.out.size)).trans (hb3.out.mono (Nat.le_trans hB1.out.size hBW.out.size)))
                    have hrn : Hid (r ≠ []) := by show _ ≠ _; rw [e.out]; simp
                    replace h5 := Lib.hid h5
                    replace hr := hr
                    clear hown3 h9 e9 n9
                    go_wp2_with fail
                    all_goals
                      go_roundw
                      case rel => exact ⟨k + 1, A5, c5, r, by omega, by go_num, rfl, hr.out.symm, h5.out, hok5.out, fun h => absurd h hrn.out, hB5.out⟩
                      case measure => simp [intOf]; omega
    · obtain rfl : k = L := by omega
      have hmv := hm.out
      rw [List.take_of_length_le (by rw [hL.out]; exact Nat.le_refl _)] at hmv
      go_wp2_with fail
      go_ret
      rw [← hmv]
      exact ⟨⟨Am, cm, rfl, hN.out⟩, hB.out⟩
end Go.Proofs.YtkagmkejndjepaaGreatDoor
