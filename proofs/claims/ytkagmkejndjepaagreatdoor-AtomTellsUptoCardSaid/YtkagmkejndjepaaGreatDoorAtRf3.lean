/-
  The document's own One, Shift, Rename. Condition: the pairs, the numbers can be read, at most 2^20 of each.
-/
import Derived.Test.YtkagmkejndjepaaGreatDoorAtRf2
import Derived.StillTailTactics
namespace Go.At
/-- what stands ahead tells nothing of it -/
theorem ren_ahead : ∀ (ft tt : List Int) (k : Nat) (a : Int), (∀ j, j < k → j < ft.length → ft.getD j 0 ≠ a) → renL ft tt a = renL (ft.drop k) (tt.drop k) a
  | _, _, 0, _, _ => rfl
  | [], tt, k + 1, a, _ => by simp [renL]
  | x :: f, [], k + 1, a, _ => by simp [renL, renT]
  | x :: f, y :: t, k + 1, a, h => by
    have h0 : a ≠ x := fun e => h 0 (by omega) (by simp) (by simpa using e.symm)
    show (if a = x then y else renL f t a) = renL (f.drop k) (t.drop k) a
    rw [if_neg h0]
    exact ren_ahead f t k a fun j h1 h2 => by
      have := h (j + 1) (by omega) (by simpa using h2)
      simpa using this
theorem ren_hit (ft tt : List Int) (k : Nat) (a : Int) (hk : k < ft.length) (h : ∀ j, j < k → j < ft.length → ft.getD j 0 ≠ a) (he : ft.getD k 0 = a) : renL ft tt a = if k < tt.length then tt.getD k 0 else a := by
  rw [ren_ahead ft tt k a h, List.drop_eq_getElem_cons hk]
  have e1 : ft[k] = a := by
    rw [List.getD_eq_getElem?_getD, List.getElem?_eq_getElem hk] at he
    exact he
  by_cases ht : k < tt.length
  · rw [if_pos ht, List.drop_eq_getElem_cons ht, e1]
    show (if a = a then tt[k] else _) = _
    rw [if_pos rfl, List.getD_eq_getElem?_getD, List.getElem?_eq_getElem ht]
    rfl
  · rw [if_neg ht, show tt.drop k = [] from List.drop_eq_nil_of_le (by omega)]
    rfl
theorem ren_miss (ft tt : List Int) (a : Int) (h : ∀ j, j < ft.length → ft.getD j 0 ≠ a) : renL ft tt a = a := by
  rw [ren_ahead ft tt ft.length a (fun j _ hj => h j hj), List.drop_length]
  rfl
end Go.At
namespace Go.Proofs.YtkagmkejndjepaaGreatDoor
open Go.RowKit Go.Shelf Go.At
attribute [local go_sem] Oper.semAt_some

set_option maxRecDepth 100000 in
set_option maxHeartbeats 4000000 in
theorem one_any (a : Int) (Af At : Option Addr) (ft tt : List Int) (cf ct : Nat) (w : World) (hF : Nms w Af ft) (hT : Nms w At tt) (hf : ft.length ≤ 1048576) (_ht : tt.length ≤ 1048576) :
    Calls Tryz.prog 51 #[.int .i64 a, .slice Af ft.length cf, .slice At tt.length ct] w fun e w' => e = .returned (.int .i64 (renL ft tt a)) ∧ w' = w := by
  obtain ⟨L, hL⟩ : ∃ L, Hid (ft.length = L) := ⟨_, rfl⟩
  obtain ⟨T, hTL⟩ : ∃ T, Hid (tt.length = T) := ⟨_, rfl⟩
  have hLl := hL.out
  have hTl := hTL.out
  rw [hLl] at hf ⊢
  rw [hTl]
  clear hLl hTl
  obtain ⟨r, hr⟩ : ∃ r, Hid (renL ft tt a = r) := ⟨_, rfl⟩
  rw [hr.out]
  go_enter Tryz.func51, Tryz.ntmps51
  go_wp2_with fail
  go_loopw [7] (fun i wr => ∃ k : Nat, k ≤ L ∧ i = .int .i64 k ∧ Hid (∀ j, j < k → j < ft.length → ft.getD j 0 ≠ a) ∧ Hid (wr = w)) (fun i _ => L - (intOf i).toNat)
  case atStart => exact ⟨0, Nat.zero_le _, rfl, fun j hj => absurd hj (Nat.not_lt_zero j), by first | rfl | trivial⟩
  case round =>
    obtain ⟨k, hk, rfl, hno, hB⟩ := hrel
    obtain rfl : wr = w := hB.out
    clear hB
    by_cases hlt : k < L
    · have hkl : k < ft.length := by rw [hL.out]; exact hlt
      obtain ⟨b, off, rfl, -, hc⟩ := hF (by intro e; subst e; simp at hkl)
      have c0 := hc k hkl
      clear hc
      have hhit := Lib.hid (ren_hit ft tt k a hkl hno.out)
      have hnx : Hid (ft.getD k 0 ≠ a → ∀ j, j < k + 1 → j < ft.length → ft.getD j 0 ≠ a) := fun h j hj hl => by
        by_cases e : j = k
        · rw [e]; exact h
        · exact hno.out j (by omega) hl
      generalize ft.getD k 0 = x at c0 hhit hnx
      by_cases hx : x = a
      · subst hx
        have hh := hhit.out rfl
        by_cases htk : k < T
        · have htk2 : k < tt.length := by rw [hTL.out]; exact htk
          have hd : decide ((k : Int) < (T : Int)) = true := decide_eq_true (by omega)
          obtain ⟨b2, off2, rfl, -, hc2⟩ := hT (by intro e; subst e; simp at htk2)
          have c2 := hc2 k htk2
          clear hc2
          rw [if_pos htk2, hr.out] at hh
          rw [← hh] at c2
          replace hh := Lib.hid hh
          clear hhit hnx
          go_wp2_with fail
          go_ret
          exact ⟨rfl, rfl⟩
        · have hd : decide ((k : Int) < (T : Int)) = false := decide_eq_false (by omega)
          rw [if_neg (by rw [hTL.out]; exact htk), hr.out] at hh
          subst hh
          clear hhit hnx
          go_wp2_with fail
          go_ret
          exact ⟨rfl, rfl⟩
      · have hnx2 := Lib.hid (hnx.out hx)
        have hd : (x == a) = false := beq_eq_false_iff_ne.2 hx
        clear hhit hnx
        go_wp2_with fail
        go_roundw
        case rel => exact ⟨k + 1, by omega, by go_num, hnx2.out, by first | rfl | trivial⟩
        case measure => simp [intOf]; omega
    · obtain rfl : k = L := by omega
      have hm := ren_miss ft tt a fun j hj => hno.out j (by rw [← hL.out]; exact hj) hj
      rw [hr.out] at hm
      subst hm
      go_wp2_with fail
      go_ret
      exact ⟨rfl, rfl⟩

set_option maxRecDepth 100000 in
set_option maxHeartbeats 4000000 in
theorem refShift_any (A : Option Addr) (l : List Pr) (c : Nat) (n : Int) (w : World) (hP : Prs w A l) (hl : l.length ≤ 1048576) :
    Calls Tryz.prog 20 #[.slice A l.length c, .int .i64 n] w fun e w' => (∃ A c, e = .returned (.slice A l.length c) ∧ Prs w' A (mapL (shiftT n) l)) ∧ Below w.heap.size w w' := by
  have kf := refShift1_any n
  generalize shiftT n = f at kf ⊢
  obtain ⟨i0, hi, hi2⟩ := Option.map_eq_some_iff.1 infoRP
  obtain ⟨hz0, hz1, hz2⟩ : i0.zero = some (.agg #[.int .i64 0, .int .i64 0]) ∧ i0.size = 2 ∧ i0.bytes = 16 := by
    injection hi2 with h1 h2; injection h2 with h2 h3; exact ⟨h1, h2, h3⟩
  replace hi := Lib.hid hi
  replace hz0 := Lib.hid hz0
  replace hz1 := Lib.hid hz1
  replace hz2 := Lib.hid hz2
  clear hi2
  have hml : (mapL f l).length = l.length := by simp [mapL]
  replace hml := Lib.hid hml
  obtain ⟨L, hL⟩ : ∃ L, Hid (l.length = L) := ⟨_, rfl⟩
  have hLl := hL.out
  rw [hLl] at hl ⊢
  clear hLl
  go_enter Tryz.func20, Tryz.ntmps20
  go_wp2_with fail
  go_loopw [5, 6] (fun v i wr => ∃ (k : Nat) (v' : Value), k ≤ L ∧ i = .int .i64 k ∧ v = v' ∧ Hid (wr.ownsRow w.heap.size 60 2 v' k (cellsP (mapL f (l.take k)))) ∧ Hid (Below w.heap.size w wr)) (fun _ i _ => L - (intOf i).toNat)
  case atStart => exact ⟨0, _, Nat.zero_le _, rfl, rfl, World.ownsRow_nil _ _ _ _, Below.refl _ _⟩
  case round =>
    obtain ⟨k, v', hk, rfl, rfl, hown, hB⟩ := hrel
    by_cases hlt : k < L
    · have hkl : k < l.length := by rw [hL.out]; exact hlt
      obtain ⟨b, off, rfl, hb, hc⟩ := hP (by intro e; subst e; simp at hkl)
      obtain ⟨c0, c1⟩ := hc k hkl
      clear hc
      have htk := take_snoc l (0, 0) k hkl
      generalize l.getD k (0, 0) = q at c0 c1 htk
      obtain ⟨x, y⟩ := q
      dsimp only at c0 c1
      have htn : Hid (cellsP (mapL f (l.take (k + 1))) = cellsP (mapL f (l.take k)) ++ [.int .i64 (f x), .int .i64 (f y)]) := by
        show _ = _
        rw [htk]
        unfold mapL
        rw [List.map_append, cellsP_append]
        rfl
      clear htk
      have hkeep : Hid (∀ W, Below w.heap.size w W → W.cell? ⟨b, off + k * 2, none⟩ = some (.int .i64 x) ∧ W.cell? ⟨b, off + k * 2 + 1, none⟩ = some (.int .i64 y)) := fun W hW => ⟨(hW.cell (p := ⟨b, off + k * 2, none⟩) hb).trans c0, (hW.cell (p := ⟨b, off + k * 2 + 1, none⟩) hb).trans c1⟩
      have hb1 := Lib.hid hB.out.drew
      have hb2 : Hid (Below w.heap.size w (wr.drew.alloc (.cells #[.int .i64 (f x), .int .i64 (f y)] 60))) := hB.out.drew.alloc hB.out.size _
      have hown1 := Lib.hid (own_later hown.out ((Below.refl wr.heap.size wr).drew.alloc (Nat.le_refl _) (.cells #[.int .i64 (f x), .int .i64 (f y)] 60)))
      clear hown c0 c1
      go_wp2_with fail
      go_region_held3 (fun W => W.cell? ⟨b, off + k * 2, none⟩ = some (.int .i64 x) ∧ W.cell? ⟨b, off + k * 2 + 1, none⟩ = some (.int .i64 y)) (first | exact hkeep.out _ hb1.out | exact hkeep.out _ hb2.out | exact hkeep.out _ hb3.out) (first
        | (go_at_call 48; refine (kf _ _).mono ?_; rintro e W' ⟨rfl, hW'⟩; cases hW')
        | (refine step_append_held rfl (.tmp 13) (.tmp 29) 27 rfl w.heap.size 60 i0 (.agg #[.int .i64 0, .int .i64 0]) 2 16 Tryz.underlying27 hi.out hz0.out hz1.out hz2.out rfl (by decide) _ _ _ (by simp [Act.eval]) hown1.out ⟨wr.heap.size, 0, none⟩ 1 1 [.int .i64 (f x), .int .i64 (f y)] (by simp [Act.eval]) rfl (news_pair wr.drew (f x) (f y) _) (news_pair1 (f x) (f y)) (by unfold maxLen; omega) (by omega) hb2.out.size ?_
           intro v'' w3 hown' hgrow
           have hown2 : Hid (w3.ownsRow w.heap.size 60 2 v'' (k + 1) (cellsP (mapL f (l.take (k + 1))))) := by
             show w3.ownsRow _ _ _ _ _ _
             rw [htn.out]
             exact hown'
           have hb3 : Hid (Below w.heap.size w w3) := hb2.out.grown hgrow hb2.out.size (own_block hown1.out)
           clear hown' hgrow))
      all_goals
        clear hown1 hb1 hb2 hkeep
        go_wp2_with fail
        go_roundw
        case rel => exact ⟨k + 1, v'', by omega, by go_num, rfl, hown2.out, hb3.out⟩
        case measure => simp [intOf]; omega
    · obtain rfl : k = L := by omega
      go_wp2_with fail
      go_ret
      have ho := hown.out
      rw [List.take_of_length_le (by rw [hL.out]; exact Nat.le_refl _), ← hL.out, ← hml.out] at ho
      obtain ⟨A5, c5, e5, h5, -⟩ := prs_own ho
      rw [hml.out, hL.out] at e5
      subst e5
      exact ⟨⟨A5, c5, rfl, h5⟩, hB.out⟩

set_option maxRecDepth 100000 in
set_option maxHeartbeats 4000000 in
theorem refRename_any (A Af At : Option Addr) (l : List Pr) (ft tt : List Int) (c cf ct : Nat) (w : World) (hP : Prs w A l) (hF : Nms w Af ft) (hT : Nms w At tt) (hl : l.length ≤ 1048576) (hfl : ft.length ≤ 1048576) (htl : tt.length ≤ 1048576) :
    Calls Tryz.prog 22 #[.slice A l.length c, .slice Af ft.length cf, .slice At tt.length ct] w fun e w' => (∃ A c, e = .returned (.slice A l.length c) ∧ Prs w' A (mapL (renL ft tt) l)) ∧ Below w.heap.size w w' := by
  have kg : Hid (∀ a W, Below w.heap.size w W → Calls Tryz.prog 51 #[.int .i64 a, .slice Af ft.length cf, .slice At tt.length ct] W fun e w' => e = .returned (.int .i64 (renL ft tt a)) ∧ w' = W) := fun a W hW => one_any a Af At ft tt cf ct W (hF.later hW) (hT.later hW) hfl htl
  generalize renL ft tt = f at kg ⊢
  obtain ⟨F, hFe⟩ : ∃ F, ft.length = F := ⟨_, rfl⟩
  obtain ⟨T, hTe⟩ : ∃ T, tt.length = T := ⟨_, rfl⟩
  rw [hFe] at kg hfl ⊢
  rw [hTe] at kg htl ⊢
  clear hFe hTe hF hT
  obtain ⟨i0, hi, hi2⟩ := Option.map_eq_some_iff.1 infoRP
  obtain ⟨hz0, hz1, hz2⟩ : i0.zero = some (.agg #[.int .i64 0, .int .i64 0]) ∧ i0.size = 2 ∧ i0.bytes = 16 := by
    injection hi2 with h1 h2; injection h2 with h2 h3; exact ⟨h1, h2, h3⟩
  replace hi := Lib.hid hi
  replace hz0 := Lib.hid hz0
  replace hz1 := Lib.hid hz1
  replace hz2 := Lib.hid hz2
  clear hi2
  have hml : (mapL f l).length = l.length := by simp [mapL]
  replace hml := Lib.hid hml
  obtain ⟨L, hL⟩ : ∃ L, Hid (l.length = L) := ⟨_, rfl⟩
  have hLl := hL.out
  rw [hLl] at hl ⊢
  clear hLl
  go_enter Tryz.func22, Tryz.ntmps22
  go_wp2_with fail
  go_loopw [7, 8] (fun v i wr => ∃ (k : Nat) (v' : Value), k ≤ L ∧ i = .int .i64 k ∧ v = v' ∧ Hid (wr.ownsRow w.heap.size 60 2 v' k (cellsP (mapL f (l.take k)))) ∧ Hid (Below w.heap.size w wr)) (fun _ i _ => L - (intOf i).toNat)
  case atStart => exact ⟨0, _, Nat.zero_le _, rfl, rfl, World.ownsRow_nil _ _ _ _, Below.refl _ _⟩
  case round =>
    obtain ⟨k, v', hk, rfl, rfl, hown, hB⟩ := hrel
    by_cases hlt : k < L
    · have hkl : k < l.length := by rw [hL.out]; exact hlt
      obtain ⟨b, off, rfl, hb, hc⟩ := hP (by intro e; subst e; simp at hkl)
      obtain ⟨c0, c1⟩ := hc k hkl
      clear hc
      have htk := take_snoc l (0, 0) k hkl
      generalize l.getD k (0, 0) = q at c0 c1 htk
      obtain ⟨x, y⟩ := q
      dsimp only at c0 c1
      have htn : Hid (cellsP (mapL f (l.take (k + 1))) = cellsP (mapL f (l.take k)) ++ [.int .i64 (f x), .int .i64 (f y)]) := by
        show _ = _
        rw [htk]
        unfold mapL
        rw [List.map_append, cellsP_append]
        rfl
      clear htk
      have hkeep : Hid (∀ W, Below w.heap.size w W → W.cell? ⟨b, off + k * 2, none⟩ = some (.int .i64 x) ∧ W.cell? ⟨b, off + k * 2 + 1, none⟩ = some (.int .i64 y)) := fun W hW => ⟨(hW.cell (p := ⟨b, off + k * 2, none⟩) hb).trans c0, (hW.cell (p := ⟨b, off + k * 2 + 1, none⟩) hb).trans c1⟩
      have hb1 := Lib.hid hB.out.drew
      have kf : ∀ a, Calls Tryz.prog 51 #[.int .i64 a, .slice Af F cf, .slice At T ct] wr.drew fun e w' => e = .returned (.int .i64 (f a)) ∧ w' = wr.drew := fun a => kg.out a _ hb1.out
      have hb2 : Hid (Below w.heap.size w (wr.drew.alloc (.cells #[.int .i64 (f x), .int .i64 (f y)] 60))) := hB.out.drew.alloc hB.out.size _
      have hown1 := Lib.hid (own_later hown.out ((Below.refl wr.heap.size wr).drew.alloc (Nat.le_refl _) (.cells #[.int .i64 (f x), .int .i64 (f y)] 60)))
      clear hown c0 c1
      go_wp2_with fail
      go_region_held3 (fun W => W.cell? ⟨b, off + k * 2, none⟩ = some (.int .i64 x) ∧ W.cell? ⟨b, off + k * 2 + 1, none⟩ = some (.int .i64 y)) (first | exact hkeep.out _ hb1.out | exact hkeep.out _ hb2.out | exact hkeep.out _ hb3.out) (first
        | (go_at_call 51; refine (kf _).mono ?_; rintro e W' ⟨rfl, hW'⟩; cases hW')
        | (refine step_append_held rfl (.tmp 15) (.tmp 33) 27 rfl w.heap.size 60 i0 (.agg #[.int .i64 0, .int .i64 0]) 2 16 Tryz.underlying27 hi.out hz0.out hz1.out hz2.out rfl (by decide) _ _ _ (by simp [Act.eval]) hown1.out ⟨wr.heap.size, 0, none⟩ 1 1 [.int .i64 (f x), .int .i64 (f y)] (by simp [Act.eval]) rfl (news_pair wr.drew (f x) (f y) _) (news_pair1 (f x) (f y)) (by unfold maxLen; omega) (by omega) hb2.out.size ?_
           intro v'' w3 hown' hgrow
           have hown2 : Hid (w3.ownsRow w.heap.size 60 2 v'' (k + 1) (cellsP (mapL f (l.take (k + 1))))) := by
             show w3.ownsRow _ _ _ _ _ _
             rw [htn.out]
             exact hown'
           have hb3 : Hid (Below w.heap.size w w3) := hb2.out.grown hgrow hb2.out.size (own_block hown1.out)
           clear hown' hgrow))
      all_goals
        clear hown1 hb1 hb2 hkeep
        go_wp2_with fail
        go_roundw
        case rel => exact ⟨k + 1, v'', by omega, by go_num, rfl, hown2.out, hb3.out⟩
        case measure => simp [intOf]; omega
    · obtain rfl : k = L := by omega
      go_wp2_with fail
      go_ret
      have ho := hown.out
      rw [List.take_of_length_le (by rw [hL.out]; exact Nat.le_refl _), ← hL.out, ← hml.out] at ho
      obtain ⟨A5, c5, e5, h5, -⟩ := prs_own ho
      rw [hml.out, hL.out] at e5
      subst e5
      exact ⟨⟨A5, c5, rfl, h5⟩, hB.out⟩
end Go.Proofs.YtkagmkejndjepaaGreatDoor
