/-
  The document's own Vars and Points. Condition: the pairs can be read, at most 2^20; their atoms are of 64 bits.
-/
import Derived.Test.YtkagmkejndjepaaGreatDoorAtRf6
import Derived.Test.YtkagmkejndjepaaGreatDoorAtRf2
namespace Go.At
theorem ins_ne {α : Type} {lt : α → α → Bool} (x : α) : ∀ l : List α, ins lt x l ≠ []
  | [] => by simp [ins]
  | y :: r => by
    unfold ins
    split
    · simp
    · split <;> simp
theorem pickV_yes {a : Int} (h : 0 ≤ a) : pickV a = [a] := by
  have e : isV a = true := by unfold isV; rw [decide_eq_false (by omega)]; rfl
  unfold pickV; rw [e]; rfl
theorem pickV_no {a : Int} (h : ¬ 0 ≤ a) : pickV a = [] := by
  have e : isV a = false := by unfold isV; rw [decide_eq_true (by omega)]; rfl
  unfold pickV; rw [e]; rfl
theorem pickP_yes {a : Int} (h : a < 0) : pickP a = [-1 - a] := by
  have e : isP a = true := decide_eq_true h
  unfold pickP; rw [e]; rfl
theorem pickP_no {a : Int} (h : ¬ a < 0) : pickP a = [] := by
  have e : isP a = false := decide_eq_false h
  unfold pickP; rw [e]; rfl
theorem ord_app {α : Type} {lt : α → α → Bool} (l m : List α) : ordL lt (l ++ m) = m.foldl (fun o x => ins lt x o) (ordL lt l) := by simp [ordL]
/-- one more picked -/
def addL (f : Int → List Int) (a : Int) (m : List Int) : List Int := (f a).foldl (fun o x => ins ltI x o) m
theorem add_step (f : Int → List Int) (l : List Pr) (k : Nat) (x y : Int) (h : l.take (k + 1) = l.take k ++ [(x, y)]) :
    ordL ltI ((atomsL (l.take (k + 1))).flatMap f) = addL f y (addL f x (ordL ltI ((atomsL (l.take k)).flatMap f))) := by
  rw [h, atoms_snoc, List.flatMap_append, ord_app]
  simp [addL]
end Go.At
namespace Go.Proofs.YtkagmkejndjepaaGreatDoor
open Go.RowKit Go.Shelf Go.At
attribute [local go_sem] Oper.semAt_some

set_option maxRecDepth 100000 in
set_option maxHeartbeats 1000000 in
theorem refVars_any (A : Option Addr) (l : List Pr) (c : Nat) (w : World) (hP : Prs w A l) (h6 : ∀ p ∈ l, I64 p.1 ∧ I64 p.2) (hl : l.length ≤ 1048576) :
    Calls Tryz.prog 13 #[.slice A l.length c] w fun e w' => (∃ A c, e = .returned (.slice A (varsL l).length c) ∧ Nms w' A (varsL l)) ∧ Below w.heap.size w w' := by
  obtain ⟨L, hL⟩ : ∃ L, Hid (l.length = L) := ⟨_, rfl⟩
  have hLl := hL.out
  rw [hLl] at hl ⊢
  clear hLl
  replace h6 := Lib.hid h6
  go_enter Tryz.func13, Tryz.ntmps13
  go_wp2_with fail
  go_loopw [3, 4] (fun v i wr => ∃ (k : Nat) (Am : Option Addr) (cm : Nat) (m : List Int), k ≤ L ∧ i = .int .i64 k ∧ v = .slice Am m.length cm ∧ Hid (m = ordL ltI ((atomsL (l.take k)).flatMap pickV)) ∧ Hid (Nms wr Am m) ∧ Hid (OkS Am m.length cm) ∧ Hid (m = [] → Am = none ∧ cm = 0) ∧ Hid (Below w.heap.size w wr)) (fun _ i _ => L - (intOf i).toNat)
  case atStart => exact ⟨0, none, 0, [], Nat.zero_le _, rfl, rfl, rfl, Nms.nil _ _, ⟨Nat.le_refl _, Nat.zero_le _, fun _ => rfl⟩, fun _ => ⟨rfl, rfl⟩, Below.refl _ _⟩
  case round =>
    obtain ⟨k, Am, cm, m, hk, rfl, rfl, hm, hN, hO, hZ, hB⟩ := hrel
    by_cases hlt : k < L
    · have hkl : k < l.length := by rw [hL.out]; exact hlt
      obtain ⟨b, off, rfl, hb, hc⟩ := hP (by intro e; subst e; simp at hkl)
      obtain ⟨c0, c1⟩ := hc k hkl
      clear hc
      have htk := take_snoc l (0, 0) k hkl
      have h7 := h6.out (l.getD k (0, 0)) (by rw [List.getD_eq_getElem?_getD, List.getElem?_eq_getElem hkl]; exact List.getElem_mem _)
      have hml : m.length ≤ 2097152 := by
        rw [hm.out]
        have h8 := ord_len (lt := ltI) ((atomsL (l.take k)).flatMap pickV)
        have h9 := pick_len pickV_len (atomsL (l.take k))
        rw [atoms_len, List.length_take] at h9
        omega
      generalize l.getD k (0, 0) = q at c0 c1 htk h7
      obtain ⟨x, y⟩ := q
      dsimp only at c0 c1 h7
      have hstep := add_step pickV l k x y htk
      rw [← hm.out] at hstep
      replace hstep := Lib.hid hstep
      have hkeep : Hid (∀ W, Below w.heap.size w W → W.cell? ⟨b, off + k * 2, none⟩ = some (.int .i64 x) ∧ W.cell? ⟨b, off + k * 2 + 1, none⟩ = some (.int .i64 y)) := fun W hW => ⟨(hW.cell (p := ⟨b, off + k * 2, none⟩) hb).trans c0, (hW.cell (p := ⟨b, off + k * 2 + 1, none⟩) hb).trans c1⟩
      clear htk hm c0 c1
      obtain ⟨c0, c1⟩ := hkeep.out wr hB.out
      have hx6 := Lib.hid h7.1
      have hy6 := Lib.hid h7.2
      clear h7
      by_cases hx : (0 ≤ x)
      · by_cases hy : (0 ≤ y)
        · have hdx : decide (0 ≤ x) = true := decide_eq_true hx
          have hdy : decide (0 ≤ y) = true := decide_eq_true hy
          have hpx : pickV x = [x] := pickV_yes hx
          have hpy : pickV y = [y] := pickV_yes hy
          have hnew : Hid ((ins ltI y (ins ltI x m)) = ordL ltI ((atomsL (l.take (k + 1))).flatMap pickV)) := by show _ = _; rw [hstep.out]; unfold addL; rw [hpx, hpy]; rfl
          clear hpx hpy hstep
          have k1 := Lib.hid (add_any Am m cm x wr (hN.out) (hO.out) (hZ.out) (by omega))
          go_wp2_with (first | (go_at_call 35; with_reducible refine k1.out.mono ?_; rintro e w1 ⟨⟨A1, c1', rfl, hP1, hok1⟩, hbb1⟩; replace hP1 := Lib.hid hP1; replace hok1 := Lib.hid hok1; have hB1 := Lib.hid ((hB.out).trans (hbb1.mono (hB.out).size)); clear hbb1; obtain ⟨c0, c1⟩ := hkeep.out w1 hB1.out))
          have k2 := Lib.hid (add_any A1 (ins ltI x m) c1' y w1 (hP1.out) (hok1.out) (fun h => absurd h (ins_ne _ _)) (by have := ins_len (lt := ltI) x m; omega))
          go_wp2_with (first | (go_at_call 35; with_reducible refine k2.out.mono ?_; rintro e w2 ⟨⟨A2, c2', rfl, hP2, hok2⟩, hbb2⟩; replace hP2 := Lib.hid hP2; replace hok2 := Lib.hid hok2; have hB2 := Lib.hid ((hB1.out).trans (hbb2.mono (hB1.out).size)); clear hbb2; obtain ⟨c0, c1⟩ := hkeep.out w2 hB2.out))
          go_roundw
          case rel => exact ⟨k + 1, A2, c2', _, by omega, by go_num, rfl, hnew.out, hP2.out, hok2.out, fun h => absurd h (ins_ne _ _), hB2.out⟩
          case measure => simp [intOf]; omega
        · have hdx : decide (0 ≤ x) = true := decide_eq_true hx
          have hdy : decide (0 ≤ y) = false := decide_eq_false hy
          have hpx : pickV x = [x] := pickV_yes hx
          have hpy : pickV y = [] := pickV_no hy
          have hnew : Hid ((ins ltI x m) = ordL ltI ((atomsL (l.take (k + 1))).flatMap pickV)) := by show _ = _; rw [hstep.out]; unfold addL; rw [hpx, hpy]; rfl
          clear hpx hpy hstep
          have k1 := Lib.hid (add_any Am m cm x wr (hN.out) (hO.out) (hZ.out) (by omega))
          go_wp2_with (first | (go_at_call 35; with_reducible refine k1.out.mono ?_; rintro e w1 ⟨⟨A1, c1', rfl, hP1, hok1⟩, hbb1⟩; replace hP1 := Lib.hid hP1; replace hok1 := Lib.hid hok1; have hB1 := Lib.hid ((hB.out).trans (hbb1.mono (hB.out).size)); clear hbb1; obtain ⟨c0, c1⟩ := hkeep.out w1 hB1.out))
          go_roundw
          case rel => exact ⟨k + 1, A1, c1', _, by omega, by go_num, rfl, hnew.out, hP1.out, hok1.out, fun h => absurd h (ins_ne _ _), hB1.out⟩
          case measure => simp [intOf]; omega
      · by_cases hy : (0 ≤ y)
        · have hdx : decide (0 ≤ x) = false := decide_eq_false hx
          have hdy : decide (0 ≤ y) = true := decide_eq_true hy
          have hpx : pickV x = [] := pickV_no hx
          have hpy : pickV y = [y] := pickV_yes hy
          have hnew : Hid ((ins ltI y m) = ordL ltI ((atomsL (l.take (k + 1))).flatMap pickV)) := by show _ = _; rw [hstep.out]; unfold addL; rw [hpx, hpy]; rfl
          clear hpx hpy hstep
          have k1 := Lib.hid (add_any Am m cm y wr (hN.out) (hO.out) (hZ.out) (by omega))
          go_wp2_with (first | (go_at_call 35; with_reducible refine k1.out.mono ?_; rintro e w1 ⟨⟨A1, c1', rfl, hP1, hok1⟩, hbb1⟩; replace hP1 := Lib.hid hP1; replace hok1 := Lib.hid hok1; have hB1 := Lib.hid ((hB.out).trans (hbb1.mono (hB.out).size)); clear hbb1; obtain ⟨c0, c1⟩ := hkeep.out w1 hB1.out))
          go_roundw
          case rel => exact ⟨k + 1, A1, c1', _, by omega, by go_num, rfl, hnew.out, hP1.out, hok1.out, fun h => absurd h (ins_ne _ _), hB1.out⟩
          case measure => simp [intOf]; omega
        · have hdx : decide (0 ≤ x) = false := decide_eq_false hx
          have hdy : decide (0 ≤ y) = false := decide_eq_false hy
          have hpx : pickV x = [] := pickV_no hx
          have hpy : pickV y = [] := pickV_no hy
          have hnew : Hid (m = ordL ltI ((atomsL (l.take (k + 1))).flatMap pickV)) := by show _ = _; rw [hstep.out]; unfold addL; rw [hpx, hpy]; rfl
          clear hpx hpy hstep
          go_wp2_with fail
          go_roundw
          case rel => exact ⟨k + 1, Am, cm, m, by omega, by go_num, rfl, hnew.out, hN.out, hO.out, hZ.out, hB.out⟩
          case measure => simp [intOf]; omega
    · obtain rfl : k = L := by omega
      have hmv := hm.out
      rw [List.take_of_length_le (by rw [hL.out]; exact Nat.le_refl _)] at hmv
      have hmv2 : m = varsL l := hmv
      go_wp2_with fail
      go_ret
      rw [← hmv2]
      exact ⟨⟨Am, cm, rfl, hN.out⟩, hB.out⟩

set_option maxRecDepth 100000 in
set_option maxHeartbeats 1000000 in
theorem refPoints_any (A : Option Addr) (l : List Pr) (c : Nat) (w : World) (hP : Prs w A l) (h6 : ∀ p ∈ l, I64 p.1 ∧ I64 p.2) (hl : l.length ≤ 1048576) :
    Calls Tryz.prog 15 #[.slice A l.length c] w fun e w' => (∃ A c, e = .returned (.slice A (pointsL l).length c) ∧ Nms w' A (pointsL l)) ∧ Below w.heap.size w w' := by
  obtain ⟨L, hL⟩ : ∃ L, Hid (l.length = L) := ⟨_, rfl⟩
  have hLl := hL.out
  rw [hLl] at hl ⊢
  clear hLl
  replace h6 := Lib.hid h6
  go_enter Tryz.func15, Tryz.ntmps15
  go_wp2_with fail
  go_loopw [3, 4] (fun v i wr => ∃ (k : Nat) (Am : Option Addr) (cm : Nat) (m : List Int), k ≤ L ∧ i = .int .i64 k ∧ v = .slice Am m.length cm ∧ Hid (m = ordL ltI ((atomsL (l.take k)).flatMap pickP)) ∧ Hid (Nms wr Am m) ∧ Hid (OkS Am m.length cm) ∧ Hid (m = [] → Am = none ∧ cm = 0) ∧ Hid (Below w.heap.size w wr)) (fun _ i _ => L - (intOf i).toNat)
  case atStart => exact ⟨0, none, 0, [], Nat.zero_le _, rfl, rfl, rfl, Nms.nil _ _, ⟨Nat.le_refl _, Nat.zero_le _, fun _ => rfl⟩, fun _ => ⟨rfl, rfl⟩, Below.refl _ _⟩
  case round =>
    obtain ⟨k, Am, cm, m, hk, rfl, rfl, hm, hN, hO, hZ, hB⟩ := hrel
    by_cases hlt : k < L
    · have hkl : k < l.length := by rw [hL.out]; exact hlt
      obtain ⟨b, off, rfl, hb, hc⟩ := hP (by intro e; subst e; simp at hkl)
      obtain ⟨c0, c1⟩ := hc k hkl
      clear hc
      have htk := take_snoc l (0, 0) k hkl
      have h7 := h6.out (l.getD k (0, 0)) (by rw [List.getD_eq_getElem?_getD, List.getElem?_eq_getElem hkl]; exact List.getElem_mem _)
      have hml : m.length ≤ 2097152 := by
        rw [hm.out]
        have h8 := ord_len (lt := ltI) ((atomsL (l.take k)).flatMap pickP)
        have h9 := pick_len pickP_len (atomsL (l.take k))
        rw [atoms_len, List.length_take] at h9
        omega
      generalize l.getD k (0, 0) = q at c0 c1 htk h7
      obtain ⟨x, y⟩ := q
      dsimp only at c0 c1 h7
      have hstep := add_step pickP l k x y htk
      rw [← hm.out] at hstep
      replace hstep := Lib.hid hstep
      have hkeep : Hid (∀ W, Below w.heap.size w W → W.cell? ⟨b, off + k * 2, none⟩ = some (.int .i64 x) ∧ W.cell? ⟨b, off + k * 2 + 1, none⟩ = some (.int .i64 y)) := fun W hW => ⟨(hW.cell (p := ⟨b, off + k * 2, none⟩) hb).trans c0, (hW.cell (p := ⟨b, off + k * 2 + 1, none⟩) hb).trans c1⟩
      clear htk hm c0 c1
      obtain ⟨c0, c1⟩ := hkeep.out wr hB.out
      have hx6 := Lib.hid h7.1
      have hy6 := Lib.hid h7.2
      clear h7
      by_cases hx : (x < 0)
      · by_cases hy : (y < 0)
        · have hdx : decide (x < 0) = true := decide_eq_true hx
          have hdy : decide (y < 0) = true := decide_eq_true hy
          have hpx : pickP x = [(-1 - x)] := pickP_yes hx
          have hpy : pickP y = [(-1 - y)] := pickP_yes hy
          have hnew : Hid ((ins ltI (-1 - y) (ins ltI (-1 - x) m)) = ordL ltI ((atomsL (l.take (k + 1))).flatMap pickP)) := by show _ = _; rw [hstep.out]; unfold addL; rw [hpx, hpy]; rfl
          clear hpx hpy hstep
          have kpx : ∀ W, Calls Tryz.prog 26 #[.int .i64 x] W fun e w' => e = .returned (.int .i64 (pointOfT x)) ∧ W = w' := fun W => refPointOf_any x W hx6.out
          have kpy : ∀ W, Calls Tryz.prog 26 #[.int .i64 y] W fun e w' => e = .returned (.int .i64 (pointOfT y)) ∧ W = w' := fun W => refPointOf_any y W hy6.out
          rw [show pointOfT x = -1 - x from if_pos hx] at kpx
          rw [show pointOfT y = -1 - y from if_pos hy] at kpy
          have k1 := Lib.hid (add_any Am m cm (-1 - x) wr (hN.out) (hO.out) (hZ.out) (by omega))
          go_wp2_with (first | (go_at_call 26; refine (kpx _).mono ?_; rintro e W' ⟨rfl, hW'⟩; cases hW') | (go_at_call 35; with_reducible refine k1.out.mono ?_; rintro e w1 ⟨⟨A1, c1', rfl, hP1, hok1⟩, hbb1⟩; replace hP1 := Lib.hid hP1; replace hok1 := Lib.hid hok1; have hB1 := Lib.hid ((hB.out).trans (hbb1.mono (hB.out).size)); clear hbb1; obtain ⟨c0, c1⟩ := hkeep.out w1 hB1.out))
          have k2 := Lib.hid (add_any A1 (ins ltI (-1 - x) m) c1' (-1 - y) w1 (hP1.out) (hok1.out) (fun h => absurd h (ins_ne _ _)) (by have := ins_len (lt := ltI) (-1 - x) m; omega))
          go_wp2_with (first | (go_at_call 26; refine (kpy _).mono ?_; rintro e W' ⟨rfl, hW'⟩; cases hW') | (go_at_call 35; with_reducible refine k2.out.mono ?_; rintro e w2 ⟨⟨A2, c2', rfl, hP2, hok2⟩, hbb2⟩; replace hP2 := Lib.hid hP2; replace hok2 := Lib.hid hok2; have hB2 := Lib.hid ((hB1.out).trans (hbb2.mono (hB1.out).size)); clear hbb2; obtain ⟨c0, c1⟩ := hkeep.out w2 hB2.out))
          go_roundw
          case rel => exact ⟨k + 1, A2, c2', _, by omega, by go_num, rfl, hnew.out, hP2.out, hok2.out, fun h => absurd h (ins_ne _ _), hB2.out⟩
          case measure => simp [intOf]; omega
        · have hdx : decide (x < 0) = true := decide_eq_true hx
          have hdy : decide (y < 0) = false := decide_eq_false hy
          have hpx : pickP x = [(-1 - x)] := pickP_yes hx
          have hpy : pickP y = [] := pickP_no hy
          have hnew : Hid ((ins ltI (-1 - x) m) = ordL ltI ((atomsL (l.take (k + 1))).flatMap pickP)) := by show _ = _; rw [hstep.out]; unfold addL; rw [hpx, hpy]; rfl
          clear hpx hpy hstep
          have kpx : ∀ W, Calls Tryz.prog 26 #[.int .i64 x] W fun e w' => e = .returned (.int .i64 (pointOfT x)) ∧ W = w' := fun W => refPointOf_any x W hx6.out
          have kpy : ∀ W, Calls Tryz.prog 26 #[.int .i64 y] W fun e w' => e = .returned (.int .i64 (pointOfT y)) ∧ W = w' := fun W => refPointOf_any y W hy6.out
          rw [show pointOfT x = -1 - x from if_pos hx] at kpx
          clear kpy
          have k1 := Lib.hid (add_any Am m cm (-1 - x) wr (hN.out) (hO.out) (hZ.out) (by omega))
          go_wp2_with (first | (go_at_call 26; refine (kpx _).mono ?_; rintro e W' ⟨rfl, hW'⟩; cases hW') | (go_at_call 35; with_reducible refine k1.out.mono ?_; rintro e w1 ⟨⟨A1, c1', rfl, hP1, hok1⟩, hbb1⟩; replace hP1 := Lib.hid hP1; replace hok1 := Lib.hid hok1; have hB1 := Lib.hid ((hB.out).trans (hbb1.mono (hB.out).size)); clear hbb1; obtain ⟨c0, c1⟩ := hkeep.out w1 hB1.out))
          go_roundw
          case rel => exact ⟨k + 1, A1, c1', _, by omega, by go_num, rfl, hnew.out, hP1.out, hok1.out, fun h => absurd h (ins_ne _ _), hB1.out⟩
          case measure => simp [intOf]; omega
      · by_cases hy : (y < 0)
        · have hdx : decide (x < 0) = false := decide_eq_false hx
          have hdy : decide (y < 0) = true := decide_eq_true hy
          have hpx : pickP x = [] := pickP_no hx
          have hpy : pickP y = [(-1 - y)] := pickP_yes hy
          have hnew : Hid ((ins ltI (-1 - y) m) = ordL ltI ((atomsL (l.take (k + 1))).flatMap pickP)) := by show _ = _; rw [hstep.out]; unfold addL; rw [hpx, hpy]; rfl
          clear hpx hpy hstep
          have kpx : ∀ W, Calls Tryz.prog 26 #[.int .i64 x] W fun e w' => e = .returned (.int .i64 (pointOfT x)) ∧ W = w' := fun W => refPointOf_any x W hx6.out
          have kpy : ∀ W, Calls Tryz.prog 26 #[.int .i64 y] W fun e w' => e = .returned (.int .i64 (pointOfT y)) ∧ W = w' := fun W => refPointOf_any y W hy6.out
          clear kpx
          rw [show pointOfT y = -1 - y from if_pos hy] at kpy
          have k1 := Lib.hid (add_any Am m cm (-1 - y) wr (hN.out) (hO.out) (hZ.out) (by omega))
          go_wp2_with (first | (go_at_call 26; refine (kpy _).mono ?_; rintro e W' ⟨rfl, hW'⟩; cases hW') | (go_at_call 35; with_reducible refine k1.out.mono ?_; rintro e w1 ⟨⟨A1, c1', rfl, hP1, hok1⟩, hbb1⟩; replace hP1 := Lib.hid hP1; replace hok1 := Lib.hid hok1; have hB1 := Lib.hid ((hB.out).trans (hbb1.mono (hB.out).size)); clear hbb1; obtain ⟨c0, c1⟩ := hkeep.out w1 hB1.out))
          go_roundw
          case rel => exact ⟨k + 1, A1, c1', _, by omega, by go_num, rfl, hnew.out, hP1.out, hok1.out, fun h => absurd h (ins_ne _ _), hB1.out⟩
          case measure => simp [intOf]; omega
        · have hdx : decide (x < 0) = false := decide_eq_false hx
          have hdy : decide (y < 0) = false := decide_eq_false hy
          have hpx : pickP x = [] := pickP_no hx
          have hpy : pickP y = [] := pickP_no hy
          have hnew : Hid (m = ordL ltI ((atomsL (l.take (k + 1))).flatMap pickP)) := by show _ = _; rw [hstep.out]; unfold addL; rw [hpx, hpy]; rfl
          clear hpx hpy hstep
          have kpx : ∀ W, Calls Tryz.prog 26 #[.int .i64 x] W fun e w' => e = .returned (.int .i64 (pointOfT x)) ∧ W = w' := fun W => refPointOf_any x W hx6.out
          have kpy : ∀ W, Calls Tryz.prog 26 #[.int .i64 y] W fun e w' => e = .returned (.int .i64 (pointOfT y)) ∧ W = w' := fun W => refPointOf_any y W hy6.out
          clear kpx
          clear kpy
          go_wp2_with fail
          go_roundw
          case rel => exact ⟨k + 1, Am, cm, m, by omega, by go_num, rfl, hnew.out, hN.out, hO.out, hZ.out, hB.out⟩
          case measure => simp [intOf]; omega
    · obtain rfl : k = L := by omega
      have hmv := hm.out
      rw [List.take_of_length_le (by rw [hL.out]; exact Nat.le_refl _)] at hmv
      have hmv2 : m = pointsL l := hmv
      go_wp2_with fail
      go_ret
      rw [← hmv2]
      exact ⟨⟨Am, cm, rfl, hN.out⟩, hB.out⟩
end Go.Proofs.YtkagmkejndjepaaGreatDoor
