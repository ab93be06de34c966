/-
  The reference's right of a node, of all nodes, and Right. Conditions: the term can be read; its size is below 2^62.
-/
import Derived.Test.YtmomdehilfnpcaaDoorTmRf3
import Derived.Test.YtmomdehilfnpcaaDoorTmRf6
import Derived.Test.YtmomdehilfnpcaaDoorTmRf2
import Derived.Test.YtmomdehilfnpcaaDoorTmRightM
import Derived.Deep.RegionWith
namespace Go.Proofs.YtmomdehilfnpcaaDoor
open Go.RowKit Go.Shelf Go.Tm Go.Lx
attribute [local go_sem] Oper.semAt_some

theorem many_kids {t : Go.Tm.T} : (manyI t.kind == (t.kids.length : Int)) = (decide (1 ≤ t.kind) && decide (t.kind ≤ 13) && (t.kids.length == kidsTab.getD t.kind.toNat 0)) := by
  unfold manyI
  by_cases h : 1 ≤ t.kind ∧ t.kind ≤ 13
  · rw [if_pos h, decide_eq_true h.1, decide_eq_true h.2, Bool.true_and, Bool.true_and, Bool.eq_iff_iff, beq_iff_eq, beq_iff_eq]
    have e : ∀ k : Nat, 1 ≤ k → k ≤ 13 → ((kidsTab.getD k 0 : Nat) : Int) = kidsTab.getD k 0 := fun k _ _ => rfl
    constructor
    · intro h2; omega
    · intro h2; rw [h2]
  · rw [if_neg h]
    have h1 : (decide (1 ≤ t.kind) && decide (t.kind ≤ 13)) = false := by
      by_cases g : 1 ≤ t.kind
      · rw [decide_eq_false (fun g2 => h ⟨g, g2⟩)]; simp
      · rw [decide_eq_false g]; rfl
    rw [h1, Bool.false_and, beq_eq_false_iff_ne]; omega
/-- the reference's own words of a node -/
def refNodeB (t : Go.Tm.T) : Bool := (manyI t.kind == (t.kids.length : Int)) && (t.kind == 1 || t.num == 0) && decide (0 ≤ t.num) && decide (t.num < 2147483648) &&
  (if t.kind = 12 then opB t.name.data.toList else if wordK t.kind = true then (nameB t.name && !isKey t.name.data.toList) else t.name.size == 0)
theorem refNodeB_eq (t : Go.Tm.T) : refNodeB t = nodeB t := by
  unfold refNodeB nodeB
  rw [many_kids]
  cases hb : (decide (1 ≤ t.kind) && decide (t.kind ≤ 13) && (t.kids.length == kidsTab.getD t.kind.toNat 0)) with
  | false => simp
  | true =>
    rw [Bool.true_and, Bool.true_and]
    unfold fieldsB
    by_cases h1 : t.kind = 1
    · have e : (t.kind == 1) = true := by simpa using h1
      have w : wordK t.kind = false := by rw [h1]; rfl
      rw [if_pos h1, if_neg (by omega), w, if_neg (by decide), e, Bool.true_or, Bool.true_and]
      by_cases g : t.num < 2147483648
      · rw [decide_eq_true g, decide_eq_true (show t.num ≤ 2147483647 by omega)]
        cases t.name.size == 0 <;> cases decide (0 ≤ t.num) <;> rfl
      · rw [decide_eq_false g, decide_eq_false (show ¬ t.num ≤ 2147483647 by omega)]
        simp
    · have e : (t.kind == 1) = false := by simpa using h1
      rw [if_neg h1, e, Bool.false_or]
      cases hz : (t.num == 0) with
      | false => simp
      | true =>
        have hz2 : t.num = 0 := by simpa using hz
        rw [hz2, show decide ((0 : Int) ≤ 0) = true by decide, show decide ((0 : Int) < 2147483648) = true by decide]
        by_cases h12 : t.kind = 12
        · have w : wordK t.kind = false := by rw [h12]; rfl
          rw [if_pos h12, w, if_neg (by decide), if_pos h12]; rfl
        · rw [if_neg h12, if_neg h12]
          by_cases hw : wordK t.kind = true
          · rw [if_pos hw, if_pos hw, Bool.true_and, Bool.true_and, Bool.true_and, Bool.true_and]
          · rw [if_neg hw, if_neg hw]; rfl
def opTexts : List (List UInt8) := [[43], [45], [42], [60], [61]]
theorem has_op (l : List UInt8) : hasT opTexts l = opB l := by
  unfold hasT opB opL opTexts
  rw [Bool.eq_iff_iff, List.contains_iff_mem, List.any_eq_true]
  constructor
  · intro h; exact ⟨l, h, by simp⟩
  · rintro ⟨k, hk, e⟩
    have : k = l := by simpa using e
    subst this; exact hk

set_option maxRecDepth 100000 in
set_option maxHeartbeats 4000000 in
theorem refnode_any (t : Go.Tm.T) (A : Option Addr) (c : Nat) (w : World) (hT : TmV w (· < w.heap.size) t A c) :
    Calls Tryd.prog 56 #[tmV t A c] w fun e w' => e = .returned (.bool (nodeB t)) ∧ Below w.heap.size w w' := by
  have hR := Lib.hid (refNodeB_eq t)
  have hsz := hT.nsz
  clear hT
  have hbel : Hid (Below w.heap.size w (w.alloc (.cells #[.int .i64 t.kind, .string t.name, .int .i64 t.num, .slice A t.kids.length c] 28))) := later_alloc _ _
  have hbx : (w.alloc (.cells #[.int .i64 t.kind, .string t.name, .int .i64 t.num, .slice A t.kids.length c] 28)).heap[w.heap.size]? = some (.cells #[.int .i64 t.kind, .string t.name, .int .i64 t.num, .slice A t.kids.length c] 28 (0, 0)) := World.alloc_heap_new _ _
  have hU : refNodeB t = ((manyI t.kind == (t.kids.length : Int)) && (t.kind == 1 || t.num == 0) && decide (0 ≤ t.num) && decide (t.num < 2147483648) &&
    (if t.kind = 12 then opB t.name.data.toList else if wordK t.kind = true then (nameB t.name && !isKey t.name.data.toList) else t.name.size == 0)) := rfl
  replace hU := Lib.hid hU
  unfold tmV
  rw [← hR.out, hU.out]
  have km := Lib.hid (fun W => refmany_any t.kind W)
  have kh := Lib.hid (fun (b : Nat) (W : World) (h : Txt W b opTexts) => refhas_any b opTexts 5 t.name W h (by decide))
  have kw := Lib.hid (fun (W : World) => refword_any t.name W hsz)
  have kb := Lib.hid (fun (W : World) => refbinder_any t.kind t.num t.name (.slice A t.kids.length c) W)
  clear hR hU
  obtain ⟨M, hM⟩ : ∃ M, manyI t.kind = M := ⟨_, rfl⟩
  obtain ⟨K, hK⟩ : ∃ K, t.kind = K := ⟨_, rfl⟩
  obtain ⟨nn, hn⟩ : ∃ n, t.num = n := ⟨_, rfl⟩
  obtain ⟨nm, hnm⟩ : ∃ n, t.name = n := ⟨_, rfl⟩
  obtain ⟨L, hL⟩ : ∃ n, t.kids.length = n := ⟨_, rfl⟩
  rw [hM] at km ⊢
  rw [hK] at km kb hbel hbx ⊢
  rw [hn] at kb hbel hbx ⊢
  rw [hnm] at kh kw kb hbel hbx hsz ⊢
  rw [hL] at kb hbel hbx ⊢
  clear hM hK hn hnm hL t
  obtain ⟨V, hV⟩ : ∃ V, w.alloc (.cells #[.int .i64 K, .string nm, .int .i64 nn, .slice A L c] 28) = V := ⟨_, rfl⟩
  rw [hV] at hbel hbx
  have c0 := cell_of_row V w.heap.size 0 _ _ _ hbx
  have c1 := cell_of_row V w.heap.size 1 _ _ _ hbx
  have c2 := cell_of_row V w.heap.size 2 _ _ _ hbx
  have c3 := cell_of_row V w.heap.size 3 _ _ _ hbx
  have hl := World.lt_of_get hbx
  replace hbx := Lib.hid hbx
  replace hV := Lib.hid hV
  have kq : Hid (∀ n, Calls Tryd.prog 73 #[.int .i64 K] (V.drewN n) fun e w' => e = .returned (.int .i64 M) ∧ ∃ m, w' = V.drewN m) := fun n => (km.out (V.drewN n)).mono fun e w' h => ⟨h.1, n, h.2.symm⟩
  obtain ⟨R, hR⟩ : ∃ R, ((M == (L : Int)) && (K == 1 || nn == 0) && decide (0 ≤ nn) && decide (nn < 2147483648) && (if K = 12 then opB nm.data.toList else if wordK K = true then (nameB nm && !isKey nm.data.toList) else nm.size == 0)) = R := ⟨_, rfl⟩
  rw [hR]
  replace hR := Lib.hid hR
  cases e1 : (M == (L : Int)) with
  | false =>
    have b1 : (M != (L : Int)) = true := by unfold bne; rw [e1]; rfl
    have hF : Hid (R = false) := by
      show _ = _
      rw [← hR.out, e1]; simp
    replace hR := Lib.hid hF
    go_enter Tryd.func56, Tryd.ntmps56
    go_wp2_with fail
    try rw [hV.out]
    go_quiet (exact kq.out _)
    all_goals go_wp2
    all_goals go_ret
    all_goals exact ⟨ret_bool hF.out.symm, belowN hbel.out _⟩
  | true =>
    have b1 : (M != (L : Int)) = false := by unfold bne; rw [e1]; rfl
    by_cases hk1 : K = 1
    · subst hk1
      by_cases g1 : nn < 0
      · have d1 : decide (nn < 0) = true := decide_eq_true g1
        have hF : Hid (R = false) := by
          show _ = _
          rw [← hR.out, decide_eq_false (show ¬ 0 ≤ nn by omega)]; simp
        replace hR := Lib.hid hF
        go_enter Tryd.func56, Tryd.ntmps56
        go_wp2_with fail
        try rw [hV.out]
        go_quiet (exact kq.out _)
        all_goals go_wp2
        all_goals go_ret
        all_goals exact ⟨ret_bool hF.out.symm, belowN hbel.out _⟩
      have d1 : decide (nn < 0) = false := decide_eq_false g1
      by_cases g2 : 2147483648 ≤ nn
      · have d2 : decide (2147483648 ≤ nn) = true := decide_eq_true g2
        have hF : Hid (R = false) := by
          show _ = _
          rw [← hR.out, decide_eq_false (show ¬ nn < 2147483648 by omega)]; simp
        replace hR := Lib.hid hF
        go_enter Tryd.func56, Tryd.ntmps56
        go_wp2_with fail
        try rw [hV.out]
        go_quiet (exact kq.out _)
        all_goals go_wp2
        all_goals go_ret
        all_goals exact ⟨ret_bool hF.out.symm, belowN hbel.out _⟩
      have d2 : decide (2147483648 ≤ nn) = false := decide_eq_false g2
      have hF : Hid (R = (nm.toList == ([] : List UInt8))) := by
        show _ = _
        rw [← hR.out, e1, decide_eq_true (show 0 ≤ nn by omega), decide_eq_true (show nn < 2147483648 by omega), empty_iff]; rfl
      go_enter Tryd.func56, Tryd.ntmps56
      go_wp2_with fail
      try rw [hV.out]
      go_quiet (exact kq.out _)
      clear hR
      have kb1 : Hid (∀ W : World, Calls Tryd.prog 22 #[.agg #[.int .i64 1, .string nm, .int .i64 nn, .slice A L c]] W fun e w' => e = .returned (.bool false) ∧ Below W.heap.size W w') := fun W => by
        have h := kb.out W
        rwa [show binderB 1 = false from rfl] at h
      clear kb
      go_wp2_with fail
      refine (kb1.out _).mono ?_
      rintro e w9 ⟨rfl, hb9⟩
      have x9 : w9.heap[w.heap.size]? = some (.cells #[.int .i64 1, .string nm, .int .i64 nn, .slice A L c] 28 (0, 0)) := (hb9.block w.heap.size hl).trans hbx.out
      have x1 := cell_of_row w9 w.heap.size 1 _ _ _ x9
      have hl9 := World.lt_of_get x9
      replace x9 := Lib.hid x9
      replace hb9 := Lib.hid ((belowN hbel.out nq).trans (hb9.mono (by show w.heap.size ≤ V.heap.size; omega)))
      cases hz : (nm.toList == ([] : List UInt8)) with
      | false =>
        rw [hz] at hF
        all_goals go_wp2
        all_goals go_ret
        all_goals exact ⟨ret_bool hF.out.symm, hb9.out⟩
      | true =>
        rw [hz] at hF
        all_goals go_wp2
        all_goals go_ret
        all_goals exact ⟨ret_bool hF.out.symm, hb9.out⟩
    · have k1 : (K == 1) = false := beq_eq_false_iff_ne.2 hk1
      have k2 : (K != 1) = true := bne_iff_ne.2 hk1
      by_cases hz : nn = 0
      case neg =>
        have z1 : (nn == 0) = false := beq_eq_false_iff_ne.2 hz
        have z2 : (nn != 0) = true := bne_iff_ne.2 hz
        have hF : Hid (R = false) := by
          show _ = _
          rw [← hR.out, k1, z1]; simp
        replace hR := Lib.hid hF
        go_enter Tryd.func56, Tryd.ntmps56
        go_wp2_with fail
        try rw [hV.out]
        go_quiet (exact kq.out _)
        all_goals go_wp2
        all_goals go_ret
        all_goals exact ⟨ret_bool hF.out.symm, belowN hbel.out _⟩
      subst hz
      by_cases hk12 : K = 12
      · subst hk12
        have hF : Hid (R = hasT opTexts nm.data.toList) := by
          show _ = _
          rw [← hR.out, e1, has_op]; simp
        clear hR
        go_enter Tryd.func56, Tryd.ntmps56
        go_wp2_with fail
        try rw [hV.out]
        go_quiet (exact kq.out _)
        have hTx : Hid (Txt ((V.drewN nq).alloc (.cells #[.string ⟨#[43]⟩, .string ⟨#[45]⟩, .string ⟨#[42]⟩, .string ⟨#[60]⟩, .string ⟨#[61]⟩] 9)) V.heap.size opTexts) := Txt.new (V.drewN nq) opTexts 9
        have hb9 := Lib.hid ((belowN hbel.out nq).trans ((later_alloc (V.drewN nq) (.cells #[.string ⟨#[43]⟩, .string ⟨#[45]⟩, .string ⟨#[42]⟩, .string ⟨#[60]⟩, .string ⟨#[61]⟩] 9)).mono (by show w.heap.size ≤ V.heap.size; omega)))
        have kh1 := Lib.hid (kh.out _ _ hTx.out)
        have x1 : ((V.drewN nq).alloc (.cells #[.string ⟨#[43]⟩, .string ⟨#[45]⟩, .string ⟨#[42]⟩, .string ⟨#[60]⟩, .string ⟨#[61]⟩] 9)).cell? ⟨w.heap.size, 1, none⟩ = some (.string nm) := ((later_alloc (V.drewN nq) (.cells #[.string ⟨#[43]⟩, .string ⟨#[45]⟩, .string ⟨#[42]⟩, .string ⟨#[60]⟩, .string ⟨#[61]⟩] 9)).cell (p := ⟨w.heap.size, 1, none⟩) hl).trans c1
        go_wp2_with fail
        refine kh1.out.mono ?_
        rintro e w8 ⟨rfl, rfl⟩
        rw [← hF.out]
        go_wp2_with fail
        go_ret
        exact ⟨rfl, hb9.out⟩
      have k12 : (K == 12) = false := beq_eq_false_iff_ne.2 hk12
      by_cases hk2 : K = 2
      · subst hk2
        have hF : Hid (R = (nameB nm && !isKey nm.data.toList)) := by
          show _ = _
          rw [← hR.out, e1]; simp [wordK]
        clear hR kb
        go_enter Tryd.func56, Tryd.ntmps56
        go_wp2_with fail
        try rw [hV.out]
        go_quiet (exact kq.out _)
        go_wp2_with fail
        refine (kw.out _).mono ?_
        rintro e w8 ⟨rfl, hb8⟩
        rw [← hF.out]
        replace hb8 := Lib.hid ((belowN hbel.out nq).trans (hb8.mono (by show w.heap.size ≤ V.heap.size; omega)))
        go_wp2_with fail
        go_ret
        exact ⟨rfl, hb8.out⟩
      have k22 : (K == 2) = false := beq_eq_false_iff_ne.2 hk2
      cases hbk : binderB K with
      | true =>
        have hF : Hid (R = (nameB nm && !isKey nm.data.toList)) := by
          show _ = _
          have hw : wordK K = true := by unfold binderB at hbk; unfold wordK; rw [k22]; simpa using hbk
          rw [← hR.out, e1, if_neg hk12, if_pos hw]; simp
        clear hR
        replace hbk := Lib.hid hbk
        have kb1 : Hid (∀ W : World, Calls Tryd.prog 22 #[.agg #[.int .i64 K, .string nm, .int .i64 0, .slice A L c]] W fun e w' => e = .returned (.bool true) ∧ Below W.heap.size W w') := fun W => by
          have h := kb.out W
          rwa [show binderB K = true from hbk.out] at h
        clear kb
        go_enter Tryd.func56, Tryd.ntmps56
        go_wp2_with fail
        try rw [hV.out]
        go_quiet (exact kq.out _)
        go_wp2_with fail
        refine (kb1.out _).mono ?_
        rintro e w9 ⟨rfl, hb9⟩
        have x9 : w9.heap[w.heap.size]? = some (.cells #[.int .i64 K, .string nm, .int .i64 0, .slice A L c] 28 (0, 0)) := (hb9.block w.heap.size hl).trans hbx.out
        have x1 := cell_of_row w9 w.heap.size 1 _ _ _ x9
        have hl9 := World.lt_of_get x9
        replace x9 := Lib.hid x9
        replace hb9 := Lib.hid ((belowN hbel.out nq).trans (hb9.mono (by show w.heap.size ≤ V.heap.size; omega)))
        go_wp2_with fail
        refine (kw.out _).mono ?_
        rintro e w8 ⟨rfl, hb8⟩
        rw [← hF.out]
        replace hb8 := Lib.hid (hb9.out.trans (hb8.mono (by omega)))
        go_wp2_with fail
        go_ret
        exact ⟨rfl, hb8.out⟩
      | false =>
        have hF : Hid (R = (nm.toList == ([] : List UInt8))) := by
          show _ = _
          have hw : ¬ wordK K = true := by unfold binderB at hbk; unfold wordK; rw [k22]; simpa using hbk
          rw [← hR.out, e1, if_neg hk12, if_neg hw, empty_iff]; simp
        clear hR
        replace hbk := Lib.hid hbk
        have kb1 : Hid (∀ W : World, Calls Tryd.prog 22 #[.agg #[.int .i64 K, .string nm, .int .i64 0, .slice A L c]] W fun e w' => e = .returned (.bool false) ∧ Below W.heap.size W w') := fun W => by
          have h := kb.out W
          rwa [show binderB K = false from hbk.out] at h
        clear kb
        go_enter Tryd.func56, Tryd.ntmps56
        go_wp2_with fail
        try rw [hV.out]
        go_quiet (exact kq.out _)
        go_wp2_with fail
        refine (kb1.out _).mono ?_
        rintro e w9 ⟨rfl, hb9⟩
        have x9 : w9.heap[w.heap.size]? = some (.cells #[.int .i64 K, .string nm, .int .i64 0, .slice A L c] 28 (0, 0)) := (hb9.block w.heap.size hl).trans hbx.out
        have x1 := cell_of_row w9 w.heap.size 1 _ _ _ x9
        have hl9 := World.lt_of_get x9
        replace x9 := Lib.hid x9
        replace hb9 := Lib.hid ((belowN hbel.out nq).trans (hb9.mono (by show w.heap.size ≤ V.heap.size; omega)))
        cases hz : (nm.toList == ([] : List UInt8)) with
        | false =>
          rw [hz] at hF
          all_goals go_wp2
          all_goals go_ret
          all_goals exact ⟨ret_bool hF.out.symm, hb9.out⟩
        | true =>
          rw [hz] at hF
          all_goals go_wp2
          all_goals go_ret
          all_goals exact ⟨ret_bool hF.out.symm, hb9.out⟩
end Go.Proofs.YtmomdehilfnpcaaDoor
