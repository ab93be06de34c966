/-
  The reference's Same of two terms. Conditions: both can be read; their sizes are below 2^62.
-/
import Derived.Test.YtmomdehilfnpcaaDoorTmRf1
import Derived.Deep.QuietTactic
import Derived.BigQuiet
import Derived.StillTailTactics
namespace Go.Tm
theorem eqTs_false : ∀ (ts us : List T) (k : Nat), k < ts.length → eqT (ts.getD k default) (us.getD k default) = false → eqTs ts us = false
  | [], _, _, h, _ => absurd h (Nat.not_lt_zero _)
  | t :: ts, us, 0, _, h => by
    rw [eqTs, show eqT t (us.getD 0 default) = false from h, Bool.false_and]
  | t :: ts, us, k + 1, hk, h => by
    rw [eqTs, eqTs_false ts (us.drop 1) k (by simpa using hk) (by
      rw [show (us.drop 1).getD k default = us.getD (k + 1) default by
        rw [List.getD_eq_getElem?_getD, List.getElem?_drop, List.getD_eq_getElem?_getD, Nat.add_comm]]
      exact h), Bool.and_false]
theorem eqTs_true : ∀ (ts us : List T), (∀ k, k < ts.length → eqT (ts.getD k default) (us.getD k default) = true) → eqTs ts us = true
  | [], _, _ => by rw [eqTs]
  | t :: ts, us, h => by
    rw [eqTs, show eqT t (us.getD 0 default) = true from h 0 (by simp), eqTs_true ts (us.drop 1) (fun k hk => by
      rw [show (us.drop 1).getD k default = us.getD (k + 1) default by
        rw [List.getD_eq_getElem?_getD, List.getElem?_drop, List.getD_eq_getElem?_getD, Nat.add_comm]]
      exact h (k + 1) (by simpa using hk)), Bool.and_true]
theorem eqT_unfold (a u : T) : eqT a u = (alikeB a u && eqTs a.kids u.kids) := by
  cases a with
  | node k s n ks => rw [eqT]; rfl
end Go.Tm
namespace Go.Proofs.YtmomdehilfnpcaaDoor
open Go.RowKit Go.Shelf Go.Tm
attribute [local go_sem] Oper.semAt_some

set_option maxRecDepth 100000 in
set_option maxHeartbeats 4000000 in
theorem refsame_any : ∀ (n : Nat) (t u : Go.Tm.T) (A B : Option Addr) (c d : Nat) (w : World), t.size ≤ n → t.size ≤ 4611686018427387904 → TmV w (· < w.heap.size) t A c → TmV w (· < w.heap.size) u B d →
    Calls Tryd.prog 17 #[tmV t A c, tmV u B d] w fun e w' => e = .returned (.bool (eqT t u)) ∧ Below w.heap.size w w'
  | 0, t, _, _, _, _, _, _, h, _, _, _ => by have := kids_lt t; omega
  | n + 1, t, u, A, B, c, d, w, hn, hz, hT, hU => by
    have IH := Lib.hid (refsame_any n)
    have hks := kids_lt t
    have hLs := len_sizes t.kids
    replace hT := Lib.hid hT
    replace hU := Lib.hid hU
    unfold tmV
    obtain ⟨L, hL⟩ : ∃ L, t.kids.length = L := ⟨_, rfl⟩
    obtain ⟨M, hM⟩ : ∃ M, u.kids.length = M := ⟨_, rfl⟩
    rw [hL] at hLs
    rw [hL, hM]
    have hbel : Hid (Below w.heap.size w ((w.alloc (.cells #[.int .i64 t.kind, .string t.name, .int .i64 t.num, .slice A L c] 28)).alloc (.cells #[.int .i64 u.kind, .string u.name, .int .i64 u.num, .slice B M d] 28))) :=
      (later_alloc _ _).alloc (by simp) _
    cases e1 : (t.kind == u.kind) with
    | false =>
      have b1 : (t.kind != u.kind) = true := by unfold bne; rw [e1]; rfl
      have hE : Hid (eqT t u = false) := by show _ = _; rw [eqT_unfold]; unfold alikeB; rw [e1]; rfl
      have d1 : decide (t.kind = u.kind) = false := by rw [decide_eq_false_iff_not]; exact fun h => by rw [h, beq_self_eq_true] at e1; cases e1
      have n1 : ¬ t.kind = u.kind := of_decide_eq_false d1
      go_enter Tryd.func17, Tryd.ntmps17
      go_wp2_with fail
      all_goals go_ret
      all_goals exact ⟨ret_bool hE.out.symm, hbel.out⟩
    | true =>
    have b1 : (t.kind != u.kind) = false := by unfold bne; rw [e1]; rfl
    cases e2 : (t.name.toList == u.name.toList) with
    | false =>
      have b2 : (t.name.toList != u.name.toList) = true := by unfold bne; rw [e2]; rfl
      have hE : Hid (eqT t u = false) := by show _ = _; rw [eqT_unfold]; unfold alikeB; rw [e1, e2]; rfl
      have d2 : decide (t.name.toList = u.name.toList) = false := by rw [decide_eq_false_iff_not]; exact fun h => by rw [h, beq_self_eq_true] at e2; cases e2
      have n2 : ¬ t.name.toList = u.name.toList := of_decide_eq_false d2
      go_enter Tryd.func17, Tryd.ntmps17
      go_wp2_with fail
      all_goals go_ret
      all_goals exact ⟨ret_bool hE.out.symm, hbel.out⟩
    | true =>
    have b2 : (t.name.toList != u.name.toList) = false := by unfold bne; rw [e2]; rfl
    cases e3 : (t.num == u.num) with
    | false =>
      have b3 : (t.num != u.num) = true := by unfold bne; rw [e3]; rfl
      have hE : Hid (eqT t u = false) := by show _ = _; rw [eqT_unfold]; unfold alikeB; rw [e1, e2, e3]; rfl
      have d3 : decide (t.num = u.num) = false := by rw [decide_eq_false_iff_not]; exact fun h => by rw [h, beq_self_eq_true] at e3; cases e3
      have n3 : ¬ t.num = u.num := of_decide_eq_false d3
      go_enter Tryd.func17, Tryd.ntmps17
      go_wp2_with fail
      all_goals go_ret
      all_goals exact ⟨ret_bool hE.out.symm, hbel.out⟩
    | true =>
    have b3 : (t.num != u.num) = false := by unfold bne; rw [e3]; rfl
    cases e4 : ((L : Int) == (M : Int)) with
    | false =>
      have b4 : ((L : Int) != (M : Int)) = true := by unfold bne; rw [e4]; rfl
      have hE : Hid (eqT t u = false) := by show _ = _; rw [eqT_unfold]; unfold alikeB; rw [e1, e2, e3, hL, hM, e4]; rfl
      have d4 : decide ((L : Int) = (M : Int)) = false := by rw [decide_eq_false_iff_not]; exact fun h => by rw [h, beq_self_eq_true] at e4; cases e4
      have n4 : ¬ L = M := fun h => by rw [h, beq_self_eq_true] at e4; cases e4
      replace hL := Lib.hid hL
      replace hM := Lib.hid hM
      go_enter Tryd.func17, Tryd.ntmps17
      go_wp2_with fail
      all_goals go_ret
      all_goals exact ⟨ret_bool hE.out.symm, hbel.out⟩
    | true =>
      have b4 : ((L : Int) != (M : Int)) = false := by unfold bne; rw [e4]; rfl
      obtain rfl : L = M := by have := beq_iff_eq.1 e4; omega
      have hE : Hid (eqT t u = eqTs t.kids u.kids) := by show _ = _; rw [eqT_unfold]; unfold alikeB; rw [e1, e2, e3, hL, hM, e4]; rfl
      replace hL := Lib.hid hL
      replace hM := Lib.hid hM
      go_enter Tryd.func17, Tryd.ntmps17
      go_wp2_with fail
      have hx1 : ((w.alloc (.cells #[.int .i64 t.kind, .string t.name, .int .i64 t.num, .slice A L c] 28)).alloc (.cells #[.int .i64 u.kind, .string u.name, .int .i64 u.num, .slice B L d] 28)).heap[w.heap.size]? = some (.cells #[.int .i64 t.kind, .string t.name, .int .i64 t.num, .slice A L c] 28 (0, 0)) := ((later_alloc (w.alloc (.cells #[.int .i64 t.kind, .string t.name, .int .i64 t.num, .slice A L c] 28)) (.cells #[.int .i64 u.kind, .string u.name, .int .i64 u.num, .slice B L d] 28)).block w.heap.size (by simp)).trans (World.alloc_heap_new w (.cells #[.int .i64 t.kind, .string t.name, .int .i64 t.num, .slice A L c] 28))
      have hx2 : ((w.alloc (.cells #[.int .i64 t.kind, .string t.name, .int .i64 t.num, .slice A L c] 28)).alloc (.cells #[.int .i64 u.kind, .string u.name, .int .i64 u.num, .slice B L d] 28)).heap[w.heap.size + 1]? = some (.cells #[.int .i64 u.kind, .string u.name, .int .i64 u.num, .slice B L d] 28 (0, 0)) := by
        have h := World.alloc_heap_new (w.alloc (.cells #[.int .i64 t.kind, .string t.name, .int .i64 t.num, .slice A L c] 28)) (.cells #[.int .i64 u.kind, .string u.name, .int .i64 u.num, .slice B L d] 28)
        rwa [show (w.alloc (.cells #[.int .i64 t.kind, .string t.name, .int .i64 t.num, .slice A L c] 28)).heap.size = w.heap.size + 1 by simp] at h
      have hT2 := hT.out.later hbel.out
      have hU2 := hU.out.later hbel.out
      obtain ⟨V, hV⟩ : ∃ V, (w.alloc (.cells #[.int .i64 t.kind, .string t.name, .int .i64 t.num, .slice A L c] 28)).alloc (.cells #[.int .i64 u.kind, .string u.name, .int .i64 u.num, .slice B L d] 28) = V := ⟨_, rfl⟩
      have hbV : Below w.heap.size w V := by rw [← hV]; exact hbel.out
      rw [hV] at hx1 hx2 hT2 hU2
      clear hbel
      have hz1 := World.lt_of_get hx1
      have hz2 := World.lt_of_get hx2
      obtain ⟨b1, hb1⟩ : ∃ b, w.heap.size = b := ⟨_, rfl⟩
      obtain ⟨b2, hb2⟩ : ∃ b, w.heap.size + 1 = b := ⟨_, rfl⟩
      replace hx1 := Lib.hid hx1
      replace hx2 := Lib.hid hx2
      replace hT2 := Lib.hid hT2
      replace hU2 := Lib.hid hU2
      replace hbV := Lib.hid hbV
      rw [hV]
      replace hV := Lib.hid hV
      clear hb1 hb2 b1 b2
      go_loopw [5] (fun i wr => ∃ k : Nat, k ≤ L ∧ i = .int .i64 k ∧ Hid (∀ j, j < k → eqT (t.kids.getD j default) (u.kids.getD j default) = true) ∧ Hid (Below V.heap.size V wr)) (fun i _ => L - (intOf i).toNat)
      case atStart => exact ⟨0, Nat.zero_le _, rfl, fun j hj => absurd hj (Nat.not_lt_zero j), Below.refl _ _⟩
      case round =>
        obtain ⟨k, hk, rfl, hP, hB⟩ := hrel
        have y1 := (hB.out.block w.heap.size hz1).trans hx1.out
        have y2 := (hB.out.block (w.heap.size + 1) hz2).trans hx2.out
        have p3 := cell_of_row wr w.heap.size 3 _ _ _ y1
        have q3 := cell_of_row wr (w.heap.size + 1) 3 _ _ _ y2
        have hl1 := World.lt_of_get y1
        have hl2 := World.lt_of_get y2
        replace y1 := Lib.hid y1
        replace y2 := Lib.hid y2
        by_cases hlt : k < L
        · have hk9 : k < t.kids.length := by rw [hL.out]; exact hlt
          have hm9 : k < u.kids.length := by rw [hM.out]; exact hlt
          obtain ⟨kb, ko, rfl, hrow⟩ := (hT2.out.later hB.out).row.resolve_left (fun e => by rw [e] at hk9; exact absurd hk9 (Nat.not_lt_zero _))
          obtain ⟨mb, mo, rfl, hrow2⟩ := (hU2.out.later hB.out).row.resolve_left (fun e => by rw [e] at hm9; exact absurd hm9 (Nat.not_lt_zero _))
          obtain ⟨A2, c2, hh, hv⟩ := node_tmv (hrow.get k hk9)
          obtain ⟨B2, d2, gg, gv⟩ := node_tmv (hrow2.get k hm9)
          have hsn := sizes_snoc t.kids k hk9
          have hle := sizes_take_le t.kids (k + 1)
          obtain ⟨x, hx⟩ : ∃ x, t.kids.getD k default = x := ⟨_, rfl⟩
          obtain ⟨y, hy⟩ : ∃ y, u.kids.getD k default = y := ⟨_, rfl⟩
          rw [hx] at hh hv hsn
          rw [hy] at gg gv
          clear hrow hrow2
          have hxn : x.size ≤ n := by omega
          have hxz : x.size ≤ 4611686018427387904 := by omega
          clear hsn hle
          replace hx := Lib.hid hx
          replace hy := Lib.hid hy
          have c0 := hh.kind
          have c1 := hh.name
          have c2' := hh.num
          have c3 := hh.kids
          have g0 := gg.kind
          have g1 := gg.name
          have g2 := gg.num
          have g3 := gg.kids
          replace hh := Lib.hid hh
          replace gg := Lib.hid gg
          have kk := Lib.hid (IH.out x y A2 B2 c2 d2 wr.drew hxn hxz (hv.kept (fun _ h => h) (fun _ _ => rfl)) (gv.kept (fun _ h => h) (fun _ _ => rfl)))
          clear hv gv
          unfold tmV at kk
          obtain ⟨r, hr⟩ : ∃ r, eqT x y = r := ⟨_, rfl⟩
          rw [hr] at kk
          cases r with
          | true =>
            have hP2 : Hid (∀ j, j < k + 1 → eqT (t.kids.getD j default) (u.kids.getD j default) = true) := fun j hj => by
              by_cases e : j = k
              · subst e; rw [hx.out, hy.out]; exact hr
              · exact hP.out j (by omega)
            replace hr := Lib.hid hr
            go_wp2_with fail
            go_still_tail 10, (by kernel_rfl)
            go_wp2_with fail
            refine kk.out.mono ?_
            rintro e w4 ⟨rfl, hb9⟩
            have hB2 := Lib.hid (hB.out.trans (((Below.refl _ wr).drew.trans hb9).mono hB.out.size))
            clear hb9 kk
            go_wp2_with fail
            go_roundw
            case rel => exact ⟨k + 1, by omega, by go_num, hP2.out, hB2.out⟩
            case measure => simp [intOf]; omega
          | false =>
            have hF : Hid (eqT t u = false) := by
              show _ = _
              rw [hE.out]
              exact eqTs_false t.kids u.kids k hk9 (by rw [hx.out, hy.out]; exact hr)
            replace hr := Lib.hid hr
            go_wp2_with fail
            go_still_tail 10, (by kernel_rfl)
            go_wp2_with fail
            refine kk.out.mono ?_
            rintro e w4 ⟨rfl, hb9⟩
            have hB2 := Lib.hid (hB.out.trans (((Below.refl _ wr).drew.trans hb9).mono hB.out.size))
            have hlast := Lib.hid (hbV.out.trans (hB2.out.mono (by omega)))
            clear hb9 kk
            go_wp2_with fail
            go_ret
            exact ⟨ret_bool hF.out.symm, hlast.out⟩
        · obtain rfl : k = L := by omega
          have hF : Hid (eqT t u = true) := by
            show _ = _
            rw [hE.out]
            exact eqTs_true t.kids u.kids (fun j hj => hP.out j (by rw [← hL.out]; exact hj))
          have hlast := Lib.hid (hbV.out.trans (hB.out.mono (by omega)))
          go_wp2_with fail
          go_ret
          exact ⟨ret_bool hF.out.symm, hlast.out⟩
end Go.Proofs.YtmomdehilfnpcaaDoor
