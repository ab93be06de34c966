/-
  raise. Condition: the rise lies as it should.
-/
import Derived.Test.YtlhfdedjboanfaaDoorSvRise
namespace Go.Proofs.YtlhfdedjboanfaaDoor
open Go.RowKit Go.Shelf Go.At Go.Sv
attribute [local go_sem] Oper.semAt_some

theorem info_int : (Tryd.prog.info? 3).map (fun i => (i.zero, i.size, i.bytes)) = some (some (.int .i64 0), 1, 8) := by kernel_rfl
set_option maxRecDepth 100000 in
set_option maxHeartbeats 4000000 in
theorem raise_any {base q n : Nat} {va : Nat → Value} {s : St} (v r : Nat) (hv : v < n) (hr : r < 18446744073709551616) (hT : s.T.length ≤ 1099511627776) (w : World) (hs : base ≤ w.heap.size) (h : RiseAt w base q n va s) :
    Calls Tryd.prog 58 #[.pointer (some ⟨q, 0, none⟩), .int .i64 (v : Nat), .int .u64 (r : Nat)] w fun e w' => e = .returned (.bool (rise s v r)) ∧ (∃ va', RiseAt w' base q n va' (after s v r) ∧ ∀ k, k ≠ 3 → va' k = va k) ∧ Below base w w' ∧ Kept q n va w w' := by
  obtain ⟨i0, hi, hi2⟩ := Option.map_eq_some_iff.1 info_int
  obtain ⟨hz0, hz1, hz2⟩ : i0.zero = some (.int .i64 0) ∧ i0.size = 1 ∧ i0.bytes = 8 := by
    injection hi2 with h1 h2; injection h2 with h2 h3; exact ⟨h1, h2, h3⟩
  replace hi := Lib.hid hi
  replace hz0 := Lib.hid hz0
  replace hz1 := Lib.hid hz1
  replace hz2 := Lib.hid hz2
  clear hi2
  obtain ⟨gR, cR, -, -, gS, cS, gG, cG, eR, -, eS, eG, ⟨hR1, hmx⟩, lR, lS, lG, -⟩ := h.sl (by omega)
  obtain ⟨x0, x1⟩ := h.rowR eR hv
  obtain ⟨q0, -⟩ := h.bx
  rw [eR] at q0
  have hx64 := h.r64 v hv
  have hand := u64_and_nat (s.R v) r hx64 hr
  cases hz : rise s v r with
  | false =>
    have hj := rise_no hz
    have e1 : after s v r = s := by unfold after; rw [hz]; rfl
    rw [e1]
    rw [hj] at hand
    replace hj := Lib.hid hj
    replace h := Lib.hid h
    replace hz := Lib.hid hz
    replace e1 := Lib.hid e1
    replace eR := Lib.hid eR
    generalize s.R v = x at x0 hx64 hand
    clear eS eG x1
    go_enter Tryd.func58, Tryd.ntmps58
    go_wp2_with fail
    go_ret
    exact ⟨rfl, ⟨va, h.out, fun _ _ => rfl⟩, Below.refl _ _, Kept.refl _ _ _ _⟩
  | true =>
    have hj := rise_yes hz
    have e1 : after s v r = Go.Sv.raised s v r := by unfold after; rw [hz]; rfl
    rw [e1]
    have hne : (((s.R v &&& r : Nat) : Int) == ((s.R v : Nat) : Int)) = false := by
      rw [beq_eq_false_iff_ne]
      intro e
      exact hj (by omega)
    have hxr : s.R v &&& r < 18446744073709551616 := Nat.lt_of_le_of_lt Nat.and_le_left hx64
    have r1 := h.setR (v := v) eR hxr
    have b1 : Below base w (w.setCell ⟨gR, v, none⟩ (.int .u64 ((s.R v &&& r : Nat) : Int))) := (Below.refl base w).setCell (p := ⟨gR, v, none⟩) lR _
    replace hj := Lib.hid hj
    replace hz := Lib.hid hz
    replace e1 := Lib.hid e1
    replace r1 := Lib.hid r1
    replace b1 := Lib.hid b1
    replace h := Lib.hid h
    replace eR := Lib.hid eR
    replace eS := Lib.hid eS
    replace eG := Lib.hid eG
    generalize hy : s.R v &&& r = y at hand hne hxr r1 b1
    replace hy := Lib.hid hy
    have p1 : Kept q n va w (w.setCell ⟨gR, v, none⟩ (.int .u64 (y : Int))) := Kept.set (k := 0) (by omega) (by rw [eR.out]; rfl) _ _ _
    obtain ⟨W1, hW1⟩ : ∃ W, w.setCell ⟨gR, v, none⟩ (.int .u64 (y : Int)) = W := ⟨_, rfl⟩
    rw [hW1] at r1 b1 p1
    obtain ⟨-, -, q2, -⟩ := r1.out.bx
    rw [eS.out] at q2
    obtain ⟨y0, y1⟩ := r1.out.rowS eS.out hv
    have r2 := Lib.hid (r1.out.setS (v := v) (x := 0) eS.out)
    have b2 : Hid (Below base w (W1.setCell ⟨gS, v, none⟩ (.int .i64 0))) := b1.out.setCell (p := ⟨gS, v, none⟩) lS _
    have p2 : Kept q n va w (W1.setCell ⟨gS, v, none⟩ (.int .i64 0)) := p1.trans (Kept.set (k := 2) (by omega) (by rw [eS.out]; rfl) _ _ _) b1.out.size
    obtain ⟨W2, hW2⟩ : ∃ W, W1.setCell ⟨gS, v, none⟩ (.int .i64 0) = W := ⟨_, rfl⟩
    rw [show (((0 : Nat) : Int)) = 0 from rfl, hW2] at r2
    rw [hW2] at b2 p2
    replace p2 := Lib.hid p2
    clear r1 b1 p1
    obtain ⟨-, -, -, -, q4, -⟩ := r2.out.bx
    rw [eG.out] at q4
    obtain ⟨z0, z1⟩ := r2.out.rowG eG.out hv
    replace z0 : W2.cell? ⟨gG, v, none⟩ = some (.bool (s.G v)) := z0
    cases hg : s.G v with
    | true =>
      rw [hg] at z0
      have e2 : Go.Sv.raised s v r = { s with R := upd s.R v y, S := upd s.S v 0 } := by
        have : upd s.G v true = s.G := by
          funext i
          unfold upd
          split
          · next e => rw [e, hg]
          · rfl
        unfold Go.Sv.raised
        rw [hg, this, if_pos rfl, hy.out]
      rw [e2]
      replace e2 := Lib.hid e2
      replace hg := Lib.hid hg
      go_enter Tryd.func58, Tryd.ntmps58
      go_wp2_with fail
      go_ret
      exact ⟨rfl, ⟨va, r2.out, fun _ _ => rfl⟩, b2.out, p2.out⟩
    | false =>
      rw [hg] at z0
      have r3 := Lib.hid (r2.out.setG (v := v) (x := true) eG.out)
      have b3 : Hid (Below base w (W2.setCell ⟨gG, v, none⟩ (.bool true))) := b2.out.setCell (p := ⟨gG, v, none⟩) lG _
      have p3 : Kept q n va w (W2.setCell ⟨gG, v, none⟩ (.bool true)) := p2.out.trans (Kept.set (k := 4) (by omega) (by rw [eG.out]; rfl) _ _ _) b2.out.size
      obtain ⟨W3, hW3⟩ : ∃ W, W2.setCell ⟨gG, v, none⟩ (.bool true) = W := ⟨_, rfl⟩
      rw [hW3] at r3 b3 p3
      replace p3 := Lib.hid p3
      clear r2 b2 p2
      have e2 : Go.Sv.raised s v r = { s with R := upd s.R v y, S := upd s.S v 0, G := upd s.G v true, T := s.T ++ [v] } := by
        unfold Go.Sv.raised
        rw [hg, hy.out]
        rfl
      rw [e2]
      replace e2 := Lib.hid e2
      replace hg := Lib.hid hg
      obtain ⟨-, -, -, q3, -⟩ := r3.out.bx
      obtain ⟨AT, cT, eT, hT1, hT2⟩ := r3.out.bank.row (k := 3) (by omega)
      replace hT1 : s.T.length ≤ cT := hT1
      replace eT : va 3 = .slice AT s.T.length cT := eT
      rw [eT] at q3
      obtain ⟨W4, hW4⟩ : ∃ W, W3.alloc (.cells #[.int .i64 (v : Nat)] 3) = W := ⟨_, rfl⟩
      have hx1 := World.alloc_heap_new W3 (.cells #[.int .i64 (v : Nat)] 3)
      have b4 := later_alloc W3 (.cells #[.int .i64 (v : Nat)] 3)
      rw [hW4] at hx1 b4
      have r4 := Lib.hid (r3.out.later b4)
      have hown : Hid (W4.ownsRow base 3 1 (.slice AT s.T.length cT) s.T.length (intL s.T)) := by
        have := r4.out.bank.own 3 (by omega)
        rw [eT] at this
        exact this
      have hbs : Hid (base ≤ W4.heap.size) := Nat.le_trans hs (Nat.le_trans b3.out.size b4.size)
      have kend := Lib.hid (fun (v7 : Value) (w7 : World) (ho : w7.ownsRow base 3 1 v7 (s.T ++ [v]).length (intL (s.T ++ [v]))) => fun hg7 hat7 => r3.out.setT (v' := v7) (W' := w7) (T' := s.T ++ [v]) b4 ho hg7 hat7)
      have hTl := Lib.hid hT
      obtain ⟨m, hm⟩ : ∃ m, s.T.length = m := ⟨_, rfl⟩
      have htl : Hid ((s.T ++ [v]).length = m + 1) := by show _ = _; rw [List.length_append, hm]; rfl
      have hil : Hid (intL (s.T ++ [v]) = intL s.T ++ [.int .i64 (v : Nat)]) := intL_snoc _ _
      rw [hm] at hT q3 hown hT1
      replace hm := Lib.hid hm
      generalize hxs : intL s.T = xs at hown hil
      replace hxs := Lib.hid hxs
      replace hx1 := Lib.hid hx1
      replace b4 := Lib.hid b4
      replace eT := Lib.hid eT
      clear r4 hT1 hTl
      go_enter Tryd.func58, Tryd.ntmps58
      go_wp2_with (at_builtin; refine wpList_append_own_at _ rfl _ _ 74 rfl base 3 i0 (.int .i64 0) 1 8 Tryd.underlying74 hi.out hz0.out hz1.out hz2.out rfl (by decide) (.slice AT m cT) m xs rfl hown.out ⟨W3.heap.size, 0, none⟩ 1 1 [.int .i64 (v : Nat)] rfl rfl ?cc (fun u hu => by simp at hu; subst hu; rfl) ?c4 ?c5 hbs.out ?_)
      case cc =>
        intro j u hj
        match j, hj with
        | 0, hj => cases hj; exact cell_of_row _ _ 0 _ _ _ hx1.out
        | j + 1, hj => simp at hj
      case c4 => unfold maxLen; omega
      case c5 => omega
      · intro v7 w7 ho7 hg7 _ hat7
        rw [← hm.out, ← eT.out] at hg7 hat7
        obtain ⟨k1, k2, k3⟩ := kend.out v7 w7 (by rw [htl.out, hil.out]; exact ho7) hg7 (hat7.imp id fun e => ⟨_, e, b4.out.size⟩)
        have b7 : Hid (Below base w (w7.setCell ⟨q, 3, none⟩ v7)) := by
          have hb1 : Below base w W4 := b3.out.trans (b4.out.mono (Nat.le_trans hs b3.out.size))
          refine Below.setCell (p := ⟨q, 3, none⟩) (hb1.grown hg7 hbs.out fun k hk => ?_) r3.out.bank.low v7
          exact own_block (r3.out.bank.own 3 (by omega)) k hk
        have p7 : Hid (Kept q n va w (w7.setCell ⟨q, 3, none⟩ v7)) := ((p3.out.trans (Kept.later b4.out) b3.out.size).trans (Kept.grown (k := 3) (by omega) hg7) (Nat.le_trans b3.out.size b4.out.size)).trans (Kept.setq _ _ _) (Nat.le_trans (Nat.le_trans b3.out.size b4.out.size) hg7.size)
        rw [eT.out, hm.out] at k2
        replace k1 := Lib.hid k1
        obtain ⟨A7, c7, rfl, -, -⟩ := own_form' ho7
        clear ho7 hg7 hat7
        go_wp2_with fail
        go_ret
        exact ⟨rfl, ⟨_, k1.out, fun k hk => upd_other _ _ hk⟩, b7.out, p7.out⟩
end Go.Proofs.YtlhfdedjboanfaaDoor
