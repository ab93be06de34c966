/-
  settle: what waits is looked at till nothing does. Condition: the rise lies as it should.
-/
import Derived.Test.YtlhfdedjboanfaaDoorSvRaise
import Derived.Deep.LoopGhost
namespace Go.Sv
theorem nodup_len : ∀ (n : Nat) (l : List Nat), l.Nodup → (∀ a, a ∈ l → a < n) → l.length ≤ n
  | 0, [], _, _ => Nat.le_refl _
  | 0, a :: _, _, h => absurd (h a (List.mem_cons_self ..)) (Nat.not_lt_zero _)
  | n + 1, l, hd, h => by
    have h1 := nodup_len n (l.erase n) (hd.erase n) fun a ha => by
      have h2 := (hd.mem_erase_iff).1 ha
      have := h a h2.2
      omega
    have h3 : l.length ≤ (l.erase n).length + 1 := by
      rw [List.length_erase]
      split <;> omega
    omega
theorem last_of {l : List Nat} (h : l ≠ []) : ∃ k a, l = k ++ [a] := ⟨l.dropLast, l.getLast h, (List.dropLast_concat_getLast h).symm⟩
end Go.Sv
namespace Go.Proofs.YtlhfdedjboanfaaDoor
open Go.RowKit Go.Shelf Go.At Go.Sv
attribute [local go_sem] Oper.semAt_some

/-- where a settling stands -/
structure SetAt (w : World) (base q n m : Nat) (row : Nat → Nat) (E P : Nat → Nat → Prop) (s0 : St) (va : Nat → Value) (s : St) (W : World) : Prop where
  rise : RiseAt W base q n va s
  inv : Inv m row n E P s
  below : Below base w W
  O : s.O = s0.O
  sub : ∀ i, Sub (s.R i) (s0.R i)
section
variable {w W : World} {base q n m : Nat} {row : Nat → Nat} {J : Nat → Nat → Nat} {E P : Nat → Nat → Prop} {s0 : St} {va : Nat → Value} {s : St}
theorem SetAt.tlen (h : SetAt w base q n m row E P s0 va s W) : s.T.length ≤ n := nodup_len n _ h.inv.nodup h.inv.tlt
theorem SetAt.drewN (h : SetAt w base q n m row E P s0 va s W) (k : Nat) : SetAt w base q n m row E P s0 va s (W.drewN k) := ⟨h.rise.drewN k, h.inv, belowN h.below k, h.O, h.sub⟩
/-- the last one that waits taken off -/
theorem RiseAt.pop {A : Option Addr} {c a : Nat} {l : List Nat} (h : RiseAt W base q n va s) (hT : s.T = l ++ [a]) (hv : va 3 = .slice A (l.length + 1) c) :
    RiseAt (W.setCell ⟨q, 3, none⟩ (.slice A l.length c)) base q n (upd va 3 (.slice A l.length c)) { s with T := l } := by
  have hbk := h.bank.short (k := 3) (n := l.length) (ys := intL l) (x := .int .i64 (a : Nat)) (by omega) hv (by show s.T.length = _; rw [hT, List.length_append]; rfl) (by show intL s.T = _; rw [hT, intL_snoc])
  refine ⟨(hbk.setq 3 _).cong (fun j _ => ?_) (fun j _ => ?_), ?_, h.r64⟩
  · match j with
    | 3 => rw [upd_same]; rfl
    | 0 | 1 | 2 | 4 => rfl
    | j + 5 => rfl
  · match j with
    | 3 => rw [upd_same]; rfl
    | 0 | 1 | 2 | 4 => rfl
    | j + 5 => rfl
  · rw [heap_setCell_same W q 3 _ _ _ h.box]
    rfl
/-- what lies over a -/
theorem RiseAt.over {a : Nat} (h : RiseAt W base q n va s) (ha : a < n) : ∃ A c, va (a + 5) = .slice A (s.O a).length c ∧ ∀ j, j < (s.O a).length → ∃ g, A = some ⟨g, 0, none⟩ ∧ W.cell? ⟨g, j, none⟩ = some (.int .i64 ((s.O a).getD j 0 : Nat)) := by
  obtain ⟨A, c, e, -, -⟩ := h.bank.row (k := a + 5) (by omega)
  refine ⟨A, c, e, fun j hj => ?_⟩
  have ho := h.bank.own (a + 5) (by omega)
  rw [e] at ho
  obtain ⟨g, rfl, _, h4⟩ := own_cellAt ho (show 0 < (s.O a).length by omega)
  exact ⟨g, rfl, (h4 j _ (intL_get hj)).1⟩
/-- behind a look -/
theorem SetAt.step {va' : Nat → Value} {W' W5 : World} {a : Nat} (hR : Sv.Rows m row J) (h : SetAt w base q n m row E P s0 va s W) (ha : a < n) (hs : s.S a < (s.O a).length) (h5 : Below base w W5) (hr : RiseAt W' base q n va' (stepped s a)) (hb : Below base W5 W') :
    SetAt w base q n m row E P s0 va' (stepped s a) W' :=
  ⟨hr, step_inv hR h.inv ha hs, h5.trans hb, by unfold stepped; rw [after_O]; exact h.O, fun i => (after_R _ _ _ i).trans (h.sub i)⟩
end
set_option maxRecDepth 100000 in
set_option maxHeartbeats 4000000 in
theorem settle_any {base q n m : Nat} {row : Nat → Nat} {J : Nat → Nat → Nat} {E P : Nat → Nat → Prop} {va : Nat → Value} {s0 : St} (hR : Sv.Rows m row J) (hn : n ≤ 1099511627776) (w : World) (hs : base ≤ w.heap.size) (h0 : RiseAt w base q n va s0) (hI : Inv m row n E P s0) :
    Calls Tryd.prog 32 #[.pointer (some ⟨q, 0, none⟩)] w fun e w' => e = .returned (.tuple #[]) ∧ ∃ va' s', s'.T = [] ∧ SetAt w base q n m row E P s0 va' s' w' := by
  have h0 : Hid (SetAt w base q n m row E P s0 va s0 w) := ⟨h0, hI, Below.refl _ _, rfl, fun _ => Sub.refl _⟩
  clear hI
  replace hR := Lib.hid hR
  go_enter Tryd.func32, Tryd.ntmps32
  go_wp2_with fail
  go_step3
  go_wp2_with fail
  go_step3
  go_wp2_with fail
  go_loopg [] (weight n s0) (fun g wr => ∃ va' s', weight n s' ≤ g ∧ Hid (SetAt w base q n m row E P s0 va' s' wr))
  case atStart => exact ⟨va, s0, Nat.le_refl _, h0⟩
  case round =>
    obtain ⟨va', s, hg, hA⟩ := hrel
    obtain ⟨-, -, -, q3, -⟩ := hA.out.rise.bx
    obtain ⟨AT, cT, eT, hT1, hT2⟩ := hA.out.rise.bank.row (k := 3) (by omega)
    replace eT : va' 3 = .slice AT s.T.length cT := eT
    rw [eT] at q3
    have htl := hA.out.tlen
    by_cases hz : s.T = []
    · have hl0 : s.T.length = 0 := by rw [hz]; rfl
      rw [hl0] at q3
      replace hz := Lib.hid hz
      clear hT1 hT2 eT hl0
      go_wp2_with fail
      rw [Exit.noGoto_normal]
      go_end0
      exact ⟨rfl, va', s, hz.out, hA.out⟩
    · obtain ⟨l, a, hla⟩ := last_of hz
      have hlen : s.T.length = l.length + 1 := by rw [hla, List.length_append]; rfl
      have ha : a < n := hA.out.inv.tlt a (by rw [hla]; simp)
      replace hT1 : s.T.length ≤ cT := hT1
      have hTown : wr.ownsRow base 3 1 (.slice AT s.T.length cT) s.T.length (intL s.T) := by
        have := hA.out.rise.bank.own 3 (by omega)
        rw [eT] at this
        exact this
      obtain ⟨gT, rfl, -, hTc⟩ := own_cellAt hTown (by omega)
      obtain ⟨c0, -⟩ := hTc l.length (.int .i64 (a : Nat)) (by rw [hla, intL_snoc, List.getElem?_append_right (by rw [intL_len]; exact Nat.le_refl _), intL_len]; simp)
      rw [hlen] at q3 hT1
      replace hla := Lib.hid hla
      replace hlen := Lib.hid hlen
      have hkl : l.length ≤ n := by have := hlen.out; omega
      obtain ⟨k, hk⟩ : ∃ k, l.length = k := ⟨_, rfl⟩
      rw [hk] at q3 hT1 c0 hkl
      replace hk := Lib.hid hk
      have hT2' : cT ≤ 9223372036854775807 := hT2
      clear hz hTown hTc hT2 htl
      cases gk with
      | zero =>
        exfalso
        have := hlen.out
        unfold weight at hg
        omega
      | succ g =>
        go_wp2_with fail
        go_loopg [] ((s.O a).length) (fun g2 wy => ∃ va2 s2, Hid (s2.T = s.T) ∧ Hid (weight n s2 ≤ g + 1) ∧ Hid ((s2.O a).length - s2.S a ≤ g2) ∧ Hid (SetAt w base q n m row E P s0 va2 s2 wy))
        case atStart => exact ⟨va', s, rfl, hg, Nat.sub_le _ _, hA⟩
        case round =>
          obtain ⟨va2, s2, hT2, hw2, hg2, hB⟩ := hrel
          clear hA eT q3 c0
          rename World => wy
          obtain ⟨gR, cR, gO, cO, gS, cS, gG, cG, eR, eO, eS, eG, ⟨hR1, hmx⟩, lR, lS, lG, -⟩ := hB.out.rise.sl (by omega)
          obtain ⟨q0, q1, q2, q3, q4, f3⟩ := hB.out.rise.bx
          obtain ⟨s0', s1'⟩ := hB.out.rise.rowS eS ha
          obtain ⟨o0, -⟩ := hB.out.rise.rowO eO ha
          obtain ⟨A, cA, eA, hA⟩ := hB.out.rise.over ha
          rw [eA] at o0
          rw [eO] at q1
          rw [eS] at q2
          have hx := hB.out.inv.le a ha
          by_cases hlt : s2.S a < (s2.O a).length
          · obtain ⟨g4, rfl, d0⟩ := hA _ hlt
            have hz0 : rise (looked s2 a) ((s2.O a).getD (s2.S a) 0) (s2.R a) = true ∨ rise (looked s2 a) ((s2.O a).getD (s2.S a) 0) (s2.R a) = false := by cases rise (looked s2 a) ((s2.O a).getD (s2.S a) 0) (s2.R a) <;> simp
            have hb := hB.out.inv.onE a ha _ (getD_mem hlt)
            have hbn := hb.1
            have kst := Lib.hid (fun (va3 : Nat → Value) (W' W5 : World) (h5 : Below base w W5) => fun hr hb => SetAt.step (va' := va3) (W' := W') (W5 := W5) hR.out hB.out ha hlt h5 hr hb)
            have hbx := hbn
            have r64 := hB.out.rise.r64 a ha
            have htl2 : s2.T.length ≤ 1099511627776 := by have := hB.out.tlen; omega
            have krs := Lib.hid (fun (v' : Nat → Value) (W' : World) (hs' : base ≤ W'.heap.size) (h : RiseAt W' base q n v' (looked s2 a)) => raise_any (s := looked s2 a) (q := q) (va := v') ((s2.O a).getD (s2.S a) 0) (s2.R a) hbx r64 htl2 W' hs' h)
            have hwl := fun h => raised_weight (s := looked s2 a) (r := s2.R a) (n := n) hbx h
            have hno : rise (looked s2 a) ((s2.O a).getD (s2.S a) 0) (s2.R a) = false → stepped s2 a = looked s2 a := fun h => by unfold stepped after; rw [h]; rfl
            have hye : rise (looked s2 a) ((s2.O a).getD (s2.S a) 0) (s2.R a) = true → stepped s2 a = Go.Sv.raised (looked s2 a) ((s2.O a).getD (s2.S a) 0) (s2.R a) := fun h => by unfold stepped after; rw [h]; rfl
            have hst : after (looked s2 a) ((s2.O a).getD (s2.S a) 0) (s2.R a) = stepped s2 a := rfl
            rw [hst] at krs
            have klo := Lib.hid (fun (W5 : World) (h : RiseAt W5 base q n va2 s2) => h.setS (v := a) (x := s2.S a + 1) eS)
            obtain ⟨b, hbE⟩ : ∃ b, (s2.O a).getD (s2.S a) 0 = b := ⟨_, rfl⟩
            rw [hbE] at hz0 hbn d0 krs hwl hno hye
            obtain ⟨L, hLE⟩ : ∃ L, (s2.O a).length = L := ⟨_, rfl⟩
            rw [hLE] at o0 hlt hg2 hx
            obtain ⟨x, hxE⟩ : ∃ x, s2.S a = x := ⟨_, rfl⟩
            rw [hxE] at s0' d0 hlt hg2 hx klo
            replace hbE := Lib.hid hbE
            replace hLE := Lib.hid hLE
            replace hxE := Lib.hid hxE
            replace hwl := Lib.hid hwl
            replace hno := Lib.hid hno
            replace hye := Lib.hid hye
            replace hb := Lib.hid hb
            replace eR := Lib.hid eR
            replace eS := Lib.hid eS
            clear hA eA hst hbx hx q0 q3 q4 f3 eG lR lG hR1 hmx eO
            obtain ⟨z, hz1⟩ : ∃ z, rise (looked s2 a) b (s2.R a) = z := ⟨_, rfl⟩
            rw [hz1] at krs hz0
            replace hz1 := Lib.hid hz1
            have hxm : x ≤ 9223372036854775806 := by
              have h1 := hB.out.rise.bank.row (k := a + 5) (by omega)
              obtain ⟨_, c9, _, h2, h3⟩ := h1
              have h4 : (s2.O a).length ≤ c9 := h2
              rw [hLE.out] at h4
              unfold maxLen at h3
              omega
            go_wp2_with fail
            go_quiet (fail)
            all_goals
              have B1 := Lib.hid (hB.out.drewN nq)
              have p1 : (wy.drewN nq).cell? ⟨q, 1, none⟩ = some (.slice (some ⟨gO, 0, none⟩) n cO) := q1
              have p2 : (wy.drewN nq).cell? ⟨q, 2, none⟩ = some (.slice (some ⟨gS, 0, none⟩) n cS) := q2
              have t0' : (wy.drewN nq).cell? ⟨gS, a, none⟩ = some (.int .i64 (x : Nat)) := s0'
              have t1' : (wy.drewN nq).frozen? ⟨gS, a, none⟩ = false := s1'
              have u0' : (wy.drewN nq).cell? ⟨gO, a, none⟩ = some (.slice (some ⟨g4, 0, none⟩) L cA) := o0
              have v0' : (wy.drewN nq).cell? ⟨g4, x, none⟩ = some (.int .i64 (b : Nat)) := d0
              obtain ⟨W4, hW4⟩ : ∃ W, wy.drewN nq = W := ⟨_, rfl⟩
              rw [hW4] at B1 p1 p2 t0' t1' u0' v0' ⊢
              clear hW4 q1 q2 s0' s1' o0 d0
              go_wp2_with fail
              go_quiet (fail)
              all_goals
                have B2 := Lib.hid (B1.out.drewN nq)
                have q2 : (W4.drewN nq).cell? ⟨q, 2, none⟩ = some (.slice (some ⟨gS, 0, none⟩) n cS) := p2
                have s0' : (W4.drewN nq).cell? ⟨gS, a, none⟩ = some (.int .i64 (x : Nat)) := t0'
                have s1' : (W4.drewN nq).frozen? ⟨gS, a, none⟩ = false := t1'
                obtain ⟨W5, hW5⟩ : ∃ W, W4.drewN nq = W := ⟨_, rfl⟩
                rw [hW5] at B2 q2 s0' s1' ⊢
                clear hW5 p1 p2 t0' t1' u0' v0'
                have r6 : Hid (RiseAt (W5.setCell ⟨gS, a, none⟩ (.int .i64 ((x : Int) + 1))) base q n va2 (looked s2 a)) := by
                  have := klo.out W5 B2.out.rise
                  have e : (({ s2 with S := upd s2.S a (x + 1) } : St)) = looked s2 a := by unfold looked; rw [hxE.out]
                  rw [e] at this
                  exact this
                have b6 : Hid (Below base w (W5.setCell ⟨gS, a, none⟩ (.int .i64 ((x : Int) + 1)))) := B2.out.below.setCell (p := ⟨gS, a, none⟩) lS _
                obtain ⟨W6, hW6⟩ : ∃ W, W5.setCell ⟨gS, a, none⟩ (.int .i64 ((x : Int) + 1)) = W := ⟨_, rfl⟩
                rw [hW6] at r6 b6
                obtain ⟨q0, -⟩ := r6.out.bx
                rw [eR.out] at q0
                obtain ⟨x0, -⟩ := r6.out.rowR eR.out ha
                have x0 : W6.cell? ⟨gR, a, none⟩ = some (.int .u64 (s2.R a : Nat)) := x0
                have hs6 : Hid (base ≤ W6.heap.size) := Nat.le_trans hs b6.out.size
                go_wp2_with fail
                refine (krs.out va2 W6 hs6.out r6.out).mono ?_
                rintro e w7 ⟨rfl, ⟨va3, hr7, -⟩, hb7, -⟩
                have hA7 := Lib.hid (kst.out va3 w7 W6 b6.out hr7 hb7)
                clear hr7 hb7 hW6 x0 q0 q2 s0' s1'
                cases z with
                | true =>
                  go_wp2_with fail
                  go_roundg g
                  case measure => omega
                  case rel =>
                    refine ⟨va3, stepped s2 a, ?_, hA7.out⟩
                    have h1 := hwl.out hz1.out
                    rw [← hye.out hz1.out, looked_weight] at h1
                    have h2 := hw2.out
                    omega
                | false =>
                  go_wp2_with fail
                  cases gk with
                  | zero =>
                    exfalso
                    have h1 := hg2.out
                    omega
                  | succ g3 =>
                    go_roundg g3
                    case measure => omega
                    case rel =>
                      refine ⟨va3, stepped s2 a, ?_, ?_, ?_, hA7.out⟩
                      · rw [hno.out hz1.out]; exact hT2.out
                      · rw [hno.out hz1.out]; exact hw2.out
                      · rw [hno.out hz1.out]
                        show (s2.O a).length - upd s2.S a (s2.S a + 1) a ≤ g3
                        rw [upd_same, hLE.out, hxE.out]
                        have h1 := hg2.out
                        omega
          · have hge : (s2.O a).length ≤ s2.S a := Nat.le_of_not_lt hlt
            have kpop := Lib.hid (pop_inv hB.out.inv (hT2.out.trans hla.out) ha hge)
            have kpw := Lib.hid (popped_weight (n := n) (a := a) (hT2.out.trans hla.out))
            obtain ⟨L, hLE⟩ : ∃ L, (s2.O a).length = L := ⟨_, rfl⟩
            rw [hLE] at o0 hlt hx
            obtain ⟨x, hxE⟩ : ∃ x, s2.S a = x := ⟨_, rfl⟩
            rw [hxE] at s0' hlt hx
            replace hLE := Lib.hid hLE
            replace hxE := Lib.hid hxE
            have hxL : x = L := by omega
            obtain ⟨A3, c3, e3, h31, h32⟩ := hB.out.rise.bank.row (k := 3) (by omega)
            have hl3 : s2.T.length = k + 1 := by rw [hT2.out, hlen.out, hk.out]
            replace e3 : va2 3 = .slice A3 s2.T.length c3 := e3
            replace h31 : s2.T.length ≤ c3 := h31
            rw [hl3] at e3 h31
            have hc3 : c3 ≤ 9223372036854775807 := h32
            have kp := Lib.hid (fun (W' : World) (h : RiseAt W' base q n va2 s2) => h.pop (hT2.out.trans hla.out) (A := A3) (c := c3) (by rw [hk.out]; exact e3))
            rw [e3] at q3
            subst hxL
            have hA3 : ∃ g3, A3 = some ⟨g3, 0, none⟩ := by
              have ho := hB.out.rise.bank.own 3 (by omega)
              rw [e3] at ho
              have h9 : rLe n s2 3 = k + 1 := hl3
              rw [h9] at ho
              obtain ⟨g3, e, -⟩ := own_cellAt ho (by omega)
              exact ⟨g3, e⟩
            obtain ⟨g3, rfl⟩ := hA3
            replace e3 := Lib.hid e3
            replace eG := Lib.hid eG
            replace hl3 := Lib.hid hl3
            rw [hk.out] at kp
            clear hA eA q0 q4 hR1 hmx eO eR lR lS h32 hge
            go_wp2_with fail
            go_quiet (fail)
            all_goals
              have B1 := Lib.hid (hB.out.drewN nq)
              have p3 : (wy.drewN nq).cell? ⟨q, 3, none⟩ = some (.slice (some ⟨g3, 0, none⟩) (k + 1) c3) := q3
              have pf : (wy.drewN nq).frozen? ⟨q, 3, none⟩ = false := f3
              obtain ⟨W4, hW4⟩ : ∃ W, wy.drewN nq = W := ⟨_, rfl⟩
              rw [hW4] at B1 p3 pf ⊢
              clear hW4 q1 q2 q3 s0' s1' o0 f3
              have r5 := Lib.hid (kp.out W4 B1.out.rise)
              have b5 : Hid (Below base w (W4.setCell ⟨q, 3, none⟩ (.slice (some ⟨g3, 0, none⟩) k c3))) := B1.out.below.setCell (p := ⟨q, 3, none⟩) B1.out.rise.bank.low _
              obtain ⟨W5, hW5⟩ : ∃ W, W4.setCell ⟨q, 3, none⟩ (.slice (some ⟨g3, 0, none⟩) k c3) = W := ⟨_, rfl⟩
              rw [hW5] at r5 b5
              obtain ⟨-, -, -, -, q4, -⟩ := r5.out.bx
              have eG5 : upd va2 3 (.slice (some ⟨g3, 0, none⟩) k c3) 4 = .slice (some ⟨gG, 0, none⟩) n cG := by rw [upd_other _ _ (by omega)]; exact eG.out
              rw [eG5] at q4
              obtain ⟨z0, z1⟩ := r5.out.rowG eG5 ha
              have r6 := Lib.hid (r5.out.setG (v := a) (x := false) eG5)
              have b6 : Hid (Below base w (W5.setCell ⟨gG, a, none⟩ (.bool false))) := b5.out.setCell (p := ⟨gG, a, none⟩) lG _
              replace eG5 := Lib.hid eG5
              go_wp2_with fail
              go_roundg g
              case measure => omega
              case rel =>
                refine ⟨upd va2 3 (.slice (some ⟨g3, 0, none⟩) k c3), popped s2 a, ?_, show SetAt _ _ _ _ _ _ _ _ _ _ _ _ from ⟨?_, kpop.out, b6.out, hB.out.O, hB.out.sub⟩⟩
                · have h1 := kpw.out
                  have h2 := hw2.out
                  omega
                · have e : ({ s2 with T := l, G := upd s2.G a false } : St) = popped s2 a := by
                    unfold popped
                    rw [hT2.out, hla.out, List.dropLast_concat]
                  rw [← e]
                  exact r6.out
end Go.Proofs.YtlhfdedjboanfaaDoor
