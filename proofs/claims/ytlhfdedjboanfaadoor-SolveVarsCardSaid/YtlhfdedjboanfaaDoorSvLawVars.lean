/-
  SolveVars. Condition: the pairs can be read, at most 2^43; the library's table lies as laid.
-/
import Derived.Test.YtlhfdedjboanfaaDoorSvExs
namespace Go.Proofs.YtlhfdedjboanfaaDoor
open Go.RowKit Go.Shelf Go.At Go.Sv
attribute [local go_sem] Oper.semAt_some

set_option maxRecDepth 100000 in
set_option maxHeartbeats 4000000 in
theorem solveVars_any (k0 : Int) (C : Option Addr) (l : List Pr) (cc : Nat) (w : World) (hE : L.Env w) (hk0 : 0 ≤ k0 ∧ k0 < 256) (hP : Prs w C l) (h6 : ∀ p ∈ l, I64 p.1 ∧ I64 p.2) (_ok : OkS C l.length cc) (hl : l.length ≤ 8796093022208) :
    Calls Tryd.prog 8 #[.int .u8 k0, .slice C l.length cc] w fun e w' => e = .returned (.bool true) ∧ Below w.heap.size w w' := by
  obtain ⟨k, rfl⟩ : ∃ k : Nat, k0 = (k : Int) := ⟨k0.toNat, by omega⟩
  have hk : k < 256 := by omega
  clear hk0 _ok
  have kx := Lib.hid (examples_any w hE)
  have kla := Lib.hid (fun W => lats_any W)
  have hq : k % 6 < 6 := Nat.mod_lt _ (by omega)
  obtain ⟨q, hqk⟩ : ∃ q, k % 6 = q := ⟨_, rfl⟩
  rw [hqk] at hq
  have hqi : ((k : Nat) : Int) % 6 = ((q : Nat) : Int) := by omega

  replace h6 := Lib.hid h6
  go_enter Tryd.func8, Tryd.ntmps8
  go_wp2_with (first
    | (go_at_call 9; refine kx.out.mono ?_; rintro e w1 ⟨rfl, hb1⟩; replace hb1 := Lib.hid hb1)
    | (go_at_call 21; refine (kla.out _).mono ?_; rintro e w2 ⟨⟨g, rfl, hg⟩, hb2⟩; obtain ⟨A, B, ha, hb, hL⟩ := hg q hq; replace hL := Lib.hid hL; replace hb2 := Lib.hid hb2; clear hg))
  obtain ⟨hn0, hn1⟩ := len_at hq
  have hu := hL.out.ulen
  have hnu : (nsL q).length = (usL q).length := by
    rcases (show q = 0 ∨ q = 1 ∨ q = 2 ∨ q = 3 ∨ q = 4 ∨ q = 5 by omega) with rfl | rfl | rfl | rfl | rfl | rfl <;> rfl
  have hbx := later_alloc w2 (.cells #[.slice A (nsL q).length (nsL q).length, .slice B (usL q).length (usL q).length] 25)
  have hx0 := World.alloc_heap_new w2 (.cells #[.slice A (nsL q).length (nsL q).length, .slice B (usL q).length (usL q).length] 25)
  have z1 : (w2.alloc (.cells #[.slice A (nsL q).length (nsL q).length, .slice B (usL q).length (usL q).length] 25)).heap.size = w2.heap.size + 1 := World.size_alloc ..
  obtain ⟨W0, hW0⟩ : ∃ W, w2.alloc (.cells #[.slice A (nsL q).length (nsL q).length, .slice B (usL q).length (usL q).length] 25) = W := ⟨_, rfl⟩
  rw [hW0]
  rw [hW0] at hbx hx0 z1
  have hB2 := hb1.out.trans (hb2.out.mono hb1.out.size)
  have hB0 := Lib.hid (hB2.trans (hbx.mono hB2.size))
  have own := Lib.hid (fun (W : World) (h : Below W0.heap.size W0 W) => (Own.mk (hE.later (hB0.out.trans (h.mono hB0.out.size))) ((hL.out.later hbx).later h) : Own W q A B))
  have hP0 := Lib.hid (hP.later hB0.out)
  have b0 : W0.cell? ⟨w2.heap.size, 0, none⟩ = some (.slice A (nsL q).length (nsL q).length) := cell_of_row _ _ 0 _ _ _ hx0
  have b1 : W0.cell? ⟨w2.heap.size, 1, none⟩ = some (.slice B (usL q).length (usL q).length) := cell_of_row _ _ 1 _ _ _ hx0
  have kb := Lib.hid (fun (W : World) (h : Below W0.heap.size W0 W) => And.intro ((h.cell (p := ⟨w2.heap.size, 0, none⟩) (by show w2.heap.size < _; omega)).trans b0) ((h.cell (p := ⟨w2.heap.size, 1, none⟩) (by show w2.heap.size < _; omega)).trans b1))
  have kpt := points_any A B (nsL q).length (usL q).length (nsL q).length (usL q).length hn0 hn1 C l cc W0 hP0.out h6.out hl
  obtain ⟨c, hc⟩ : ∃ c, ptsL (nsL q).length l = c := ⟨_, rfl⟩
  have hc6 := ptsL_i64 hn0 hn1 l
  have hck := pts_known hn0 l
  have hcl := ptsL_len (nsL q).length l
  have hvt : ∀ a, a ∈ varsL (ptsL (nsL q).length l) → 0 ≤ a ∧ a < 10 := fun a ha => vars_ten _ hn0 l ha
  rw [hc] at kpt hc6 hck hcl hvt
  have hkc : knownT (nsL q) (usL q) c = true := by
    unfold knownT
    rw [right_at hq, Bool.true_and, List.all_eq_true]
    intro p hp
    rw [(hck p hp).1, (hck p hp).2]; rfl
  obtain ⟨J, M, zz, tt, hT⟩ := L.told_of (w64_at hq) (right_at hq)
  have kle := Lib.hid (fun (W : World) (h : Below W0.heap.size W0 W) (D : Option Addr) (cd : Nat) (hD : Prs W D c) => least_any A B (nsL q) (usL q) (nsL q).length (usL q).length D c cd W (own.out W h).env (own.out W h).lat hD hc6 (by omega))
  have kva := Lib.hid (fun (W : World) (D : Option Addr) (cd : Nat) (hD : Prs W D c) => vars_any D c cd W hD hc6 (by omega))
  have kvl := Lib.hid (fun (W : World) (h : Below W0.heap.size W0 W) (D : Option Addr) (r : List Pr) (cd : Nat) (hD : Prs W D r) (hr : r.length ≤ 8796093022208) (a : Int) (ha : I64 a) => value_any A B (nsL q) (usL q) (nsL q).length (usL q).length D r cd a ha W (own.out W h).env (own.out W h).lat hD hr)
  have kbo := Lib.hid (fun (W : World) (h : Below W0.heap.size W0 W) => L.bottom_any A B (nsL q) (usL q) (nsL q).length (usL q).length W (own.out W h).env (own.out W h).lat)
  have klo := Lib.hid (fun (W : World) (h : Below W0.heap.size W0 W) => lo_any A B (nsL q) (usL q) (nsL q).length (usL q).length W (own.out W h).env (own.out W h).lat (by rw [hT.bottom]; have := told_z hT; exact ⟨by omega, by omega⟩))
  replace kpt := Lib.hid kpt
  replace hnu := Lib.hid hnu
  refine kpt.out.mono ?_
  rintro e w3 ⟨⟨D, cd, rfl, hD, okD⟩, hb3⟩
  clear kpt hx0 hW0 hP hP0 ha hb b0 b1 kx kla
  have hc9 : (varsL c).length ≤ 60 := by
    have h1 := ord_len (lt := ltI) ((atomsL c).flatMap pickV)
    have h2 := pick_len pickV_len (atomsL c)
    rw [atoms_len] at h2
    unfold varsL
    omega
  have hb3' := Lib.hid hb3
  replace hD := Lib.hid hD
  obtain ⟨b0, b1⟩ := kb.out _ hb3
  clear hb3
  replace z1 := Lib.hid z1
  replace hbx := Lib.hid hbx
  go_wp2_with fail
  refine (kle.out w3 hb3'.out D cd hD.out).mono ?_
  rintro e w4 ⟨⟨R, cr, r, ok, rfl, hR, okR, hr6, hLT⟩, hb4⟩
  have hO4 := Lib.hid (below_on hb3'.out hb4)
  have hD4 := Lib.hid (hD.out.later hb4)
  replace hR := Lib.hid hR
  replace hr6 := Lib.hid hr6
  obtain ⟨b0, b1⟩ := kb.out _ hO4.out
  clear hb4 kle hD
  go_wp2_with fail
  refine (kva.out w4 D cd hD4.out).mono ?_
  rintro e w5 ⟨⟨V, cv, rfl, hV, okV⟩, hb5⟩
  have hO5 := Lib.hid (below_on hO4.out hb5)
  have hR5 := Lib.hid (hR.out.later hb5)
  replace hV := Lib.hid hV
  obtain ⟨b0, b1⟩ := kb.out _ hO5.out
  clear hb5 hR hD4 kva
  cases ok with
  | false =>
    replace hLT := Lib.hid hLT
    go_wp2_with fail
    go_ret
    exact ⟨rfl, below_on hB0.out hO5.out⟩
  | true =>
    obtain ⟨x, rfl, hx⟩ := least_sol hLT rfl
    obtain ⟨r, hr⟩ : ∃ r, solL c x = r := ⟨_, rfl⟩
    have hrl : r.length = (varsL c).length := by rw [← hr, sol_len]
    rw [hr] at hR5 okR hr6 hLT
    rw [hr]
    obtain ⟨vv, hvv⟩ : ∃ vv : Int → Int, ∀ a, valueT (nsL q) (usL q) r a = vv a := ⟨_, fun _ => rfl⟩
    obtain ⟨bo, hbo⟩ : ∃ bo, L.bottomI (nsL q) (usL q) = bo := ⟨_, rfl⟩
    have hzt := told_z hT
    have hb64 : bo = ((zz : Nat) : Int) := hbo.symm.trans hT.bottom
    have v77 : vv 77 = bo := by
      rw [← hvv, ← hr, ← hbo]
      exact value_out (by omega) (sol_out fun h => by have := hvt _ h; omega)
    have vlo : vv (pointT bo) = bo := by
      rw [← hvv, ← hbo]; exact value_lo hT r
    have hplo : I64 (pointT bo) := by
      rw [hb64, show pointT ((zz : Nat) : Int) = -1 - ((zz : Nat) : Int) from if_neg (by omega)]
      exact ⟨by omega, by omega⟩
    rw [hbo] at kbo klo
    obtain ⟨plo, hpl⟩ : ∃ plo, pointT bo = plo := ⟨_, rfl⟩
    rw [hpl] at vlo hplo klo
    have krow : Hid (∀ i, i < (varsL c).length → r.getD i (0, 0) = ((varsL c).getD i 0, ((x i : Nat) : Int)) ∧ vv ((varsL c).getD i 0) = ((x i : Nat) : Int) ∧ x i < (nsL q).length ∧ I64 ((varsL c).getD i 0)) := fun i hi => by
      refine ⟨by rw [← hr]; exact sol_get c x hi, ?_, hx i hi, ?_⟩
      · rw [← hvv, ← hr]; exact sol_value hnu.out (fun j hj => by rw [← hnu.out]; exact hx j hj) hi
      · exact vars_i64 hc6 hi
    have hr9 : r.length ≤ 8796093022208 := by omega
    have kval : Hid (∀ (W : World) (h : Below w5.heap.size w5 W) (a : Int) (ha : I64 a), Calls Tryd.prog 17 #[.agg #[.slice A (nsL q).length (nsL q).length, .slice B (usL q).length (usL q).length], .slice R r.length cr, .int .i64 a] W fun e w' => e = .returned (.int .i64 (vv a)) ∧ Below W.heap.size W w') := fun W h a ha => by
      have := kvl.out W (below_on hO5.out h) R r cr (hR5.out.later h) hr9 a ha
      rw [hvv] at this
      exact this
    rw [hrl] at kval
    obtain ⟨n, hn⟩ : ∃ n, (varsL c).length = n := ⟨_, rfl⟩
    rw [hrl]
    rw [hn] at kval hc9 ⊢
    replace hrl := Lib.hid hrl
    replace hn := Lib.hid hn
    replace hLT := Lib.hid hLT
    replace hT := Lib.hid hT
    replace kvl := Lib.hid kvl
    replace hvv := Lib.hid hvv
    clear b0 b1
    go_wp2_with fail
    go_loopw [10] (fun i W => ∃ j : Nat, j ≤ n ∧ i = .int .i64 j ∧ Hid (Below w5.heap.size w5 W)) (fun i _ => n - (intOf i).toNat)
    case atStart => exact ⟨0, Nat.zero_le _, rfl, Below.refl _ _⟩
    case round =>
      obtain ⟨j, hj, rfl, hF⟩ := hrel
      by_cases hlt : j < n
      · have hjr : j < r.length := by rw [hrl.out, hn.out]; exact hlt
        have hjv : j < (varsL c).length := by rw [hn.out]; exact hlt
        obtain ⟨hro, hva, hxj, hv6⟩ := krow.out j hjv
        obtain ⟨bR, oR, rfl, hbR, cR⟩ := (hR5.out.later hF.out) (by intro e; subst e; simp at hjr)
        obtain ⟨bV, oV, rfl, hbV, cV⟩ := (hV.out.later hF.out) (by intro e; rw [e] at hjv; simp at hjv)
        obtain ⟨c0, c1⟩ := cR j hjr
        have d0 := cV j hjv
        rw [hro] at c0 c1
        dsimp only at c0 c1
        clear cR cV
        generalize (varsL c).getD j 0 = v at c0 d0 hva hv6
        obtain ⟨hx0, hx1⟩ : (0 : Int) ≤ ((x j : Nat) : Int) ∧ ((x j : Nat) : Int) < (((nsL q).length : Nat) : Int) := by omega
        clear hxj
        generalize ((x j : Nat) : Int) = xj at c1 hva hx0 hx1
        have hkeep : Hid (∀ W : World, Below wr.heap.size wr W → (W.cell? ⟨w2.heap.size, 0, none⟩ = some (.slice A (nsL q).length (nsL q).length) ∧ W.cell? ⟨w2.heap.size, 1, none⟩ = some (.slice B (usL q).length (usL q).length)) ∧ W.cell? ⟨bR, oR + j * 2, none⟩ = some (.int .i64 v) ∧ W.cell? ⟨bR, oR + j * 2 + 1, none⟩ = some (.int .i64 xj) ∧ W.cell? ⟨bV, oV + j, none⟩ = some (.int .i64 v)) := fun W h =>
          ⟨kb.out W (below_on (below_on hO5.out hF.out) h), (h.cell (p := ⟨bR, oR + j * 2, none⟩) hbR).trans c0, (h.cell (p := ⟨bR, oR + j * 2 + 1, none⟩) hbR).trans c1, (h.cell (p := ⟨bV, oV + j, none⟩) hbV).trans d0⟩
        have hG : Hid (Below wr.heap.size wr wr) := Lib.hid (Below.refl _ _)
        have e1 : decide (xj < 0) = false := decide_eq_false (by omega)
        have e2 : decide ((((nsL q).length : Nat) : Int) ≤ xj) = false := decide_eq_false (by omega)
        have e3 : ¬ xj < 0 := by omega
        have e4 : ¬ (((nsL q).length : Nat) : Int) ≤ xj := by omega
        have hji : ((j : Nat) : Int) < ((n : Nat) : Int) := by omega
        have hjd : decide (((j : Nat) : Int) < ((n : Nat) : Int)) = true := decide_eq_true hji
        have kv9 : Hid (∀ (W : World) (h : Below wr.heap.size wr W), Calls Tryd.prog 17 #[.agg #[.slice A (nsL q).length (nsL q).length, .slice B (usL q).length (usL q).length], .slice (some ⟨bR, oR, none⟩) n cr, .int .i64 v] W fun e w' => e = .returned (.int .i64 xj) ∧ Below W.heap.size W w') := fun W h => by
          have := kval.out W (below_on hF.out h) v hv6
          rw [hva] at this
          exact this
        clear c0 c1 d0
        go_wp2_with fail
        go_region_held3 (fun W => (W.cell? ⟨w2.heap.size, 0, none⟩ = some (.slice A (nsL q).length (nsL q).length) ∧ W.cell? ⟨w2.heap.size, 1, none⟩ = some (.slice B (usL q).length (usL q).length)) ∧ W.cell? ⟨bR, oR + j * 2, none⟩ = some (.int .i64 v) ∧ W.cell? ⟨bR, oR + j * 2 + 1, none⟩ = some (.int .i64 xj) ∧ W.cell? ⟨bV, oV + j, none⟩ = some (.int .i64 v))
          ((refine hkeep.out _ ?_; repeat (first | with_reducible exact hG.out | with_reducible refine Below.drew ?_)))
          (first | (go_at_call 17; refine (kv9.out _ (by repeat (first | with_reducible exact hG.out | with_reducible refine Below.drew ?_))).mono ?_; rintro e w6 ⟨rfl, hb6⟩; replace hG : Hid (Below wr.heap.size wr w6) := Lib.hid (below_on (by repeat (first | with_reducible exact hG.out | with_reducible refine Below.drew ?_)) hb6); clear hb6))
        all_goals
          go_wp2_with fail
          go_roundw
          case rel => exact ⟨j + 1, by omega, by go_num, below_on hF.out hG.out⟩
          case measure => simp [intOf]; omega
      · obtain rfl : j = n := by omega
        have hkeep : Hid (∀ W : World, Below wr.heap.size wr W → W.cell? ⟨w2.heap.size, 0, none⟩ = some (.slice A (nsL q).length (nsL q).length) ∧ W.cell? ⟨w2.heap.size, 1, none⟩ = some (.slice B (usL q).length (usL q).length)) := fun W h => kb.out W (below_on (below_on hO5.out hF.out) h)
        have hG : Hid (Below wr.heap.size wr wr) := Lib.hid (Below.refl _ _)
        have k77 : Hid (∀ (W : World) (h : Below wr.heap.size wr W) (a : Int) (ha : I64 a), Calls Tryd.prog 17 #[.agg #[.slice A (nsL q).length (nsL q).length, .slice B (usL q).length (usL q).length], .slice R j cr, .int .i64 a] W fun e w' => e = .returned (.int .i64 (vv a)) ∧ Below W.heap.size W w') := fun W h a ha => kval.out W (below_on hF.out h) a ha
        have kbo2 := Lib.hid (fun (W : World) (h : Below wr.heap.size wr W) => kbo.out W (below_on (below_on hO5.out hF.out) h))
        have klo2 := Lib.hid (fun (W : World) (h : Below wr.heap.size wr W) => klo.out W (below_on (below_on hO5.out hF.out) h))
        have h77 : I64 77 := by unfold I64; omega
        go_wp2_with fail
        go_region_held3 (fun W => W.cell? ⟨w2.heap.size, 0, none⟩ = some (.slice A (nsL q).length (nsL q).length) ∧ W.cell? ⟨w2.heap.size, 1, none⟩ = some (.slice B (usL q).length (usL q).length))
          ((refine hkeep.out _ ?_; repeat (first | with_reducible exact hG.out | with_reducible refine Below.drew ?_)))
          (first
            | (go_at_call 17; refine (k77.out _ (by repeat (first | with_reducible exact hG.out | with_reducible refine Below.drew ?_)) _ (by first | exact h77 | exact hplo)).mono ?_; rintro e w6 ⟨he, hb6⟩; (first | rw [v77] at he | rw [vlo] at he); subst he; replace hG : Hid (Below wr.heap.size wr w6) := Lib.hid (below_on (by repeat (first | with_reducible exact hG.out | with_reducible refine Below.drew ?_)) hb6); clear hb6)
            | (go_at_call 28; refine (kbo2.out _ (by repeat (first | with_reducible exact hG.out | with_reducible refine Below.drew ?_))).mono ?_; rintro e w6 ⟨rfl, hb6⟩; replace hG : Hid (Below wr.heap.size wr w6) := Lib.hid (below_on (by repeat (first | with_reducible exact hG.out | with_reducible refine Below.drew ?_)) hb6); clear hb6)
            | (go_at_call 29; refine (klo2.out _ (by repeat (first | with_reducible exact hG.out | with_reducible refine Below.drew ?_))).mono ?_; rintro e w6 ⟨rfl, hb6⟩; replace hG : Hid (Below wr.heap.size wr w6) := Lib.hid (below_on (by repeat (first | with_reducible exact hG.out | with_reducible refine Below.drew ?_)) hb6); clear hb6))
        all_goals
          go_wp2_with fail
          go_ret
          exact ⟨rfl, below_on hB0.out (below_on hO5.out (below_on hF.out hG.out))⟩
end Go.Proofs.YtlhfdedjboanfaaDoor
