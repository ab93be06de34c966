/-
  Solves. Condition: the lattice, the pairs, the Sols can be read; the library's table lies as laid.
-/
import Derived.Test.YtlhfdedjboanfaaDoorSvValues
import Derived.Test.YtlhfdedjboanfaaDoorSvValue
namespace Go.Proofs.YtlhfdedjboanfaaDoor
open Go.RowKit Go.Shelf Go.At Go.Sv
attribute [local go_sem] Oper.semAt_some

theorem cl_value {ns : List ByteArray} {us : List Nat} {s : List Pr} {f : Int → Option Int} (hf : ∀ a, f a = (s.find? (fun x => x.1 == a)).map (·.2)) (hs : s.all (fun x => pnt ns.length x.2) = true) {a : Int} (ha : kn ns.length a = true) : clT f (L.bottomI ns us) a = valueT ns us s a := by
  unfold clT valueT
  by_cases h0 : a < 0
  · rw [if_pos h0, if_pos h0]
    unfold kn isP at ha
    rw [decide_eq_true h0] at ha
    simp only [Bool.not_true, Bool.false_or] at ha
    rw [if_pos ha]
  · rw [if_neg h0, if_neg h0, hf a]
    cases h : s.find? (fun x => x.1 == a) with
    | none => rfl
    | some x =>
      have hp := List.all_eq_true.1 hs x (List.mem_of_find?_eq_some h)
      simp only [Option.map_some, Option.getD_some]
      rw [if_pos hp]
theorem any_not {s : List Pr} (f : Pr → Bool) : (s.any fun x => !f x) = !(s.all f) := by
  rw [List.not_all_eq_any_not]
set_option maxRecDepth 100000 in
set_option maxHeartbeats 4000000 in
theorem solves_any (A B : Option Addr) (ns : List ByteArray) (us : List Nat) (c d : Nat) (C : Option Addr) (l : List Pr) (cc : Nat) (D : Option Addr) (s : List Pr) (cd : Nat) (w : World) (hE : L.Env w) (hL : L.LatAt w A B c ns us)
    (hP : Prs w C l) (h6 : ∀ p ∈ l, I64 p.1 ∧ I64 p.2) (hl : l.length ≤ 8796093022208) (hS : Prs w D s) (h6s : ∀ p ∈ s, I64 p.1 ∧ I64 p.2) (oks : OkS D s.length cd) (hls : s.length ≤ 8796093022208) :
    Calls Tryd.prog 19 #[.agg #[.slice A ns.length c, .slice B us.length d], .slice C l.length cc, .slice D s.length cd] w fun e w' => e = .returned (.bool (solvesT ns us l s)) ∧ Below w.heap.size w w' := by
  have hb0 := later_alloc w (.cells #[.slice A ns.length c, .slice B us.length d] 25)
  have hx0 := World.alloc_heap_new w (.cells #[.slice A ns.length c, .slice B us.length d] 25)
  obtain ⟨W0, hW0⟩ : ∃ W, w.alloc (.cells #[.slice A ns.length c, .slice B us.length d] 25) = W := ⟨_, rfl⟩
  rw [hW0] at hb0 hx0
  have z1 : W0.heap.size = w.heap.size + 1 := by rw [← hW0, World.size_alloc]
  have b0 := cell_of_row _ _ 0 _ _ _ hx0
  have b1 := cell_of_row _ _ 1 _ _ _ hx0
  replace b0 : W0.cell? ⟨w.heap.size, 0, none⟩ = some (.slice A ns.length c) := b0
  replace b1 : W0.cell? ⟨w.heap.size, 1, none⟩ = some (.slice B us.length d) := b1
  have kb := Lib.hid (fun (W : World) (h : Below W0.heap.size W0 W) => And.intro ((h.cell (p := ⟨w.heap.size, 0, none⟩) (by show w.heap.size < _; omega)).trans b0) ((h.cell (p := ⟨w.heap.size, 1, none⟩) (by show w.heap.size < _; omega)).trans b1))
  have kK := Lib.hid (knownAll_any A B ns us c d C l cc W0 (hE.later hb0) (hL.later hb0) (hP.later hb0) h6 hl)
  have kC := Lib.hid (fun (W : World) (h : Below W0.heap.size W0 W) => contFn_any 48 #[.pointer (some ⟨w.heap.size, 0, none⟩)] (fun x => !pnt ns.length x.2) (fun args w => by go_simp) D s cd W ((hS.later hb0).later h) hls
    (fun W' v p hW' => solC_any w.heap.size A B ns.length us.length c d v p W' (kb.out W' (h.trans (hW'.mono h.size))).1 (kb.out W' (h.trans (hW'.mono h.size))).2))
  have kV := Lib.hid (fun (W : World) (h : Below W0.heap.size W0 W) => values_any A B ns us c d D s cd W ((hE.later hb0).later h) ((hL.later hb0).later h) ((hS.later hb0).later h) h6s oks hls)
  have kL := Lib.hid (fun (W : World) (h : Below W0.heap.size W0 W) (a b : Int) => L.leq_any A B us ns.length c d a b W ((hL.later hb0).later h).words hL.w64 hL.ulen)
  have kP := Lib.hid (fun (W : World) (h : Below W0.heap.size W0 W) => (hP.later hb0).later h)
  have han := any_not (s := s) (fun x => pnt ns.length x.2)
  rw [han] at kC
  clear han
  replace hb0 := Lib.hid hb0
  replace hx0 := Lib.hid hx0
  replace hE := Lib.hid hE
  replace hL := Lib.hid hL
  replace hP := Lib.hid hP
  replace h6 := Lib.hid h6
  replace hS := Lib.hid hS
  replace h6s := Lib.hid h6s
  replace oks := Lib.hid oks
  replace z1 := Lib.hid z1
  obtain ⟨N, hN⟩ : ∃ N, ns.length = N := ⟨_, rfl⟩
  obtain ⟨U, hU⟩ : ∃ U, us.length = U := ⟨_, rfl⟩
  obtain ⟨Q, hQ⟩ : ∃ Q, l.length = Q := ⟨_, rfl⟩
  obtain ⟨X, hX⟩ : ∃ X, s.length = X := ⟨_, rfl⟩
  obtain ⟨R, hR⟩ : ∃ R, solvesT ns us l s = R := ⟨_, rfl⟩
  rw [hN, hU] at kb hW0
  rw [hN, hU, hQ] at kK
  rw [hX] at kC
  rw [hN, hU, hX] at kV
  rw [hN, hU] at kL
  rw [hN] at b0
  rw [hU] at b1
  rw [hN, hU, hQ, hX, hR]
  rw [hQ] at hl
  rw [hX] at hls
  have hNr := Lib.hid hN
  rw [hN] at kC
  replace hN := Lib.hid hN
  replace hU := Lib.hid hU
  replace hQ := Lib.hid hQ
  replace hX := Lib.hid hX
  unfold solvesT at hR
  cases hk : knownT ns us l with
  | false =>
    rw [hk] at kK hR
    have hR2 : Hid (R = false) := by show R = false; rw [← hR]; rfl
    replace hk := Lib.hid hk
    replace hR := Lib.hid hR
    go_enter Tryd.func19, Tryd.ntmps19
    go_wp2_with (go_at_call 15; refine kK.out.mono ?_; rintro e w' ⟨rfl, hb2⟩)
    go_ret
    exact ⟨ret_bool hR2.out.symm, hb0.out.trans (hb2.mono hb0.out.size)⟩
  | true =>
    cases hs : s.all (fun x => pnt ns.length x.2) with
    | false =>
      rw [hk] at kK
      rw [hN.out] at hs
      rw [hs] at kC
      rw [hN.out, hs, Bool.and_false, Bool.false_and] at hR
      have hR2 : Hid (R = false) := hR.symm
      replace hk := Lib.hid hk
      replace hs := Lib.hid hs
      replace hR := Lib.hid hR
      go_enter Tryd.func19, Tryd.ntmps19
      go_wp2_with (first
        | (go_at_call 15; refine kK.out.mono ?_; rintro e w1 ⟨rfl, hb2⟩)
        | (go_at_call 47; refine (kC.out _ hb2).mono ?_; rintro e w2 ⟨rfl, hb3⟩))
      go_ret
      exact ⟨ret_bool hR2.out.symm, (hb0.out.trans (hb2.mono hb0.out.size)).trans (hb3.mono (Nat.le_trans hb0.out.size hb2.size))⟩
    | true =>
      have hcv := Lib.hid (fun (f : Int → Option Int) (hf : ∀ a, f a = (s.find? (fun x => x.1 == a)).map (·.2)) (p : Pr) (hp : p ∈ l) => And.intro (cl_value (us := us) hf hs ((known_parts hk).2 p hp).1) (cl_value (us := us) hf hs ((known_parts hk).2 p hp).2))
      rw [hk] at kK
      rw [hk, hs] at hR
      rw [hN.out] at hs
      rw [hs] at kC
      replace hk := Lib.hid hk
      replace hs := Lib.hid hs
      replace hR := Lib.hid hR
      go_enter Tryd.func19, Tryd.ntmps19
      go_wp2_with (first
        | (go_at_call 15; refine kK.out.mono ?_; rintro e w1 ⟨rfl, hb2⟩)
        | (go_at_call 47; refine (kC.out _ hb2).mono ?_; rintro e w2 ⟨rfl, hb3⟩; have hB3 := Lib.hid (hb2.trans (hb3.mono hb2.size)); obtain ⟨b0, b1⟩ := kb.out _ hB3.out)
        | (go_at_call 49; refine (kV.out _ hB3.out).mono ?_; rintro e w3 ⟨⟨M, T, mb, Nm, f, rfl, m0, m1, m2, hf⟩, hb4⟩))
      have hB4 := Lib.hid (hB3.out.trans (hb4.mono hB3.out.size))
      have hM := World.block_lt_of_cell? w3 _ m0
      have hT := World.block_lt_of_cell? w3 _ m2
      have kcl := Lib.hid (fun (a : Int) (ha : I64 a) (W : World) (h : Below w3.heap.size w3 W) => clos_any M T mb Nm f (L.bottomI ns us) a ha W ((h.cell (p := ⟨M, 0, none⟩) hM).trans m0) (m1.same (h.block mb m1.lt)) ((h.cell (p := ⟨T, 0, none⟩) hT).trans m2))
      have hcf := Lib.hid (hcv.out f hf)
      clear m0 m1 m2 hM hT hf hcv b0 b1 hb2 hb3 hb4 kV kC kK
      go_loopw [24] (fun i W => ∃ k : Nat, k ≤ Q ∧ i = .int .i64 k ∧ Hid ((l.take k).all (holdsT ns us s) = true) ∧ Hid (Below w3.heap.size w3 W)) (fun i _ => Q - (intOf i).toNat)
      case atStart => exact ⟨0, Nat.zero_le _, rfl, rfl, Below.refl _ _⟩
      case round =>
        obtain ⟨k, hk2, rfl, hall, hB⟩ := hrel
        by_cases hlt : k < Q
        · have hkl : k < l.length := by rw [hQ.out]; exact hlt
          have hB5 : Hid (Below W0.heap.size W0 wr) := hB4.out.trans (hB.out.mono hB4.out.size)
          obtain ⟨b, off, rfl, hbk, hc⟩ := (kP.out wr hB5.out) (by intro e; subst e; simp at hkl)
          obtain ⟨c0, c1⟩ := hc k hkl
          clear hc hW0
          have ht := all_take l (0, 0) (holdsT ns us s) k hkl
          have hno := fun h => all_no l (0, 0) (holdsT ns us s) k hkl h
          have hmem : l.getD k (0, 0) ∈ l := by rw [List.getD_eq_getElem?_getD, List.getElem?_eq_getElem hkl]; exact List.getElem_mem _
          have h6k := h6.out _ hmem
          have hv := hcf.out _ hmem
          generalize l.getD k (0, 0) = p at c0 c1 ht hno h6k hv
          obtain ⟨x, y⟩ := p
          dsimp only at c0 c1 h6k hv
          have hxy : Hid (holdsT ns us s (x, y) = L.leqB N us (clT f (L.bottomI ns us) x) (clT f (L.bottomI ns us) y)) := by show _ = _; rw [hv.1, hv.2, ← hN.out]; rfl
          have kxy := Lib.hid (fun (a : Int) (ha : a = x ∨ a = y) (W : World) (h : Below w3.heap.size w3 W) => kcl.out a (by rcases ha with rfl | rfl; exact h6k.1; exact h6k.2) W h)
          generalize clT f (L.bottomI ns us) = g at kxy hxy hv
          obtain ⟨V, hV⟩ : ∃ V, wr.alloc (.cells #[.int .i64 x, .int .i64 y] 58) = V := ⟨_, rfl⟩
          have hxV := World.alloc_heap_new wr (.cells #[.int .i64 x, .int .i64 y] 58)
          have hbV := later_alloc wr (.cells #[.int .i64 x, .int .i64 y] 58)
          rw [hV] at hxV hbV
          have hBV := Lib.hid (hB.out.trans (hbV.mono hB.out.size))
          have hBW := Lib.hid (hB5.out.trans (hbV.mono hB5.out.size))
          have v0 : V.cell? ⟨wr.heap.size, 0, none⟩ = some (.int .i64 x) := cell_of_row _ _ 0 _ _ _ hxV
          have v1 : V.cell? ⟨wr.heap.size, 1, none⟩ = some (.int .i64 y) := cell_of_row _ _ 1 _ _ _ hxV
          obtain ⟨b0, b1⟩ := kb.out V hBW.out
          replace hxV := Lib.hid hxV
          replace hbV := Lib.hid hbV
          replace ht := Lib.hid ht
          replace hno := Lib.hid hno
          replace hv := Lib.hid hv
          obtain ⟨q, hq⟩ : ∃ q, L.leqB N us (g x) (g y) = q := ⟨_, rfl⟩
          have kLx := Lib.hid (fun (W : World) (h : Below W0.heap.size W0 W) => kL.out W h (g x) (g y))
          rw [hq] at kLx hxy
          replace hq := Lib.hid hq
          have hOd : Hid (Below w3.heap.size w3 V.drew) := hBV.out.drew
          have hOw : Hid (Below W0.heap.size W0 V.drew) := hBW.out.drew
          have zV : V.heap.size = wr.heap.size + 1 := by rw [← hV, World.size_alloc]
          have hsW : w.heap.size < V.heap.size := by have h1 := hBW.out.size; have h2 := z1.out; omega
          have hkeep := Lib.hid (fun (W : World) (h : Below V.drew.heap.size V.drew W) => And.intro ((h.cell (p := ⟨w.heap.size, 0, none⟩) hsW).trans b0) (And.intro ((h.cell (p := ⟨w.heap.size, 1, none⟩) hsW).trans b1) (And.intro ((h.cell (p := ⟨wr.heap.size, 0, none⟩) (by show wr.heap.size < V.heap.size; omega)).trans v0) ((h.cell (p := ⟨wr.heap.size, 1, none⟩) (by show wr.heap.size < V.heap.size; omega)).trans v1))))
          replace zV := Lib.hid zV
          replace hsW := Lib.hid hsW
          clear hmem h6k kcl kL
          go_wp2_with fail
          go_region_held3 (fun W => W.cell? ⟨w.heap.size, 0, none⟩ = some (.slice A N c) ∧ W.cell? ⟨w.heap.size, 1, none⟩ = some (.slice B U d) ∧ W.cell? ⟨wr.heap.size, 0, none⟩ = some (.int .i64 x) ∧ W.cell? ⟨wr.heap.size, 1, none⟩ = some (.int .i64 y)) (first | with_reducible exact ⟨b0, b1, v0, v1⟩ | exact hkeep.out _ (Below.refl _ _) | exact hkeep.out _ hb7) (first
            | (go_at_call 72; refine (kxy.out _ (by first | exact .inl rfl | exact .inr rfl) _ hOd.out).mono ?_; rintro e w' ⟨rfl, rfl⟩)
            | (go_at_call 23; refine (kLx.out _ hOw.out).mono ?_; rintro e w7 ⟨rfl, hb7⟩))
          all_goals
            have hB7 : Hid (Below w3.heap.size w3 w7) := hOd.out.trans (hb7.mono hOd.out.size)
            clear hb7
          all_goals
            cases q with
            | true =>
              go_wp2_with fail
              go_roundw
              case rel => exact ⟨k + 1, by omega, by go_num, by show _ = _; rw [ht.out, hall.out, hxy.out]; rfl, hB7.out⟩
              case measure => simp [intOf]; omega
            | false =>
              have hR2 : Hid (R = false) := by
                show R = false
                rw [← hR.out, hno.out hxy.out, Bool.and_false]
              go_wp2_with fail
              go_ret
              exact ⟨ret_bool hR2.out.symm, (hb0.out.trans (hB4.out.mono hb0.out.size)).trans (hB7.out.mono (Nat.le_trans hb0.out.size hB4.out.size))⟩
        · obtain rfl : k = Q := by omega
          have hR2 : Hid (R = true) := by
            show R = true
            rw [← hR.out]
            have h1 := hall.out
            rw [List.take_of_length_le (by rw [hQ.out]; exact Nat.le_refl _)] at h1
            rw [h1]; rfl
          go_wp2_with fail
          go_ret
          exact ⟨ret_bool hR2.out.symm, (hb0.out.trans (hB4.out.mono hb0.out.size)).trans (hB.out.mono (Nat.le_trans hb0.out.size hB4.out.size))⟩
end Go.Proofs.YtlhfdedjboanfaaDoor
