/-
  SolveTop. Condition: the pairs can be read, at most 2^43; the library's table lies as laid.
-/
import Derived.Test.YtlhfdedjboanfaaDoorSvExs
import Derived.Test.YtlhfdedjboanfaaDoorSvLawN
namespace Go.Proofs.YtlhfdedjboanfaaDoor
open Go.RowKit Go.Shelf Go.At Go.Sv
attribute [local go_sem] Oper.semAt_some

set_option maxRecDepth 100000 in
set_option maxHeartbeats 4000000 in
theorem solveTop_any (k0 : Int) (C : Option Addr) (l : List Pr) (cc : Nat) (w : World) (hE : L.Env w) (hk0 : 0 ≤ k0 ∧ k0 < 256) (hP : Prs w C l) (h6 : ∀ p ∈ l, I64 p.1 ∧ I64 p.2) (_ok : OkS C l.length cc) (hl : l.length ≤ 8796093022208) :
    Calls Tryd.prog 6 #[.int .u8 k0, .slice C l.length cc] w fun e w' => e = .returned (.bool true) ∧ Below w.heap.size w w' := by
  obtain ⟨k, rfl⟩ : ∃ k : Nat, k0 = (k : Int) := ⟨k0.toNat, by omega⟩
  have hk : k < 256 := by omega
  clear hk0 _ok
  have kx := Lib.hid (examples_any w hE)
  have kla := Lib.hid (fun W => lats_any W)
  have hq : k % 6 < 6 := Nat.mod_lt _ (by omega)
  obtain ⟨q, hqk⟩ : ∃ q, k % 6 = q := ⟨_, rfl⟩
  rw [hqk] at hq
  have hqi : ((k : Nat) : Int) % 6 = ((q : Nat) : Int) := by omega

  replace h6 := Lib.hid h6
  go_enter Tryd.func6, Tryd.ntmps6
  go_wp2_with (first
    | (go_at_call 9; refine kx.out.mono ?_; rintro e w1 ⟨rfl, hb1⟩; replace hb1 := Lib.hid hb1)
    | (go_at_call 21; refine (kla.out _).mono ?_; rintro e w2 ⟨⟨g, rfl, hg⟩, hb2⟩; obtain ⟨A, B, ha, hb, hL⟩ := hg q hq; replace hL := Lib.hid hL; replace hb2 := Lib.hid hb2; clear hg))
  obtain ⟨hn0, hn1⟩ := len_at hq
  have hu := hL.out.ulen
  have hnu : (nsL q).length = (usL q).length := by
    rcases (show q = 0 ∨ q = 1 ∨ q = 2 ∨ q = 3 ∨ q = 4 ∨ q = 5 by omega) with rfl | rfl | rfl | rfl | rfl | rfl <;> rfl
  have hbx := later_alloc w2 (.cells #[.slice A (nsL q).length (nsL q).length, .slice B (usL q).length (usL q).length] 25)
  have hx0 := World.alloc_heap_new w2 (.cells #[.slice A (nsL q).length (nsL q).length, .slice B (usL q).length (usL q).length] 25)
  have z1 : (w2.alloc (.cells #[.slice A (nsL q).length (nsL q).length, .slice B (usL q).length (usL q).length] 25)).heap.size = w2.heap.size + 1 := World.size_alloc ..
  obtain ⟨W0, hW0⟩ : ∃ W, w2.alloc (.cells #[.slice A (nsL q).length (nsL q).length, .slice B (usL q).length (usL q).length] 25) = W := ⟨_, rfl⟩
  rw [hW0]
  rw [hW0] at hbx hx0 z1
  have hB2 := hb1.out.trans (hb2.out.mono hb1.out.size)
  have hB0 := Lib.hid (hB2.trans (hbx.mono hB2.size))
  have own := Lib.hid (fun (W : World) (h : Below W0.heap.size W0 W) => (Own.mk (hE.later (hB0.out.trans (h.mono hB0.out.size))) ((hL.out.later hbx).later h) : Own W q A B))
  have hP0 := Lib.hid (hP.later hB0.out)
  have b0 : W0.cell? ⟨w2.heap.size, 0, none⟩ = some (.slice A (nsL q).length (nsL q).length) := cell_of_row _ _ 0 _ _ _ hx0
  have b1 : W0.cell? ⟨w2.heap.size, 1, none⟩ = some (.slice B (usL q).length (usL q).length) := cell_of_row _ _ 1 _ _ _ hx0
  have kb := Lib.hid (fun (W : World) (h : Below W0.heap.size W0 W) => And.intro ((h.cell (p := ⟨w2.heap.size, 0, none⟩) (by show w2.heap.size < _; omega)).trans b0) ((h.cell (p := ⟨w2.heap.size, 1, none⟩) (by show w2.heap.size < _; omega)).trans b1))
  have kpt := points_any A B (nsL q).length (usL q).length (nsL q).length (usL q).length hn0 hn1 C l cc W0 hP0.out h6.out hl
  obtain ⟨c, hc⟩ : ∃ c, ptsL (nsL q).length l = c := ⟨_, rfl⟩
  have hc6 := ptsL_i64 hn0 hn1 l
  have hck := pts_known hn0 l
  have hcl := ptsL_len (nsL q).length l
  rw [hc] at kpt hc6 hck hcl
  have hkc : knownT (nsL q) (usL q) c = true := by
    unfold knownT
    rw [right_at hq, Bool.true_and, List.all_eq_true]
    intro p hp
    rw [(hck p hp).1, (hck p hp).2]; rfl
  obtain ⟨J, M, zz, tt, hT⟩ := L.told_of (w64_at hq) (right_at hq)
  have ht := told_t hT
  have htop := hT.top
  have kle := Lib.hid (fun (W : World) (h : Below W0.heap.size W0 W) (D : Option Addr) (cd : Nat) (hD : Prs W D (topsL (tt : Int) c)) => least_any A B (nsL q) (usL q) (nsL q).length (usL q).length D (topsL (tt : Int) c) cd W (own.out W h).env (own.out W h).lat hD)
  have khi := Lib.hid (fun (W : World) (h : Below W0.heap.size W0 W) => hi_any A B (nsL q) (usL q) (nsL q).length (usL q).length W (own.out W h).env (own.out W h).lat (by rw [htop]; exact ⟨by omega, by omega⟩))
  have kto := Lib.hid (fun (W : World) (h : Below W0.heap.size W0 W) => L.top_any A B (nsL q) (usL q) (nsL q).length (usL q).length W (own.out W h).env (own.out W h).lat)
  rw [htop] at khi kto
  have kis := Lib.hid (fun (a : Int) (W : World) => (isPoint_any a W).mono fun e w' h => (And.intro h.1 h.2.symm : _ ∧ W = w'))
  obtain ⟨i0, hi, hi2⟩ := Option.map_eq_some_iff.1 infoPq
  obtain ⟨hz0, hz1, hz2⟩ : i0.zero = some (.agg #[.int .i64 0, .int .i64 0]) ∧ i0.size = 2 ∧ i0.bytes = 16 := by
    injection hi2 with h1 h2; injection h2 with h2 h3; exact ⟨h1, h2, h3⟩
  clear hi2
  replace hi := Lib.hid hi
  replace hz0 := Lib.hid hz0
  replace hz1 := Lib.hid hz1
  replace hz2 := Lib.hid hz2
  replace kpt := Lib.hid kpt
  replace hnu := Lib.hid hnu
  go_wp2_with fail
  refine kpt.out.mono ?_
  rintro e w3 ⟨⟨D, cd, rfl, hD, okD⟩, hb3⟩
  clear kpt hx0 hW0 hP hP0 ha hb b0 b1 kx kla
  have hb3' := Lib.hid hb3
  replace hD := Lib.hid hD
  clear hb3
  replace z1 := Lib.hid z1
  replace hbx := Lib.hid hbx
  obtain ⟨K, hK⟩ : ∃ K, c.length = K := ⟨_, rfl⟩
  rw [hK] at hcl ⊢
  replace hK := Lib.hid hK
  replace hc := Lib.hid hc
  replace hT := Lib.hid hT
  replace htop := Lib.hid htop
  go_wp2_with fail
  go_loopw [7, 27] (fun v i W => ∃ k : Nat, k ≤ K ∧ i = .int .i64 k ∧ Hid (W.ownsRow w3.heap.size 58 2 v k (cellsP (topsL (tt : Int) (c.take k)))) ∧ Hid (Below w3.heap.size w3 W)) (fun _ i _ => K - (intOf i).toNat)
  case atStart => exact ⟨0, Nat.zero_le _, rfl, ⟨rfl, .inl ⟨rfl, rfl⟩⟩, Below.refl _ _⟩
  case round =>
    obtain ⟨k, hk, rfl, hown, hB⟩ := hrel
    by_cases hlt : k < K
    · have hkl : k < c.length := by rw [hK.out]; exact hlt
      have hji : ((k : Nat) : Int) < ((K : Nat) : Int) := by omega
      have hjd : decide (((k : Nat) : Int) < ((K : Nat) : Int)) = true := decide_eq_true hji
      obtain ⟨b, off, rfl, hbk, hcc⟩ := (hD.out.later hB.out) (by intro e; subst e; simp at hkl)
      obtain ⟨c0, c1⟩ := hcc k hkl
      clear hcc
      have htk : Hid (cellsP (topsL (tt : Int) (c.take (k + 1))) = cellsP (topsL (tt : Int) (c.take k)) ++ cellsP [topP (tt : Int) (c.getD k (0, 0))]) := by
        show _ = _
        rw [take_snoc c (0, 0) k hkl]
        unfold topsL
        rw [List.map_append, cellsP_append]; rfl
      generalize c.getD k (0, 0) = p at c0 c1 htk
      obtain ⟨x, y⟩ := p
      dsimp only at c0 c1
      have hWa : Hid (Below w3.heap.size w3 (wr.alloc (.cells #[.int .i64 x, .int .i64 y] 58))) := below_al hB.out _
      obtain ⟨q0, q1⟩ := kb.out _ (below_on hb3'.out hWa.out)
      have hga : Hid ((wr.alloc (.cells #[.int .i64 x, .int .i64 y] 58)).heap[wr.heap.size]? = some (.cells #[.int .i64 x, .int .i64 y] 58 (0, 0))) := World.alloc_heap_new wr _
      by_cases hy : y < 0
      · have hyp : isP y = true := decide_eq_true hy
        have htk2 : Hid (cellsP (topsL (tt : Int) (c.take (k + 1))) = cellsP (topsL (tt : Int) (c.take k)) ++ [.int .i64 x, .int .i64 (pointT (tt : Int))]) := by
          show _ = _
          rw [htk.out, show topP (tt : Int) (x, y) = (x, pointT (tt : Int)) from Prod.ext rfl (if_pos hy)]; rfl
        have kiy := Lib.hid (fun W => kis.out y W)
        rw [hyp] at kiy
        go_wp2_with (first
          | (go_at_call 24; refine (kiy.out _).mono ?_; rintro e w' ⟨rfl, rfl⟩)
          | (go_at_call 25; refine (khi.out _ (below_on hb3'.out hWa.out)).mono ?_; rintro e w9 ⟨rfl, hb9⟩
             have hg9 := Lib.hid (get_below hga.out hb9)
             have f0 : w9.cell? ⟨wr.heap.size, 0, none⟩ = some (.int .i64 x) := cell_of_row _ _ 0 _ _ _ hg9.out
             have f1 : w9.cell? ⟨wr.heap.size, 1, none⟩ = some (.int .i64 y) := cell_of_row _ _ 1 _ _ _ hg9.out
             have f2 : w9.frozen? ⟨wr.heap.size, 1, none⟩ = false := frozen_of_row w9 wr.heap.size 1 _ _ hg9.out
             obtain ⟨Wc, hWc⟩ : ∃ W, w9.setCell ⟨wr.heap.size, 1, none⟩ (.int .i64 (pointT (tt : Int))) = W := ⟨_, rfl⟩
             have hgc : Hid (Wc.heap[wr.heap.size]? = some (.cells #[.int .i64 x, .int .i64 (pointT (tt : Int))] 58 (0, 0))) := by
               show _ = _
               rw [← hWc]; exact heap_setCell_same w9 wr.heap.size 1 _ _ _ hg9.out
             have r0 : Wc.cell? ⟨wr.heap.size, 0, none⟩ = some (.int .i64 x) := cell_of_row _ _ 0 _ _ _ hgc.out
             have r1 : Wc.cell? ⟨wr.heap.size, 1, none⟩ = some (.int .i64 (pointT (tt : Int))) := cell_of_row _ _ 1 _ _ _ hgc.out
             have hBc : Hid (Below wr.heap.size wr Wc) := by
               show Below _ _ _
               rw [← hWc]
               exact (below_on (later_alloc wr _) hb9).setCell (p := ⟨wr.heap.size, 1, none⟩) (Nat.le_refl _) _
             have hbA : Hid (Below w3.heap.size w3 (Wc.alloc (.cells #[.int .i64 x, .int .i64 (pointT (tt : Int))] 58))) := below_al (below_on hB.out hBc.out) _
             have ho9 := Lib.hid (own_later (own_later hown.out hBc.out) (later_alloc Wc (.cells #[.int .i64 x, .int .i64 (pointT (tt : Int))] 58)))
             have hcc0 : Hid ((Wc.alloc (.cells #[.int .i64 x, .int .i64 (pointT (tt : Int))] 58)).cell? ⟨Wc.heap.size, 0, none⟩ = some (.int .i64 x)) := cell_of_row _ _ 0 _ _ _ (World.alloc_heap_new Wc _)
             have hcc1 : Hid ((Wc.alloc (.cells #[.int .i64 x, .int .i64 (pointT (tt : Int))] 58)).cell? ⟨Wc.heap.size, 1, none⟩ = some (.int .i64 (pointT (tt : Int)))) := cell_of_row _ _ 1 _ _ _ (World.alloc_heap_new Wc _)
             clear hb9)
          | (at_builtin; refine wpList_append_own _ rfl _ _ 26 rfl w3.heap.size 58 i0 (.agg #[.int .i64 0, .int .i64 0]) 2 16 Tryd.underlying26 hi.out hz0.out hz1.out hz2.out rfl (by decide) _ _ _ rfl ho9.out ⟨Wc.heap.size, 0, none⟩ 1 1 [.int .i64 x, .int .i64 (pointT (tt : Int))] rfl rfl ?c1 ?c2 ?c3 ?c4 ?c5 ?_))
        case c1 =>
          intro j u hj
          match j, hj with
          | 0, hj => cases hj; exact hcc0.out
          | 1, hj => cases hj; exact hcc1.out
          | j + 2, hj => simp at hj
        case c2 =>
          intro u hu
          simp at hu
          rcases hu with rfl | rfl <;> rfl
        case c3 => unfold maxLen; omega
        case c4 => omega
        case c5 => exact hbA.out.size
        · intro v2 w8 ho2 hg2 _
          have ho3 : Hid (w8.ownsRow w3.heap.size 58 2 v2 (k + 1) (cellsP (topsL (tt : Int) (c.take (k + 1))))) := by
            show w8.ownsRow _ _ _ _ _ _
            rw [htk2.out]
            exact ho2
          have hb8 : Hid (Below w3.heap.size w3 w8) := hbA.out.grown hg2 hbA.out.size (own_block ho9.out)
          clear ho2 hg2
          go_wp2_with fail
          go_roundw
          case rel => exact ⟨k + 1, by omega, by go_num, ho3.out, hb8.out⟩
          case measure => simp [intOf]; omega
      · have hyp : isP y = false := decide_eq_false hy
        have htk2 : Hid (cellsP (topsL (tt : Int) (c.take (k + 1))) = cellsP (topsL (tt : Int) (c.take k)) ++ [.int .i64 x, .int .i64 y]) := by
          show _ = _
          rw [htk.out, show topP (tt : Int) (x, y) = (x, y) from Prod.ext rfl (if_neg hy)]; rfl
        have kiy := Lib.hid (fun W => kis.out y W)
        rw [hyp] at kiy
        have f0 : (wr.alloc (.cells #[.int .i64 x, .int .i64 y] 58)).cell? ⟨wr.heap.size, 0, none⟩ = some (.int .i64 x) := cell_of_row _ _ 0 _ _ _ hga.out
        have f1 : (wr.alloc (.cells #[.int .i64 x, .int .i64 y] 58)).cell? ⟨wr.heap.size, 1, none⟩ = some (.int .i64 y) := cell_of_row _ _ 1 _ _ _ hga.out
        have zz1 : Hid ((wr.alloc (.cells #[.int .i64 x, .int .i64 y] 58)).heap.size = wr.heap.size + 1) := World.size_alloc ..
        obtain ⟨Wc, hWc⟩ : ∃ W, wr.alloc (.cells #[.int .i64 x, .int .i64 y] 58) = W := ⟨_, rfl⟩
        have hBc : Hid (Below wr.heap.size wr Wc) := by
          show Below _ _ _
          rw [← hWc]; exact later_alloc wr _
        rw [hWc] at f0 f1 q0 q1 hga hWa
        clear zz1
        have hbA : Hid (Below w3.heap.size w3 (Wc.alloc (.cells #[.int .i64 x, .int .i64 y] 58))) := below_al (below_on hB.out hBc.out) _
        have ho9 := Lib.hid (own_later (own_later hown.out hBc.out) (later_alloc Wc (.cells #[.int .i64 x, .int .i64 y] 58)))
        have hcc0 : Hid ((Wc.alloc (.cells #[.int .i64 x, .int .i64 y] 58)).cell? ⟨Wc.heap.size, 0, none⟩ = some (.int .i64 x)) := cell_of_row _ _ 0 _ _ _ (World.alloc_heap_new Wc _)
        have hcc1 : Hid ((Wc.alloc (.cells #[.int .i64 x, .int .i64 y] 58)).cell? ⟨Wc.heap.size, 1, none⟩ = some (.int .i64 y)) := cell_of_row _ _ 1 _ _ _ (World.alloc_heap_new Wc _)
        go_wp2_with (first
          | (go_at_call 24; refine (kiy.out _).mono ?_; rintro e w' ⟨rfl, rfl⟩)
          | (at_builtin; refine wpList_append_own _ rfl _ _ 26 rfl w3.heap.size 58 i0 (.agg #[.int .i64 0, .int .i64 0]) 2 16 Tryd.underlying26 hi.out hz0.out hz1.out hz2.out rfl (by decide) _ _ _ rfl ho9.out ⟨Wc.heap.size, 0, none⟩ 1 1 [.int .i64 x, .int .i64 y] rfl rfl ?c1 ?c2 ?c3 ?c4 ?c5 ?_))
        case c1 =>
          intro j u hj
          match j, hj with
          | 0, hj => cases hj; exact hcc0.out
          | 1, hj => cases hj; exact hcc1.out
          | j + 2, hj => simp at hj
        case c2 =>
          intro u hu
          simp at hu
          rcases hu with rfl | rfl <;> rfl
        case c3 => unfold maxLen; omega
        case c4 => omega
        case c5 => exact hbA.out.size
        · intro v2 w8 ho2 hg2 _
          have ho3 : Hid (w8.ownsRow w3.heap.size 58 2 v2 (k + 1) (cellsP (topsL (tt : Int) (c.take (k + 1))))) := by
            show w8.ownsRow _ _ _ _ _ _
            rw [htk2.out]
            exact ho2
          have hb8 : Hid (Below w3.heap.size w3 w8) := hbA.out.grown hg2 hbA.out.size (own_block ho9.out)
          clear ho2 hg2
          go_wp2_with fail
          go_roundw
          case rel => exact ⟨k + 1, by omega, by go_num, ho3.out, hb8.out⟩
          case measure => simp [intOf]; omega
    · obtain rfl : k = K := by omega
      have hct : c.take k = c := List.take_of_length_le (by rw [hK.out]; exact Nat.le_refl _)
      have hown9 := hown.out
      rw [hct] at hown9
      have hdk : (topsL (tt : Int) c).length = k := by unfold topsL; rw [List.length_map]; exact hK.out
      have hd6 : ∀ p ∈ topsL (tt : Int) c, I64 p.1 ∧ I64 p.2 := fun p hp => by
        obtain ⟨y, hy, rfl⟩ := List.mem_map.1 hp
        refine ⟨(hc6 y hy).1, ?_⟩
        show I64 (if y.2 < 0 then pointT (tt : Int) else y.2)
        by_cases h0 : y.2 < 0
        · rw [if_pos h0, show pointT ((tt : Nat) : Int) = -1 - ((tt : Nat) : Int) from if_neg (by omega)]
          exact ⟨by omega, by omega⟩
        · rw [if_neg h0]; exact (hc6 y hy).2
      have hlt : Hid (∀ r ok, LeastT (nsL q) (usL q) (topsL (tt : Int) c) r ok → ok = true) := fun r ok h => least_top hT.out (right_at hq) hck h
      have hst : Hid (solvesT (nsL q) (usL q) (topsL (tt : Int) c) (solL (topsL (tt : Int) c) fun _ => tt) = true) := top_solves hT.out (right_at hq) hck
      obtain ⟨dl, hdl⟩ : ∃ dl, topsL (tt : Int) c = dl := ⟨_, rfl⟩
      rw [hdl] at hown9 hdk hd6 hlt hst kle
      rw [← hdk] at hown9
      have hown8 := hown9
      obtain ⟨A5, c5, e5, hPd, -⟩ := prs_own hown9
      rw [hdk] at e5
      subst e5
      have kva := vars_any A5 dl c5 wr hPd hd6 (by omega)
      have hn9 : (varsL dl).length ≤ 60 := by
        have h1 := ord_len (lt := ltI) ((atomsL dl).flatMap pickV)
        have h2 := pick_len pickV_len (atomsL dl)
        rw [atoms_len] at h2
        unfold varsL
        omega
      have hv6 : Hid (∀ m, m < (varsL dl).length → I64 ((varsL dl).getD m 0)) := fun m hm => vars_i64 hd6 hm
      obtain ⟨s, hs⟩ : ∃ s, solL dl (fun _ => tt) = s := ⟨_, rfl⟩
      have hsl : s.length = (varsL dl).length := by rw [← hs, sol_len]
      have hsg : Hid (∀ m, m < (varsL dl).length → s.getD m (0, 0) = ((varsL dl).getD m 0, (tt : Int))) := fun m hm => by rw [← hs]; exact sol_get dl _ hm
      have hs6 : Hid (∀ p ∈ s, I64 p.1 ∧ I64 p.2) := by
        show ∀ p ∈ s, _
        rw [← hs]
        exact sol_i64 hd6 fun _ _ => by omega
      rw [hs] at hst
      obtain ⟨n, hn⟩ : ∃ n, (varsL dl).length = n := ⟨_, rfl⟩
      rw [hn] at hn9 hsl hsg kva hv6
      rw [hdk] at kva
      have kso := Lib.hid (fun (W : World) (h : Below W0.heap.size W0 W) (D1 : Option Addr) (c1 : Nat) (h1 : Prs W D1 dl) (D2 : Option Addr) (c2 : Nat) (h2 : Prs W D2 s) (ok2 : OkS D2 s.length c2) => solves_any A B (nsL q) (usL q) (nsL q).length (usL q).length D1 dl c1 D2 s c2 W (own.out W h).env (own.out W h).lat h1 hd6 (by omega) h2 hs6.out ok2 (by omega))
      have kle2 := Lib.hid (fun (W : World) (h : Below W0.heap.size W0 W) (D1 : Option Addr) (c1 : Nat) (h1 : Prs W D1 dl) => kle.out W h D1 c1 h1 hd6 (by omega))
      rw [hst.out] at kso
      rw [hdk, hsl] at kso
      rw [hdk] at kle2
      replace kva := Lib.hid kva
      replace hPd := Lib.hid hPd
      replace hsl := Lib.hid hsl
      replace hn := Lib.hid hn
      replace hdk := Lib.hid hdk
      replace hs := Lib.hid hs
      replace hdl := Lib.hid hdl
      clear hown hown9 hown8 hct
      go_wp2_with fail
      refine kva.out.mono ?_
      rintro e w6 ⟨⟨V, cv, rfl, hV, okV⟩, hb6⟩
      have hPd6 := Lib.hid (hPd.out.later hb6)
      have hB6 := Lib.hid (below_on hb3'.out (below_on hB.out hb6))
      replace hV := Lib.hid hV
      clear kva hPd hb6
      obtain ⟨j0, hj, hj2⟩ := Option.map_eq_some_iff.1 info_sol
      obtain ⟨hy0, hy1, hy2⟩ : j0.zero = some (.agg #[.int .i64 0, .int .i64 0]) ∧ j0.size = 2 ∧ j0.bytes = 16 := by
        injection hj2 with h1 h2; injection h2 with h2 h3; exact ⟨h1, h2, h3⟩
      clear hj2
      replace hj := Lib.hid hj
      replace hy0 := Lib.hid hy0
      replace hy1 := Lib.hid hy1
      replace hy2 := Lib.hid hy2
      go_wp2_with fail
      go_loopw [8, 45] (fun v i W => ∃ m : Nat, m ≤ n ∧ i = .int .i64 m ∧ Hid (W.ownsRow w6.heap.size 54 2 v m (cellsP (s.take m))) ∧ Hid (Below w6.heap.size w6 W)) (fun _ i _ => n - (intOf i).toNat)
      case atStart => exact ⟨0, Nat.zero_le _, rfl, ⟨rfl, .inl ⟨rfl, rfl⟩⟩, Below.refl _ _⟩
      case round =>
        clear hB
        obtain ⟨m, hm, rfl, hown, hB⟩ := hrel
        by_cases hlt2 : m < n
        · have hmv : m < (varsL dl).length := by rw [hn.out]; exact hlt2
          have hms : m < s.length := by rw [hsl.out]; exact hlt2
          have hji : ((m : Nat) : Int) < ((n : Nat) : Int) := by omega
          have hjd : decide (((m : Nat) : Int) < ((n : Nat) : Int)) = true := decide_eq_true hji
          obtain ⟨b, off, rfl, hbk, hcc⟩ := (hV.out.later hB.out) (by intro e; rw [e] at hmv; simp at hmv)
          have c0 := hcc m hmv
          clear hcc
          have htk2 : Hid (cellsP (s.take (m + 1)) = cellsP (s.take m) ++ [.int .i64 ((varsL dl).getD m 0), .int .i64 (tt : Int)]) := by
            show _ = _
            rw [take_snoc s (0, 0) m hms, cellsP_append, hsg.out m hlt2]; rfl
          generalize (varsL dl).getD m 0 = v at c0 htk2
          obtain ⟨b0, b1⟩ := kb.out _ (below_on hB6.out hB.out)
          go_wp2_with (first
            | (go_at_call 27; refine (kto.out _ (below_on hB6.out hB.out)).mono ?_; rintro e w9 ⟨rfl, hb9⟩
               have hbA : Hid (Below w6.heap.size w6 (w9.alloc (.cells #[.int .i64 v, .int .i64 (tt : Int)] 54))) := below_al (below_on hB.out hb9) _
               have ho9 := Lib.hid (own_later (own_later hown.out hb9) (later_alloc w9 (.cells #[.int .i64 v, .int .i64 (tt : Int)] 54)))
               have hcc0 : Hid ((w9.alloc (.cells #[.int .i64 v, .int .i64 (tt : Int)] 54)).cell? ⟨w9.heap.size, 0, none⟩ = some (.int .i64 v)) := cell_of_row _ _ 0 _ _ _ (World.alloc_heap_new w9 _)
               have hcc1 : Hid ((w9.alloc (.cells #[.int .i64 v, .int .i64 (tt : Int)] 54)).cell? ⟨w9.heap.size, 1, none⟩ = some (.int .i64 (tt : Int))) := cell_of_row _ _ 1 _ _ _ (World.alloc_heap_new w9 _)
               clear hb9)
            | (at_builtin; refine wpList_append_own _ rfl _ _ 27 rfl w6.heap.size 54 j0 (.agg #[.int .i64 0, .int .i64 0]) 2 16 Tryd.underlying27 hj.out hy0.out hy1.out hy2.out rfl (by decide) _ _ _ rfl ho9.out ⟨w9.heap.size, 0, none⟩ 1 1 [.int .i64 v, .int .i64 (tt : Int)] rfl rfl ?c1 ?c2 ?c3 ?c4 ?c5 ?_))
          case c1 =>
            intro j u hj
            match j, hj with
            | 0, hj => cases hj; exact hcc0.out
            | 1, hj => cases hj; exact hcc1.out
            | j + 2, hj => simp at hj
          case c2 =>
            intro u hu
            simp at hu
            rcases hu with rfl | rfl <;> rfl
          case c3 => unfold maxLen; omega
          case c4 => omega
          case c5 => exact hbA.out.size
          · intro v2 w8 ho2 hg2 _
            have ho3 : Hid (w8.ownsRow w6.heap.size 54 2 v2 (m + 1) (cellsP (s.take (m + 1)))) := by
              show w8.ownsRow _ _ _ _ _ _
              rw [htk2.out]
              exact ho2
            have hb8 : Hid (Below w6.heap.size w6 w8) := hbA.out.grown hg2 hbA.out.size (own_block ho9.out)
            clear ho2 hg2
            go_wp2_with fail
            go_roundw
            case rel => exact ⟨m + 1, by omega, by go_num, ho3.out, hb8.out⟩
            case measure => simp [intOf]; omega
        · obtain rfl : m = n := by omega
          have ho := hown.out
          rw [List.take_of_length_le (by rw [hsl.out]; exact Nat.le_refl _), ← hsl.out] at ho
          have ho2 := ho
          obtain ⟨A7, c7, e7, hPs, -⟩ := prs_own ho
          rw [hsl.out] at e7
          subst e7
          have hok7 := own_ok ho2
          rw [hsl.out] at hok7
          have hP7 := Lib.hid hPs
          have hO7 := Lib.hid (below_on hB6.out hB.out)
          have hPd7 := Lib.hid (hPd6.out.later hB.out)
          obtain ⟨b0, b1⟩ := kb.out _ hO7.out
          clear hown ho ho2 hPs
          go_wp2_with fail
          refine (kle2.out wr hO7.out A5 c5 hPd7.out).mono ?_
          rintro e w8 ⟨⟨R, cr, r, ok, rfl, hR, okR, hr6, hLT⟩, hb8⟩
          obtain rfl := hlt.out r ok hLT
          have hO8 := Lib.hid (below_on hO7.out hb8)
          have hP8 := Lib.hid (hP7.out.later hb8)
          have hPd8 := Lib.hid (hPd7.out.later hb8)
          obtain ⟨b0, b1⟩ := kb.out _ hO8.out
          clear hb8 hR hr6 hLT
          go_wp2_with fail
          refine (kso.out w8 hO8.out A5 c5 hPd8.out A7 c7 hP8.out hok7).mono ?_
          rintro e wz ⟨rfl, hbz⟩
          go_wp2_with fail
          go_ret
          exact ⟨rfl, below_on hB0.out (below_on hO8.out hbz)⟩
end Go.Proofs.YtlhfdedjboanfaaDoor
