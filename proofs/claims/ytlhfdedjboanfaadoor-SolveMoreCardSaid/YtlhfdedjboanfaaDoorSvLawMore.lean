/-
  SolveMore. Condition: the pairs can be read, at most 2^43; the library's table lies as laid.
-/
import Derived.Test.YtlhfdedjboanfaaDoorSvExs
import Derived.Test.YtlhfdedjboanfaaDoorSvLawN
namespace Go.Proofs.YtlhfdedjboanfaaDoor
open Go.RowKit Go.Shelf Go.At Go.Sv
attribute [local go_sem] Oper.semAt_some

/-- the cells of pairs in a row -/
theorem prs_cells {W : World} {ad : Addr} {l : List Pr} (h : Prs W (some ad) l) (j : Nat) (u : Value) (hj : (cellsP l)[j]? = some u) : W.cell? (ad.add j) = some u := by
  have hlj : j < l.length * 2 := by rw [← cellsP_len]; exact (List.getElem?_eq_some_iff.1 hj).1
  obtain ⟨b', off', e, hb', hrow⟩ := h (by intro e; subst e; simp at hlj)
  obtain rfl := Option.some.inj e
  obtain ⟨x0, x1⟩ := hrow (j / 2) (by omega)
  obtain ⟨y0, y1⟩ := cellsP_get l (j / 2) (by omega)
  rw [Addr.add_lit]
  rcases (show j % 2 = 0 ∨ j % 2 = 1 by omega) with h | h
  · rw [show j / 2 * 2 = j by omega] at x0 y0
    rw [y0] at hj
    rw [x0, hj]
  · rw [show j / 2 * 2 + 1 = j by omega] at y1
    rw [show off' + j / 2 * 2 + 1 = off' + j by omega] at x1
    rw [y1] at hj
    rw [x1, hj]
/-- an append of pairs to nothing, at a step of a region that draws its order -/
theorem step_append_prs {P : Program} {ops : Array Oper} {o : Oper} {a : Act} {w : World} {K : Act → World → Prop} {Q : Exit → Act → World → Prop} {E : Prop}
    (hg : o.guard = none) (x : Operand) (t : TypeId) (hop : o.op = Op.call { callee := Callee.builtin Builtin.append, args := #[.const (.slice none 0 0), x], argTypes := #[t, t] })
    (base : Nat) (e : TypeId) (i : TypeInfo) (z : Value) (bytes : Nat) (h1 : P.underlying t = some (.slice e)) (h2 : P.info? e = some i) (h3 : i.zero = some z) (h4 : i.size = 2) (h5 : i.bytes = bytes) (h6 : z.cells.size = 2)
    (D : Option Addr) (l : List Pr) (n cd : Nat) (hn : l.length = n) (hx : a.eval x = .slice D n cd) (hP : Prs w D l) (hok : OkS D n cd)
    (b1 : n ≤ maxLen) (b2 : n * bytes ≤ 140737488355328) (hbase : base ≤ w.heap.size)
    (hK : ∀ v' w', w'.ownsRow base e 2 v' n (cellsP l) → Below w.heap.size w w' → K (a.put o.dst v') w') :
    if Region.wanted o (yielded ops a.tmps) = true then Oper.wp P o a w K Q else E := by
  subst hn
  have hnil : w.ownsRow base e 2 (.slice none 0 0) 0 [] := ⟨rfl, .inl ⟨rfl, rfl⟩⟩
  cases D with
  | none =>
    have hl : l = [] := by
      cases l with
      | nil => rfl
      | cons p r => obtain ⟨_, _, e, _⟩ := hP (by simp); cases e
    subst hl
    obtain rfl := hok.2.2 rfl
    have hw : Region.wanted o (yielded ops a.tmps) = true := by simp [Region.wanted, hg]
    rw [if_pos hw]
    have hrun := run_append_owned_none (P := P) w base t o.type e i 2 h1 h2 _ 0 [] hnil
    have hs : a.eval (.const (.slice none 0 0)) = .slice none 0 0 := by simp [Act.eval]
    unfold Oper.wp
    simp [execOp, hop, resolve, invoke, builtin, hs, hx, hrun, Result.andThen]
    exact hK _ _ hnil (Below.refl _ _)
  | some ad =>
    refine step_append_hat hg (.const (.slice none 0 0)) x t hop base e i z 2 bytes h1 h2 h3 h4 h5 h6 (by decide) _ 0 [] (by simp [Act.eval]) hnil ad l.length cd (cellsP l) hx (by rw [cellsP_len]) (prs_cells hP) (cells_one l) (by omega) (by rw [Nat.zero_add]; exact b2) hbase ?_
    intro v' w' hown hgrow _
    refine hK v' w' ?_ ((Below.refl w.heap.size w).grown hgrow (Nat.le_refl _) (fun k hk => by cases hk))
    rw [Nat.zero_add, List.nil_append] at hown
    exact hown

theorem least_len {ns : List ByteArray} {us : List Nat} {c r : List Pr} (h : LeastT ns us c r true) : r.length ≤ c.length * 2 := by
  have h1 := ord_len (lt := ltI) ((atomsL c).flatMap pickV)
  have h2 := pick_len pickV_len (atomsL c)
  rw [atoms_len] at h2
  have h3 : (r.map (·.1)).length = (varsL c).length := by rw [(h.yes rfl).1]
  rw [List.length_map] at h3
  unfold varsL at h3
  omega
set_option maxRecDepth 100000 in
set_option maxHeartbeats 4000000 in
theorem solveMore_any (k0 : Int) (C : Option Addr) (l : List Pr) (cc : Nat) (x y : Int) (w : World) (hE : L.Env w) (hk0 : 0 ≤ k0 ∧ k0 < 256) (hP : Prs w C l) (h6 : ∀ p ∈ l, I64 p.1 ∧ I64 p.2) (_ok : OkS C l.length cc) (hl : l.length ≤ 8796093022208) (hxy : I64 x ∧ I64 y) :
    Calls Tryd.prog 5 #[.int .u8 k0, .slice C l.length cc, .agg #[.int .i64 x, .int .i64 y]] w fun e w' => e = .returned (.bool true) ∧ Below w.heap.size w w' := by
  obtain ⟨Wp, hWp⟩ : ∃ W, w.alloc (.cells #[.int .i64 x, .int .i64 y] 58) = W := ⟨_, rfl⟩
  have hbp := later_alloc w (.cells #[.int .i64 x, .int .i64 y] 58)
  have hxp := World.alloc_heap_new w (.cells #[.int .i64 x, .int .i64 y] 58)
  have zp : Wp.heap.size = w.heap.size + 1 := by rw [← hWp, World.size_alloc]
  rw [hWp] at hbp hxp
  have q0 : Wp.cell? ⟨w.heap.size, 0, none⟩ = some (.int .i64 x) := cell_of_row _ _ 0 _ _ _ hxp
  have q1 : Wp.cell? ⟨w.heap.size, 1, none⟩ = some (.int .i64 y) := cell_of_row _ _ 1 _ _ _ hxp
  have hEp := hE.later hbp
  have hPp := hP.later hbp
  obtain ⟨k, rfl⟩ : ∃ k : Nat, k0 = (k : Int) := ⟨k0.toNat, by omega⟩
  have hk : k < 256 := by omega
  clear hk0 _ok
  have kx := Lib.hid (examples_any Wp hEp)
  have kla := Lib.hid (fun W => lats_any W)
  have hq : k % 6 < 6 := Nat.mod_lt _ (by omega)
  obtain ⟨q, hqk⟩ : ∃ q, k % 6 = q := ⟨_, rfl⟩
  rw [hqk] at hq
  have hqi : ((k : Nat) : Int) % 6 = ((q : Nat) : Int) := by omega
  replace hbp := Lib.hid hbp
  replace hxp := Lib.hid hxp
  replace h6 := Lib.hid h6
  go_enter Tryd.func5, Tryd.ntmps5
  go_wp2_with (first
    | (go_at_call 9; refine kx.out.mono ?_; rintro e w1 ⟨rfl, hb1⟩; replace hb1 := Lib.hid hb1)
    | (go_at_call 21; refine (kla.out _).mono ?_; rintro e w2 ⟨⟨g, rfl, hg⟩, hb2⟩; obtain ⟨A, B, ha, hb, hL⟩ := hg q hq; replace hL := Lib.hid hL; replace hb2 := Lib.hid hb2; clear hg))
  obtain ⟨hn0, hn1⟩ := len_at hq
  have hu := hL.out.ulen
  have hnu : (nsL q).length = (usL q).length := by
    rcases (show q = 0 ∨ q = 1 ∨ q = 2 ∨ q = 3 ∨ q = 4 ∨ q = 5 by omega) with rfl | rfl | rfl | rfl | rfl | rfl <;> rfl
  have hbx := later_alloc w2 (.cells #[.slice A (nsL q).length (nsL q).length, .slice B (usL q).length (usL q).length] 25)
  have hx0 := World.alloc_heap_new w2 (.cells #[.slice A (nsL q).length (nsL q).length, .slice B (usL q).length (usL q).length] 25)
  have z1 : (w2.alloc (.cells #[.slice A (nsL q).length (nsL q).length, .slice B (usL q).length (usL q).length] 25)).heap.size = w2.heap.size + 1 := World.size_alloc ..
  obtain ⟨W0, hW0⟩ : ∃ W, w2.alloc (.cells #[.slice A (nsL q).length (nsL q).length, .slice B (usL q).length (usL q).length] 25) = W := ⟨_, rfl⟩
  rw [hW0]
  rw [hW0] at hbx hx0 z1
  have hB2 := hb1.out.trans (hb2.out.mono hb1.out.size)
  have hBp := Lib.hid (hB2.trans (hbx.mono hB2.size))
  have hB0 : Hid (Below w.heap.size w W0) := hbp.out.trans (hBp.out.mono hbp.out.size)
  have own := Lib.hid (fun (W : World) (h : Below W0.heap.size W0 W) => (Own.mk (hE.later (hB0.out.trans (h.mono hB0.out.size))) ((hL.out.later hbx).later h) : Own W q A B))
  have hP0 := Lib.hid (hP.later hB0.out)
  have b0 : W0.cell? ⟨w2.heap.size, 0, none⟩ = some (.slice A (nsL q).length (nsL q).length) := cell_of_row _ _ 0 _ _ _ hx0
  have b1 : W0.cell? ⟨w2.heap.size, 1, none⟩ = some (.slice B (usL q).length (usL q).length) := cell_of_row _ _ 1 _ _ _ hx0
  have hwp0 : w.heap.size < Wp.heap.size := by omega
  have hwp2 : w.heap.size < W0.heap.size := Nat.lt_of_lt_of_le hwp0 hBp.out.size
  have p0 := (hBp.out.cell (p := ⟨w.heap.size, 0, none⟩) hwp0).trans q0
  have p1 := (hBp.out.cell (p := ⟨w.heap.size, 1, none⟩) hwp0).trans q1
  have kb := Lib.hid (fun (W : World) (h : Below W0.heap.size W0 W) => And.intro ((h.cell (p := ⟨w2.heap.size, 0, none⟩) (by show w2.heap.size < _; omega)).trans b0) ((h.cell (p := ⟨w2.heap.size, 1, none⟩) (by show w2.heap.size < _; omega)).trans b1))
  have kp := Lib.hid (fun (W : World) (h : Below W0.heap.size W0 W) => And.intro ((h.cell (p := ⟨w.heap.size, 0, none⟩) hwp2).trans p0) ((h.cell (p := ⟨w.heap.size, 1, none⟩) hwp2).trans p1))
  have kpt := points_any A B (nsL q).length (usL q).length (nsL q).length (usL q).length hn0 hn1 C l cc W0 hP0.out h6.out hl
  obtain ⟨c, hc⟩ : ∃ c, ptsL (nsL q).length l = c := ⟨_, rfl⟩
  have hc6 := ptsL_i64 hn0 hn1 l
  have hck := pts_known hn0 l
  have hcl := ptsL_len (nsL q).length l
  rw [hc] at kpt hc6 hck hcl
  obtain ⟨px, py, hpe⟩ : ∃ px py, ptsL (nsL q).length [(x, y)] = [(px, py)] := ⟨_, _, rfl⟩
  have hp6 := ptsL_i64 hn0 hn1 [(x, y)]
  rw [hpe] at hp6
  have kp2 := Lib.hid (fun (W : World) (E : Option Addr) (hE : Prs W E [(x, y)]) => (show Calls Tryd.prog 22 #[.agg #[.slice A (nsL q).length (nsL q).length, .slice B (usL q).length (usL q).length], .slice E 1 1] W _ from points_any A B (nsL q).length (usL q).length (nsL q).length (usL q).length hn0 hn1 E [(x, y)] 1 W hE (fun p hp => by rw [List.mem_singleton] at hp; subst hp; exact hxy) (by show 1 ≤ 8796093022208; decide)).mono (fun e w' h => (by
      obtain ⟨⟨A', c', he, hA', _⟩, hb⟩ := h
      rw [hpe] at he hA'
      exact ⟨⟨A', c', he, hA'⟩, hb⟩ : (∃ A' c', e = Ending.returned (.slice A' 1 c') ∧ Prs w' A' [(px, py)]) ∧ Below W.heap.size W w')))
  have kle := Lib.hid (fun (d : List Pr) (h6 : ∀ p ∈ d, I64 p.1 ∧ I64 p.2) (hd : d.length ≤ 1048576) (W : World) (h : Below W0.heap.size W0 W) (D : Option Addr) (cd : Nat) (hD : Prs W D d) => least_any A B (nsL q) (usL q) (nsL q).length (usL q).length D d cd W (own.out W h).env (own.out W h).lat hD h6 hd)
  have kvl := Lib.hid (fun (W : World) (h : Below W0.heap.size W0 W) (D : Option Addr) (r : List Pr) (cd : Nat) (hD : Prs W D r) (hr : r.length ≤ 8796093022208) (a : Int) (ha : I64 a) => value_any A B (nsL q) (usL q) (nsL q).length (usL q).length D r cd a ha W (own.out W h).env (own.out W h).lat hD hr)
  have hmore := Lib.hid (fun (r r' : List Pr) (ok : Bool) (h : LeastT (nsL q) (usL q) c r ok) (h' : LeastT (nsL q) (usL q) (c ++ [(px, py)]) r' true) => least_more (fun p hp => List.mem_append_left _ hp) h h')
  obtain ⟨i0, hi, hi2⟩ := Option.map_eq_some_iff.1 infoPq
  obtain ⟨hz0, hz1, hz2⟩ : i0.zero = some (.agg #[.int .i64 0, .int .i64 0]) ∧ i0.size = 2 ∧ i0.bytes = 16 := by
    injection hi2 with h1 h2; injection h2 with h2 h3; exact ⟨h1, h2, h3⟩
  clear hi2
  replace hi := Lib.hid hi
  replace hz0 := Lib.hid hz0
  replace hz1 := Lib.hid hz1
  replace hz2 := Lib.hid hz2
  replace kpt := Lib.hid kpt
  replace hnu := Lib.hid hnu
  refine kpt.out.mono ?_
  rintro e w3 ⟨⟨D, cd, rfl, hD, okD⟩, hb3⟩
  have hb3' := Lib.hid hb3
  replace hD := Lib.hid hD
  replace okD := Lib.hid okD
  obtain ⟨b0, b1⟩ := kb.out _ hb3
  clear kpt hx0 hW0 hP hP0 ha hb kx kla hb3 hWp q0 q1 p0 p1 hPp hEp hxp
  replace z1 := Lib.hid z1
  replace zp := Lib.hid zp
  replace hwp0 := Lib.hid hwp0
  replace hwp2 := Lib.hid hwp2
  replace hbx := Lib.hid hbx
  replace hc := Lib.hid hc
  replace hpe := Lib.hid hpe
  replace hc6 := Lib.hid hc6
  replace hck := Lib.hid hck
  replace hp6 := Lib.hid hp6
  obtain ⟨K, hK⟩ : ∃ K, c.length = K := ⟨_, rfl⟩
  rw [hK] at hcl
  have k1 := Lib.hid (kle.out c hc6.out (by rw [hK]; omega))
  rw [hK] at k1
  have okD' := okD.out
  rw [hK] at okD' ⊢
  replace okD := Lib.hid okD'
  clear okD'
  replace hK := Lib.hid hK
  go_wp2_with fail
  refine (k1.out w3 hb3'.out D cd hD.out).mono ?_
  rintro e w4 ⟨⟨R, cr, r, ok, rfl, hR, okR, hr6, hLT⟩, hb4⟩
  have hO4 := Lib.hid (below_on hb3'.out hb4)
  have hD4 := Lib.hid (hD.out.later hb4)
  replace hR := Lib.hid hR
  replace hr6 := Lib.hid hr6
  replace hLT := Lib.hid hLT
  clear hb4 hD b0 b1 k1
  have hkeep : Hid (∀ W : World, Below w4.heap.size w4 W → (W.cell? ⟨w2.heap.size, 0, none⟩ = some (.slice A (nsL q).length (nsL q).length) ∧ W.cell? ⟨w2.heap.size, 1, none⟩ = some (.slice B (usL q).length (usL q).length)) ∧ (W.cell? ⟨w.heap.size, 0, none⟩ = some (.int .i64 x) ∧ W.cell? ⟨w.heap.size, 1, none⟩ = some (.int .i64 y))) := fun W h =>
    ⟨kb.out W (below_on hO4.out h), kp.out W (below_on hO4.out h)⟩
  have kD := Lib.hid (fun (W : World) (h : Below w4.heap.size w4 W) => hD4.out.later h)
  have k2 := Lib.hid (fun (W : World) (h : Below w4.heap.size w4 W) (D : Option Addr) (cd : Nat) (hD : Prs W D (c ++ [(px, py)])) => kle.out (c ++ [(px, py)]) (fun p hp => by
      rcases List.mem_append.1 hp with h1 | h1
      · exact hc6.out p h1
      · exact hp6.out p h1) (by rw [List.length_append, hK.out]; show K + 1 ≤ _; omega) W (below_on hO4.out h) D cd hD)
  have hdl : (c ++ [(px, py)]).length = K + 1 := by rw [List.length_append, hK.out]; rfl
  rw [hdl] at k2
  replace hdl := Lib.hid hdl
  have hG : Hid (Below w4.heap.size w4 w4) := Below.refl _ _
  have hcp : Hid (cellsP (c ++ [(px, py)]) = cellsP c ++ [.int .i64 px, .int .i64 py]) := by show _ = _; rw [cellsP_append]; rfl
  go_wp2_with fail
  have hlen := Lib.hid (fun (d r : List Pr) (h : LeastT (nsL q) (usL q) d r true) => least_len h)
  go_region_held3 (fun W => (W.cell? ⟨w2.heap.size, 0, none⟩ = some (.slice A (nsL q).length (nsL q).length) ∧ W.cell? ⟨w2.heap.size, 1, none⟩ = some (.slice B (usL q).length (usL q).length)) ∧ (W.cell? ⟨w.heap.size, 0, none⟩ = some (.int .i64 x) ∧ W.cell? ⟨w.heap.size, 1, none⟩ = some (.int .i64 y)))
    ((refine hkeep.out _ ?_; repeat (first | with_reducible exact hG.out | with_reducible refine Below.drew ?_ | with_reducible refine below_al ?_ _)))
    (first
      | (go_at_call 12
         refine (k2.out _ (by repeat (first | with_reducible exact hG.out | with_reducible refine Below.drew ?_ | with_reducible refine below_al ?_ _)) A7 c7 hA7.out).mono ?_
         rintro e w8 ⟨⟨S, cs, s, is, rfl, hS, okS, hs6, hLT2⟩, hb8⟩
         have hG8 : Hid (Below w4.heap.size w4 w8) := below_on hG.out hb8
         replace hG := hG8
         clear hb8 hG8)
      | (refine step_append_prs rfl (.tmp 33) 26 rfl w4.heap.size 58 i0 (.agg #[.int .i64 0, .int .i64 0]) 16 Tryd.underlying26 hi.out hz0.out hz1.out hz2.out rfl D c K cd hK.out (by go_simp) (kD.out _ (by repeat (first | with_reducible exact hG.out | with_reducible refine Below.drew ?_ | with_reducible refine below_al ?_ _))) okD.out (by unfold maxLen; omega) (by omega) (show Below w4.heap.size w4 _ from by repeat (first | with_reducible exact hG.out | with_reducible refine Below.drew ?_ | with_reducible refine below_al ?_ _)).size ?_
         intro v5 w5 hown5 hb5
         have hW5 : Hid (w5.ownsRow w4.heap.size 58 2 v5 K (cellsP c)) := hown5
         first
           | (have hS5 := Lib.hid (Prs.later (prs1 w4 x y 58) hb5))
           | (have hS5 := Lib.hid (Prs.later (Prs.later (prs1 w4 x y 58) (Below.refl _ _).drew) hb5))
           | skip
         try (replace hA6' := Lib.hid (hA6'.out.later hb5))
         have hG5 : Hid (Below w4.heap.size w4 w5) := below_on (by repeat (first | with_reducible exact hG.out | with_reducible refine Below.drew ?_ | with_reducible refine below_al ?_ _)) hb5
         replace hG := hG5
         clear hown5 hb5 hG5)
      | (refine step_append_hat rfl (.tmp 34) (.tmp 38) 26 rfl w4.heap.size 58 i0 (.agg #[.int .i64 0, .int .i64 0]) 2 16 Tryd.underlying26 hi.out hz0.out hz1.out hz2.out rfl (by decide) v5 K (cellsP c) (by go_simp) hW5.out ⟨b6, o6, none⟩ 1 c6 [.int .i64 px, .int .i64 py] (by go_simp) rfl (fun j u hj => prs_cells (l := [(px, py)]) hA6'.out j u hj) (fun u hu => by simp at hu; rcases hu with rfl | rfl <;> rfl) (by unfold maxLen; omega) (by omega) hG.out.size ?_
         intro v7 w7 hown7 hgrow7 _
         have hG7 : Hid (Below w4.heap.size w4 w7) := hG.out.grown hgrow7 hG.out.size (own_block hW5.out)
         obtain ⟨A7, c7, e7, hP7, -⟩ := prs_own (l := c ++ [(px, py)]) (by rw [hdl.out, hcp.out]; exact hown7)
         rw [hdl.out] at e7
         subst e7
         have hA7 := Lib.hid hP7
         replace hG := hG7
         clear hown7 hgrow7 hP7 hG7)
      | (go_at_call 22
         refine (kp2.out _ _ (by first | with_reducible exact hS5.out | with_reducible exact prs1 _ x y _ | exact (prs1 _ x y _).later (Below.refl _ _).drew)).mono ?_
         rintro e w6 ⟨⟨A6, c6, rfl, hA6⟩, hb6⟩
         have hG6 : Hid (Below w4.heap.size w4 w6) := below_on (by repeat (first | with_reducible exact hG.out | with_reducible refine Below.drew ?_ | with_reducible refine below_al ?_ _)) hb6
         try (have hW6 : Hid (w6.ownsRow w4.heap.size 58 2 v5 K (cellsP c)) := own_later hW5.out (below_on (by repeat (first | with_reducible exact Below.refl _ _ | with_reducible refine Below.drew ?_ | with_reducible refine below_al ?_ _)) hb6))
         try (replace hW5 := hW6; clear hW6)
         replace hG := hG6
         have hA6' := Lib.hid hA6
         obtain ⟨b6, o6, rfl, -, -⟩ := hA6 (by simp)
         clear hb6 hG6))
  all_goals
    have hb48 := hG
    have hO8 := Lib.hid (below_on hO4.out hb48.out)
    have hR8 := Lib.hid (hR.out.later hb48.out)
    have hS8 := Lib.hid hS
    have hLs := Lib.hid hLT2
    obtain ⟨n, hn⟩ : ∃ n, r.length = n := ⟨_, rfl⟩
    obtain ⟨m, hm⟩ : ∃ m, s.length = m := ⟨_, rfl⟩
    rw [hn] at okR ⊢
    rw [hm] at okS ⊢
    replace hn := Lib.hid hn
    replace hm := Lib.hid hm
    clear hS hLT2 okR okS hs6 hR k2 kD hkeep kp2
    cases is with
    | false =>
      obtain ⟨rfl, -⟩ := hLs.out.no rfl
      obtain rfl : 0 = m := hm.out
      go_wp2_with fail
      go_ret
      exact ⟨rfl, below_on hB0.out hO8.out⟩
    | true =>
      obtain ⟨rfl, hle0⟩ := hmore.out r s ok hLT.out hLs.out
      have hle := Lib.hid hle0
      have hn9 : n ≤ 60 := by have h1 := hlen.out _ _ hLT.out; rw [hn.out, hK.out] at h1; omega
      have hm9 : m ≤ 62 := by have h1 := hlen.out _ _ hLs.out; rw [hm.out, hdl.out] at h1; omega
      have kvt := Lib.hid (fun (W : World) (h : Below W0.heap.size W0 W) (D : Option Addr) (cd : Nat) (hD : Prs W D s) => kvl.out W h D s cd hD (by rw [hm.out]; omega))
      rw [hm.out] at kvt
      clear hle0 kvl
      obtain ⟨b0, b1⟩ := kb.out _ hO8.out
      go_wp2_with fail
      go_loopw [13] (fun i W => ∃ j : Nat, j ≤ n ∧ i = .int .i64 j ∧ Hid (Below w8.heap.size w8 W)) (fun i _ => n - (intOf i).toNat)
      case atStart => exact ⟨0, Nat.zero_le _, rfl, Below.refl _ _⟩
      case round =>
        obtain ⟨j, hj, rfl, hB⟩ := hrel
        by_cases hlt2 : j < n
        · have hjr : j < r.length := by rw [hn.out]; exact hlt2
          obtain ⟨bR, oR, rfl, hbR, ra⟩ := (hR8.out.later hB.out) (by intro e; subst e; simp at hjr)
          obtain ⟨c0, c1⟩ := ra j hjr
          clear ra
          have hmem : r.getD j (0, 0) ∈ r := by rw [List.getD_eq_getElem?_getD, List.getElem?_eq_getElem hjr]; exact List.getElem_mem _
          have hq1 := hle.out _ hmem
          have hq6 := (hr6.out _ hmem).1
          clear hmem
          generalize r.getD j (0, 0) = x9 at c0 c1 hq1 hq6
          obtain ⟨v, xp⟩ := x9
          dsimp only at c0 c1 hq1 hq6
          have kv9 := Lib.hid (fun (W : World) (h : Below wr.heap.size wr W) => kvt.out W (below_on (below_on hO8.out hB.out) h) S cs ((hS8.out.later hB.out).later h) v hq6)
          generalize valueT (nsL q) (usL q) s v = va at kv9 hq1
          have klq := Lib.hid (fun (W : World) (h : Below wr.heap.size wr W) => L.leq_any A B (usL q) (nsL q).length (nsL q).length (usL q).length xp va W (own.out W (below_on (below_on hO8.out hB.out) h)).lat.words (own.out W (below_on (below_on hO8.out hB.out) h)).lat.w64 hu)
          rw [hq1] at klq
          have hkeep : Hid (∀ W : World, Below wr.heap.size wr W → (W.cell? ⟨w2.heap.size, 0, none⟩ = some (.slice A (nsL q).length (nsL q).length) ∧ W.cell? ⟨w2.heap.size, 1, none⟩ = some (.slice B (usL q).length (usL q).length)) ∧ W.cell? ⟨bR, oR + j * 2, none⟩ = some (.int .i64 v) ∧ W.cell? ⟨bR, oR + j * 2 + 1, none⟩ = some (.int .i64 xp)) := fun W h =>
            ⟨kb.out W (below_on (below_on hO8.out hB.out) h), (h.cell (p := ⟨bR, oR + j * 2, none⟩) hbR).trans c0, (h.cell (p := ⟨bR, oR + j * 2 + 1, none⟩) hbR).trans c1⟩
          have hG : Hid (Below wr.heap.size wr wr) := Lib.hid (Below.refl _ _)
          have hji : ((j : Nat) : Int) < ((n : Nat) : Int) := by omega
          have hjd : decide (((j : Nat) : Int) < ((n : Nat) : Int)) = true := decide_eq_true hji
          replace hq1 := Lib.hid hq1
          clear c0 c1
          go_wp2_with fail
          go_region_held3 (fun W => (W.cell? ⟨w2.heap.size, 0, none⟩ = some (.slice A (nsL q).length (nsL q).length) ∧ W.cell? ⟨w2.heap.size, 1, none⟩ = some (.slice B (usL q).length (usL q).length)) ∧ W.cell? ⟨bR, oR + j * 2, none⟩ = some (.int .i64 v) ∧ W.cell? ⟨bR, oR + j * 2 + 1, none⟩ = some (.int .i64 xp))
            ((refine hkeep.out _ ?_; repeat (first | with_reducible exact hG.out | with_reducible refine Below.drew ?_)))
            (first
              | (go_at_call 17; refine (kv9.out _ (by repeat (first | with_reducible exact hG.out | with_reducible refine Below.drew ?_))).mono ?_; rintro e w9 ⟨rfl, hb6⟩; replace hG : Hid (Below wr.heap.size wr w9) := Lib.hid (below_on (by repeat (first | with_reducible exact hG.out | with_reducible refine Below.drew ?_)) hb6); clear hb6)
              | (go_at_call 23; refine (klq.out _ (by repeat (first | with_reducible exact hG.out | with_reducible refine Below.drew ?_))).mono ?_; rintro e w9 ⟨rfl, hb6⟩; replace hG : Hid (Below wr.heap.size wr w9) := Lib.hid (below_on (by repeat (first | with_reducible exact hG.out | with_reducible refine Below.drew ?_)) hb6); clear hb6))
          all_goals
            go_wp2_with fail
            go_roundw
            case rel => exact ⟨j + 1, by omega, by go_num, below_on hB.out hG.out⟩
            case measure => simp [intOf]; omega
        · obtain rfl : j = n := by omega
          go_wp2_with fail
          go_ret
          exact ⟨rfl, below_on hB0.out (below_on hO8.out hB.out)⟩
end Go.Proofs.YtlhfdedjboanfaaDoor
