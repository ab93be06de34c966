/-
  SolveOrder. Condition: the pairs can be read, at most 2^43; the library's table lies as laid.
-/
import Derived.Test.YtlhfdedjboanfaaDoorSvExs
import Derived.Test.YtlhfdedjboanfaaDoorSvLawN
import Derived.Laws.StructEq
namespace Go.Proofs.YtlhfdedjboanfaaDoor
open Go.RowKit Go.Shelf Go.At Go.Sv
attribute [local go_sem] Oper.semAt_some

/-- are two pairs one? -/
def sameP (a b c d : Int) : Bool := (a == c) && (b == d)
theorem equalSol (a b c d : Int) (w : World) : (Op.equalIn 10000 54 (.agg #[.int .i64 a, .int .i64 b]) (.agg #[.int .i64 c, .int .i64 d])).run Tryd.prog w = .ok (sameP a b c d) w := by
  have u3 := Tryd.underlying28
  have a3 := Tryd.isAgg28
  have z3 := Tryd.sizeOf28
  have u4 := Tryd.underlying3
  have a4 := Tryd.isAgg3
  have z4 := Tryd.sizeOf3
  have hS : Tryd.prog.underlying 54 = some (.struct (Tryd.prog.fieldsOf 54)) := by kernel_rfl
  have hp : Tryd.prog.stoodInHeld 54 = false := by kernel_rfl
  show (Op.equalIn (9999 + 1) 54 _ _).run Tryd.prog w = _
  rw [run_equalIn_agg w 9999 54 _ _ hS hp]
  simp only [Program.fieldsOf, Tryd.underlying54]
  go_simp
  by_cases h1 : a = c <;> by_cases h2 : b = d <;> simp [sameP, h1, h2]
theorem eqSol (a b c d : Int) (w : World) : (binOp .eql 54 (.agg #[.int .i64 a, .int .i64 b]) (.agg #[.int .i64 c, .int .i64 d])).run Tryd.prog w = .ok (.bool (sameP a b c d)) w := by
  rw [run_eql_struct, equalSol]; rfl
theorem neSol (a b c d : Int) (w : World) : (binOp .neq 54 (.agg #[.int .i64 a, .int .i64 b]) (.agg #[.int .i64 c, .int .i64 d])).run Tryd.prog w = .ok (.bool (!sameP a b c d)) w := by
  rw [run_neq_struct, equalSol]; rfl
theorem guardSol (op : BinOp) (a b : Operand) (x y : Array Value) (w : World) : (eqGuard op 54 a b (.agg x) (.agg y)).run Tryd.prog w = .ok () w := run_eqGuard_agg w op 54 a b x y (by kernel_rfl)
/-- two of one, and what was there behind them -/
theorem own_two (w : World) (x y : Int) : (w.alloc (.cells #[.int .i64 x, .int .i64 y, .int .i64 x, .int .i64 y] 58)).ownsRow w.heap.size 58 2 (.slice (some ⟨w.heap.size, 0, none⟩) 2 2) 2 (cellsP [(x, y), (x, y)]) :=
  ⟨rfl, .inr ⟨w.heap.size, 2, _, rfl, Nat.le_refl _, World.alloc_heap_new w _, Nat.le_refl _, by decide, rfl, rfl⟩⟩
/-- .. of nothing -/
theorem step_append_none {P : Program} {ops : Array Oper} {o : Oper} {a : Act} {w : World} {K : Act → World → Prop} {Q : Exit → Act → World → Prop} {E : Prop}
    (hg : o.guard = none) (s x : Operand) (t : TypeId) (hop : o.op = Op.call { callee := Callee.builtin Builtin.append, args := #[s, x], argTypes := #[t, t] })
    (base : Nat) (e : TypeId) (i : TypeInfo) (size : Nat) (h1 : P.underlying t = some (.slice e)) (h2 : P.info? e = some i)
    (g k cap : Nat) (xs : List Value) (hs : a.eval s = .slice (some ⟨g, 0, none⟩) k cap) (hown : w.ownsRow base e size (.slice (some ⟨g, 0, none⟩) k cap) k xs) (hx : a.eval x = .slice none 0 0)
    (hK : K (a.put o.dst (.slice (some ⟨g, 0, none⟩) k cap)) w) :
    if Region.wanted o (yielded ops a.tmps) = true then Oper.wp P o a w K Q else E := by
  have hw : Region.wanted o (yielded ops a.tmps) = true := by simp [Region.wanted, hg]
  rw [if_pos hw]
  have hrun := run_append_owned_none (P := P) w base t o.type e i size h1 h2 _ k xs hown
  unfold Oper.wp
  simp [execOp, hop, resolve, invoke, builtin, hs, hx, hrun, Result.andThen]
  exact hK
set_option maxRecDepth 100000 in
set_option maxHeartbeats 4000000 in
theorem solveOrder_any (k0 : Int) (C : Option Addr) (l : List Pr) (cc : Nat) (w : World) (hE : L.Env w) (hk0 : 0 ≤ k0 ∧ k0 < 256) (hP : Prs w C l) (h6 : ∀ p ∈ l, I64 p.1 ∧ I64 p.2) (_ok : OkS C l.length cc) (hl : l.length ≤ 8796093022208) :
    Calls Tryd.prog 7 #[.int .u8 k0, .slice C l.length cc] w fun e w' => e = .returned (.bool true) ∧ Below w.heap.size w w' := by
  obtain ⟨k, rfl⟩ : ∃ k : Nat, k0 = (k : Int) := ⟨k0.toNat, by omega⟩
  have hk : k < 256 := by omega
  clear hk0 _ok
  have kx := Lib.hid (examples_any w hE)
  have kla := Lib.hid (fun W => lats_any W)
  have hq : k % 6 < 6 := Nat.mod_lt _ (by omega)
  obtain ⟨q, hqk⟩ : ∃ q, k % 6 = q := ⟨_, rfl⟩
  rw [hqk] at hq
  have hqi : ((k : Nat) : Int) % 6 = ((q : Nat) : Int) := by omega

  replace h6 := Lib.hid h6
  go_enter Tryd.func7, Tryd.ntmps7
  go_wp2_with (first
    | (go_at_call 9; refine kx.out.mono ?_; rintro e w1 ⟨rfl, hb1⟩; replace hb1 := Lib.hid hb1)
    | (go_at_call 21; refine (kla.out _).mono ?_; rintro e w2 ⟨⟨g, rfl, hg⟩, hb2⟩; obtain ⟨A, B, ha, hb, hL⟩ := hg q hq; replace hL := Lib.hid hL; replace hb2 := Lib.hid hb2; clear hg))
  obtain ⟨hn0, hn1⟩ := len_at hq
  have hu := hL.out.ulen
  have hnu : (nsL q).length = (usL q).length := by
    rcases (show q = 0 ∨ q = 1 ∨ q = 2 ∨ q = 3 ∨ q = 4 ∨ q = 5 by omega) with rfl | rfl | rfl | rfl | rfl | rfl <;> rfl
  have hbx := later_alloc w2 (.cells #[.slice A (nsL q).length (nsL q).length, .slice B (usL q).length (usL q).length] 25)
  have hx0 := World.alloc_heap_new w2 (.cells #[.slice A (nsL q).length (nsL q).length, .slice B (usL q).length (usL q).length] 25)
  have z1 : (w2.alloc (.cells #[.slice A (nsL q).length (nsL q).length, .slice B (usL q).length (usL q).length] 25)).heap.size = w2.heap.size + 1 := World.size_alloc ..
  obtain ⟨W0, hW0⟩ : ∃ W, w2.alloc (.cells #[.slice A (nsL q).length (nsL q).length, .slice B (usL q).length (usL q).length] 25) = W := ⟨_, rfl⟩
  rw [hW0]
  rw [hW0] at hbx hx0 z1
  have hB2 := hb1.out.trans (hb2.out.mono hb1.out.size)
  have hB0 := Lib.hid (hB2.trans (hbx.mono hB2.size))
  have own := Lib.hid (fun (W : World) (h : Below W0.heap.size W0 W) => (Own.mk (hE.later (hB0.out.trans (h.mono hB0.out.size))) ((hL.out.later hbx).later h) : Own W q A B))
  have hP0 := Lib.hid (hP.later hB0.out)
  have b0 : W0.cell? ⟨w2.heap.size, 0, none⟩ = some (.slice A (nsL q).length (nsL q).length) := cell_of_row _ _ 0 _ _ _ hx0
  have b1 : W0.cell? ⟨w2.heap.size, 1, none⟩ = some (.slice B (usL q).length (usL q).length) := cell_of_row _ _ 1 _ _ _ hx0
  have kb := Lib.hid (fun (W : World) (h : Below W0.heap.size W0 W) => And.intro ((h.cell (p := ⟨w2.heap.size, 0, none⟩) (by show w2.heap.size < _; omega)).trans b0) ((h.cell (p := ⟨w2.heap.size, 1, none⟩) (by show w2.heap.size < _; omega)).trans b1))
  have kpt := points_any A B (nsL q).length (usL q).length (nsL q).length (usL q).length hn0 hn1 C l cc W0 hP0.out h6.out hl
  obtain ⟨c, hc⟩ : ∃ c, ptsL (nsL q).length l = c := ⟨_, rfl⟩
  have hc6 := ptsL_i64 hn0 hn1 l
  have hck := pts_known hn0 l
  have hcl := ptsL_len (nsL q).length l
  rw [hc] at kpt hc6 hck hcl
  have hkc : knownT (nsL q) (usL q) c = true := by
    unfold knownT
    rw [right_at hq, Bool.true_and, List.all_eq_true]
    intro p hp
    rw [(hck p hp).1, (hck p hp).2]; rfl
  obtain ⟨J, M, zz, tt, hT⟩ := L.told_of (w64_at hq) (right_at hq)
  have kle := Lib.hid (fun (d : List Pr) (h6 : ∀ p ∈ d, I64 p.1 ∧ I64 p.2) (hd : d.length ≤ 1048576) (W : World) (h : Below W0.heap.size W0 W) (D : Option Addr) (cd : Nat) (hD : Prs W D d) => least_any A B (nsL q) (usL q) (nsL q).length (usL q).length D d cd W (own.out W h).env (own.out W h).lat hD h6 hd)
  have hone := Lib.hid (fun (d r r' : List Pr) (ok ok' : Bool) (hm : ∀ p, p ∈ c ↔ p ∈ d) (h : LeastT (nsL q) (usL q) c r ok) (h' : LeastT (nsL q) (usL q) d r' ok') => least_one hT hnu hm h h')
  obtain ⟨i0, hi, hi2⟩ := Option.map_eq_some_iff.1 infoPq
  obtain ⟨hz0, hz1, hz2⟩ : i0.zero = some (.agg #[.int .i64 0, .int .i64 0]) ∧ i0.size = 2 ∧ i0.bytes = 16 := by
    injection hi2 with h1 h2; injection h2 with h2 h3; exact ⟨h1, h2, h3⟩
  clear hi2
  replace hi := Lib.hid hi
  replace hz0 := Lib.hid hz0
  replace hz1 := Lib.hid hz1
  replace hz2 := Lib.hid hz2
  replace kpt := Lib.hid kpt
  replace hnu := Lib.hid hnu
  refine kpt.out.mono ?_
  rintro e w3 ⟨⟨D, cd, rfl, hD, okD⟩, hb3⟩
  clear kpt hx0 hW0 hP hP0 ha hb b0 b1 kx kla
  have hb3' := Lib.hid hb3
  replace hD := Lib.hid hD
  clear hb3
  replace z1 := Lib.hid z1
  replace hbx := Lib.hid hbx
  have hcK := hcl
  obtain ⟨K, hK⟩ : ∃ K, c.length = K := ⟨_, rfl⟩
  rw [hK] at hcl hcK ⊢
  replace hK := Lib.hid hK
  replace hc := Lib.hid hc
  replace hT := Lib.hid hT
  go_wp2_with fail
  go_loopw [7, 8] (fun v i W => ∃ (k : Nat) (At : Option Addr) (ct : Nat), k ≤ K ∧ v = .slice At (2 * k) ct ∧ i = .int .i64 k ∧ Hid (Prs W At (dupL (c.take k))) ∧ Hid (k = 0 → At = none ∧ ct = 0) ∧ Hid (Below w3.heap.size w3 W)) (fun _ i _ => K - (intOf i).toNat)
  case atStart => exact ⟨0, none, 0, Nat.zero_le _, rfl, rfl, Prs.nil _ _, fun _ => ⟨rfl, rfl⟩, Below.refl _ _⟩
  case round =>
    obtain ⟨k, At, ct, hk, rfl, rfl, hTt, hk0, hB⟩ := hrel
    by_cases hlt : k < K
    · have hkl : k < c.length := by rw [hK.out]; exact hlt
      obtain ⟨b, off, rfl, hb, hcc⟩ := (hD.out.later hB.out) (by intro e; subst e; simp at hkl)
      obtain ⟨c0, c1⟩ := hcc k hkl
      clear hcc
      have htl : (dupL (c.take k)).length = 2 * k := by rw [dup_len, List.length_take]; omega
      have htn : Hid (dupL (c.take (k + 1)) = [c.getD k (0, 0), c.getD k (0, 0)] ++ dupL (c.take k)) := by show _ = _; rw [dup_snoc c k hkl]; rfl
      generalize c.getD k (0, 0) = p at c0 c1 htn
      obtain ⟨x, y⟩ := p
      dsimp only at c0 c1
      obtain ⟨tl, htlE⟩ : ∃ tl, dupL (c.take k) = tl := ⟨_, rfl⟩
      rw [htlE] at hTt htn htl
      replace htlE := Lib.hid htlE
      have hown1 := Lib.hid (own_two wr.drew x y)
      have hbx2 := Lib.hid ((Below.refl wr.heap.size wr).drew.alloc (Nat.le_refl _) (.cells #[.int .i64 x, .int .i64 y, .int .i64 x, .int .i64 y] 58))
      have hkK : ((k : Nat) : Int) < ((K : Nat) : Int) := by omega
      have hkd : decide (((k : Nat) : Int) < ((K : Nat) : Int)) = true := decide_eq_true hkK
      cases At with
      | none =>
        have htl0 : tl = [] := by
          cases tl with
          | nil => rfl
          | cons a r => obtain ⟨_, _, e, _⟩ := hTt.out (by simp); cases e
        have hkz : k = 0 := by rw [htl0] at htl; simp at htl; omega
        subst hkz
        obtain ⟨-, rfl⟩ := hk0.out rfl
        have hown2 : Hid ((wr.drew.alloc (.cells #[.int .i64 x, .int .i64 y, .int .i64 x, .int .i64 y] 58)).ownsRow wr.heap.size 58 2 (.slice (some ⟨wr.heap.size, 0, none⟩) 2 2) (dupL (c.take (0 + 1))).length (cellsP (dupL (c.take (0 + 1))))) := by
          show World.ownsRow _ _ _ _ _ _ _
          rw [htn.out, htl0, List.append_nil]
          exact hown1.out
        replace htl0 := Lib.hid htl0
        rw [Nat.mul_zero]
        rw [Nat.zero_mul, Nat.add_zero] at c0 c1
        go_wp2_with fail
        go_region_law (
          refine step_append_none rfl (.tmp 39) (.tmp 40) 26 rfl wr.heap.size 58 i0 2 Tryd.underlying26 hi.out wr.heap.size 2 2 (cellsP [(x, y), (x, y)]) (by simp [Act.eval]) hown1.out (by simp [Act.eval]) ?_)
        all_goals
          obtain ⟨A5, c5, e5, hT5, -⟩ := prs_own hown2.out
          have htl5 : (dupL (c.take (0 + 1))).length = 2 * (0 + 1) := by rw [dup_len, List.length_take]; omega
          rw [htl5] at e5
          replace htl5 := Lib.hid htl5
          have hB5 := Lib.hid (hB.out.trans (hbx2.out.mono hB.out.size))
          replace hT5 := Lib.hid hT5
          replace e5 := Lib.hid e5
          clear hown2 c0 c1 hown1
          go_wp2_with fail
          go_roundw
          case rel => exact ⟨0 + 1, A5, c5, by omega, e5.out, by go_num, hT5.out, fun h => absurd h (by omega), hB5.out⟩
          case measure => simp [intOf]; omega
      | some ad =>
        have hcells : Hid (∀ W, Below wr.heap.size wr W → ∀ j u, (cellsP tl)[j]? = some u → W.cell? (ad.add j) = some u) := fun W hW j u hj => by
          have hlj : j < tl.length * 2 := by rw [← cellsP_len]; exact (List.getElem?_eq_some_iff.1 hj).1
          obtain ⟨b', off', e, hb', hrow⟩ := (hTt.out.later hW) (by intro e; subst e; simp at hlj)
          obtain rfl := Option.some.inj e
          obtain ⟨x0, x1⟩ := hrow (j / 2) (by omega)
          obtain ⟨y0, y1⟩ := cellsP_get tl (j / 2) (by omega)
          rw [Addr.add_lit]
          rcases (show j % 2 = 0 ∨ j % 2 = 1 by omega) with h | h
          · rw [show j / 2 * 2 = j by omega] at x0 y0
            rw [y0] at hj
            rw [x0, hj]
          · rw [show j / 2 * 2 + 1 = j by omega] at y1
            rw [show off' + j / 2 * 2 + 1 = off' + j by omega] at x1
            rw [y1] at hj
            rw [x1, hj]
        go_wp2_with fail
        go_region_law (
          refine step_append_hat rfl (.tmp 39) (.tmp 40) 26 rfl wr.heap.size 58 i0 (.agg #[.int .i64 0, .int .i64 0]) 2 16 Tryd.underlying26 hi.out hz0.out hz1.out hz2.out rfl (by decide) _ _ _ (by simp [Act.eval]) hown1.out ad (2 * k) ct (cellsP tl) (by simp [Act.eval]) (by rw [cellsP_len, htl]) (hcells.out _ hbx2.out) (cells_one tl) (by unfold maxLen; omega) (by omega) hbx2.out.size ?_
          intro v'' w5 hown' hgrow _
          have hown2 : Hid (w5.ownsRow wr.heap.size 58 2 v'' (dupL (c.take (k + 1))).length (cellsP (dupL (c.take (k + 1))))) := by
            show w5.ownsRow _ _ _ _ _ _
            rw [htn.out, cellsP_append, List.length_append, htl]
            exact hown'
          have hb5 : Hid (Below wr.heap.size wr w5) := hbx2.out.grown hgrow hbx2.out.size (own_block hown1.out)
          clear hown' hgrow)
        all_goals
          obtain ⟨A5, c5, e5, hT5, -⟩ := prs_own hown2.out
          have htl5 : (dupL (c.take (k + 1))).length = 2 * (k + 1) := by rw [dup_len, List.length_take]; omega
          rw [htl5] at e5
          subst e5
          replace htl5 := Lib.hid htl5
          have hB5 := Lib.hid (hB.out.trans (hb5.out.mono hB.out.size))
          replace hT5 := Lib.hid hT5
          clear hown2 hb5 c0 c1 hown1
          go_wp2_with fail
          go_roundw
          case rel => exact ⟨k + 1, A5, c5, by omega, by first | rfl | trivial | (congr 1), by go_num, hT5.out, fun h => absurd h (by omega), hB5.out⟩
          case measure => simp [intOf]; omega
    · obtain rfl : k = K := by omega
      have hct : c.take k = c := List.take_of_length_le (by rw [hK.out]; exact Nat.le_refl _)
      rw [hct] at hTt
      have hdl : (dupL c).length = 2 * k := by rw [dup_len, hK.out]
      have hd6 : ∀ p ∈ dupL c, I64 p.1 ∧ I64 p.2 := fun p hp => hc6 p ((dup_mem c p).2 hp)
      have hmm := dup_mem c
      have k1 := Lib.hid (kle.out c hc6 (by rw [hK.out]; omega))
      have k2 := Lib.hid (kle.out (dupL c) hd6 (by omega))
      obtain ⟨dl, hdle⟩ : ∃ dl, dupL c = dl := ⟨_, rfl⟩
      rw [hdle] at hTt hdl hmm k2
      have hon := Lib.hid (fun (r r' : List Pr) (ok ok' : Bool) => hone.out dl r r' ok ok' hmm)
      rw [hdl] at k2
      rw [hK.out] at k1
      have hO := Lib.hid (below_on hb3'.out hB.out)
      have hD1 := Lib.hid (hD.out.later hB.out)
      obtain ⟨b0, b1⟩ := kb.out _ hO.out
      replace hdl := Lib.hid hdl
      replace hdle := Lib.hid hdle
      clear hmm hct hd6
      go_wp2_with fail
      refine (k1.out wr hO.out D cd hD1.out).mono ?_
      rintro e w5 ⟨⟨R, cr, r, ok, rfl, hR, okR, hr6, hLT⟩, hb5⟩
      have hO5 := Lib.hid (below_on hO.out hb5)
      have hT5 := Lib.hid (hTt.out.later hb5)
      replace hR := Lib.hid hR
      replace hLT := Lib.hid hLT
      obtain ⟨b0, b1⟩ := kb.out _ hO5.out
      clear hb5 hr6 k1
      go_wp2_with fail
      refine (k2.out w5 hO5.out At ct hT5.out).mono ?_
      rintro e w6 ⟨⟨S, cs, s, is, rfl, hS, okS, hs6, hLT2⟩, hb6⟩
      obtain ⟨rfl, rfl⟩ := hon.out r s ok is hLT.out hLT2
      have hO6 := Lib.hid (below_on hO5.out hb6)
      have hR6 := Lib.hid (hR.out.later hb6)
      replace hS := Lib.hid hS
      clear hb6 hs6 hLT2 hR k2
      obtain ⟨n, hn⟩ : ∃ n, r.length = n := ⟨_, rfl⟩
      rw [hn]
      have hn9 : n ≤ 9223372036854775807 := by
        have h1 := okR.1
        have h2 := okR.2.1
        rw [hn] at h1
        unfold maxLen at h2
        omega
      replace hn := Lib.hid hn
      cases ok
      all_goals
        go_wp2_with fail
        go_loopw [13] (fun i W => ∃ j : Nat, j ≤ n ∧ i = .int .i64 j ∧ Hid (Below w6.heap.size w6 W)) (fun i _ => n - (intOf i).toNat)
        case atStart => exact ⟨0, Nat.zero_le _, rfl, Below.refl _ _⟩
        case round =>
          clear hB
          obtain ⟨j, hj, rfl, hB⟩ := hrel
          by_cases hlt2 : j < n
          · have hjr : j < r.length := by rw [hn.out]; exact hlt2
            obtain ⟨ba, oa, rfl, -, ra⟩ := (hR6.out.later hB.out) (by intro e; subst e; simp at hjr)
            obtain ⟨bb, ob, rfl, -, rb⟩ := (hS.out.later hB.out) (by intro e; subst e; simp at hjr)
            obtain ⟨c0, c1⟩ := ra j hjr
            obtain ⟨e0, e1⟩ := rb j hjr
            clear ra rb
            generalize r.getD j (0, 0) = x at c0 c1 e0 e1
            obtain ⟨x0, x1⟩ := x
            dsimp only at c0 c1 e0 e1
            have hs : sameP x0 x1 x0 x1 = true := by simp [sameP]
            have heq : ∀ w, Sem.run Tryd.prog (binOp .neq 54 (.agg #[.int .i64 x0, .int .i64 x1]) (.agg #[.int .i64 x0, .int .i64 x1])) w = .ok (.bool (!sameP x0 x1 x0 x1)) w := neSol x0 x1 x0 x1
            have hgd : ∀ (op : BinOp) (a b : Operand) w, Sem.run Tryd.prog (eqGuard op 54 a b (.agg #[.int .i64 x0, .int .i64 x1]) (.agg #[.int .i64 x0, .int .i64 x1])) w = .ok () w := fun op a b w => guardSol op a b _ _ w
            rw [hs] at heq
            simp only [Bool.not_true] at heq
            replace hs := Lib.hid hs
            have hji : ((j : Nat) : Int) < ((n : Nat) : Int) := by omega
            have hjd : decide (((j : Nat) : Int) < ((n : Nat) : Int)) = true := decide_eq_true hji
            go_wp2_with fail
            go_region_held3 (fun W => W.cell? ⟨ba, oa + j * 2, none⟩ = some (.int .i64 x0) ∧ W.cell? ⟨ba, oa + j * 2 + 1, none⟩ = some (.int .i64 x1) ∧ W.cell? ⟨bb, ob + j * 2, none⟩ = some (.int .i64 x0) ∧ W.cell? ⟨bb, ob + j * 2 + 1, none⟩ = some (.int .i64 x1)) (exact ⟨c0, c1, e0, e1⟩) (fail)
            all_goals
              go_wp2_with fail
              go_roundw
              case rel => exact ⟨j + 1, by omega, by go_num, hB.out.drew⟩
              case measure => simp [intOf]; omega
          · obtain rfl : j = n := by omega
            go_wp2_with fail
            go_ret
            exact ⟨rfl, below_on hB0.out (below_on hO6.out hB.out)⟩
end Go.Proofs.YtlhfdedjboanfaaDoor
