/-
  Least. Condition: the lattice, the pairs can be read, at most 2^20 pairs; the library's table lies as laid.
-/
import Derived.Test.YtlhfdedjboanfaaDoorSvNewRise
import Derived.Test.YtlhfdedjboanfaaDoorAtTurn
import Derived.Test.YtlhfdedjboanfaaDoorAtGathV
namespace Go.Proofs.YtlhfdedjboanfaaDoor
open Go.RowKit Go.Shelf Go.At Go.Sv
attribute [local go_sem] Oper.semAt_some

theorem info_sol : (Tryd.prog.info? 54).map (fun i => (i.zero, i.size, i.bytes)) = some (some (.agg #[.int .i64 0, .int .i64 0]), 2, 16) := by kernel_rfl
theorem row_inj {ns : List ByteArray} {us : List Nat} {J M : Nat → Nat → Nat} {z t : Nat} (h : L.Told ns us J M z t) {a b : Nat} (ha : a < us.length) (hb : b < us.length) (e : us.getD a 0 = us.getD b 0) : a = b := by
  have e2 : Lt.row us a = Lt.row us b := e
  have h1 := h.lat.ord.refl a ha
  have h2 := h.lat.ord.refl b hb
  unfold L.le at h1 h2
  exact h.lat.ord.anti a b (by unfold L.le; rw [e2]; exact h2) (by unfold L.le; rw [← e2]; exact h1)
theorem sol_len (l : List Pr) (x : Nat → Nat) : (solL l x).length = (varsL l).length := by unfold solL; simp
theorem sol_get (l : List Pr) (x : Nat → Nat) {k : Nat} (hk : k < (varsL l).length) : (solL l x).getD k (0, 0) = ((varsL l).getD k 0, ((x k : Nat) : Int)) := by
  unfold solL
  rw [List.getD_eq_getElem?_getD, List.getElem?_map, List.getElem?_range hk]; rfl
theorem sol_i64 {l : List Pr} (h6 : ∀ p ∈ l, I64 p.1 ∧ I64 p.2) {x : Nat → Nat} (hx : ∀ i, i < (varsL l).length → x i < 9223372036854775807) : ∀ p ∈ solL l x, I64 p.1 ∧ I64 p.2 := fun p hp => by
  obtain ⟨i, hi, rfl⟩ := List.mem_map.1 hp
  have hi' := List.mem_range.1 hi
  have := hx i hi'
  exact ⟨vars_i64 h6 hi', ⟨by show (-9223372036854775808 : Int) ≤ ((x i : Nat) : Int); omega, by show ((x i : Nat) : Int) ≤ 9223372036854775807; omega⟩⟩
theorem least_none {ns : List ByteArray} {us : List Nat} {l : List Pr} (h : knownT ns us l = false) : LeastT ns us l [] false :=
  ⟨fun k => (by cases k), fun _ => ⟨rfl, fun s => (by unfold solvesT; rw [h]; rfl)⟩⟩
set_option maxRecDepth 100000 in
set_option maxHeartbeats 4000000 in
theorem least_any (A B : Option Addr) (ns : List ByteArray) (us : List Nat) (c d : Nat) (C : Option Addr) (l : List Pr) (cc : Nat) (w : World) (hE : L.Env w) (hL : L.LatAt w A B c ns us) (hP : Prs w C l) (h6 : ∀ p ∈ l, I64 p.1 ∧ I64 p.2) (hl : l.length ≤ 1048576) :
    Calls Tryd.prog 12 #[.agg #[.slice A ns.length c, .slice B us.length d], .slice C l.length cc] w fun e w' => (∃ A' c' r ok, e = .returned (.tuple #[.slice A' r.length c', .bool ok]) ∧ Prs w' A' r ∧ OkS A' r.length c' ∧ (∀ p ∈ r, I64 p.1 ∧ I64 p.2) ∧ LeastT ns us l r ok) ∧ Below w.heap.size w w' := by
  have hb0 := later_alloc w (.cells #[.slice A ns.length c, .slice B us.length d] 25)
  have hx0 := World.alloc_heap_new w (.cells #[.slice A ns.length c, .slice B us.length d] 25)
  obtain ⟨W0, hW0⟩ : ∃ W, w.alloc (.cells #[.slice A ns.length c, .slice B us.length d] 25) = W := ⟨_, rfl⟩
  rw [hW0] at hb0 hx0
  have z1 : W0.heap.size = w.heap.size + 1 := by rw [← hW0, World.size_alloc]
  have b0 : W0.cell? ⟨w.heap.size, 0, none⟩ = some (.slice A ns.length c) := cell_of_row _ _ 0 _ _ _ hx0
  have b1 : W0.cell? ⟨w.heap.size, 1, none⟩ = some (.slice B us.length d) := cell_of_row _ _ 1 _ _ _ hx0
  have kb := Lib.hid (fun (W : World) (h : Below W0.heap.size W0 W) => And.intro ((h.cell (p := ⟨w.heap.size, 0, none⟩) (by show w.heap.size < _; omega)).trans b0) ((h.cell (p := ⟨w.heap.size, 1, none⟩) (by show w.heap.size < _; omega)).trans b1))
  have kK := Lib.hid (knownAll_any A B ns us c d C l cc W0 (hE.later hb0) (hL.later hb0) (hP.later hb0) h6 (by omega))
  have kV := Lib.hid (fun (W : World) (h : Below W0.heap.size W0 W) => vars_any C l cc W ((hP.later hb0).later h) h6 (by omega))
  have kN := Lib.hid (fun (J M : Nat → Nat → Nat) (z t : Nat) (hT : L.Told ns us J M z t) (V : Option Addr) (cv : Nat) (W : World) (h : Below W0.heap.size W0 W) (hV : Nms W V (varsL l)) (hk : knownT ns us l = true) =>
    newRise_any A B ns us c d J M z t V cv C l cc W ((hE.later hb0).later h) ((hL.later hb0).later h) hT hV ((hP.later hb0).later h) h6 hk hl)
  have kS := Lib.hid (fun (D : Option Addr) (s : List Pr) (cd : Nat) (W : World) (h : Below W0.heap.size W0 W) (hS : Prs W D s) (h6s : ∀ p ∈ s, I64 p.1 ∧ I64 p.2) (oks : OkS D s.length cd) (hls : s.length ≤ 8796093022208) =>
    solves_any A B ns us c d C l cc D s cd W ((hE.later hb0).later h) ((hL.later hb0).later h) ((hP.later hb0).later h) h6 (by omega) hS h6s oks hls)
  have kI := Lib.hid (fun (r : Nat) (W : World) (h : Below W0.heap.size W0 W) (hu : us.length ≤ 8796093022208) => indexU_any B us d r W ((hL.later hb0).later h).words hu)
  have hw64 := Lib.hid hL.w64
  replace hb0 := Lib.hid hb0
  replace hx0 := Lib.hid hx0
  replace z1 := Lib.hid z1
  replace hE := Lib.hid hE
  replace hL := Lib.hid hL
  replace hP := Lib.hid hP
  replace h6 := Lib.hid h6
  cases hk : knownT ns us l with
  | false =>
    have hno := Lib.hid (least_none hk)
    rw [hk] at kK
    obtain ⟨N, hN⟩ : ∃ N, ns.length = N := ⟨_, rfl⟩
    obtain ⟨U, hU⟩ : ∃ U, us.length = U := ⟨_, rfl⟩
    obtain ⟨Q, hQ⟩ : ∃ Q, l.length = Q := ⟨_, rfl⟩
    rw [hN, hU, hQ] at kK
    rw [hN, hU] at hW0
    rw [hN] at b0
    rw [hU] at b1
    rw [hN, hU, hQ]
    clear hN hU hQ kb kV kN kS kI
    replace hk := Lib.hid hk
    go_enter Tryd.func12, Tryd.ntmps12
    go_wp2_with (go_at_call 15; refine kK.out.mono ?_; rintro e w' ⟨rfl, hb2⟩)
    go_ret2
    exact ⟨⟨none, 0, [], false, rfl, Prs.nil _ _, ⟨Nat.le_refl _, Nat.zero_le _, fun _ => rfl⟩, by simp, hno.out⟩, hb0.out.trans (hb2.mono hb0.out.size)⟩
  | true =>
    obtain ⟨J, M, z, t, hT⟩ := L.told_of hw64.out (known_parts hk).1
    have hul : us.length ≤ 64 := hT.lat.ord.l64
    have kls := Lib.hid (fun (x : Nat → Nat) hA hle => least_told hT hk (x := x) hA hle)
    have kset := Lib.hid (fun (s : St) (h : Inv us.length (Lt.row us) (varsL l).length (EdgeOf l) (PtOf l) s) => fun hT0 hE hP => settled (told_rows hT) h hT0 hE hP)
    have kst := Lib.hid (fun (base q : Nat) (va : Nat → Value) (s0 : St) (W : World) (hn : (varsL l).length ≤ 1099511627776) (hs : base ≤ W.heap.size) (h : RiseAt W base q (varsL l).length va s0) (hI : Inv us.length (Lt.row us) (varsL l).length (EdgeOf l) (PtOf l) s0) => settle_any (told_rows hT) hn W hs h hI)
    have kN2 := Lib.hid (fun (V : Option Addr) (cv : Nat) (W : World) (h : Below W0.heap.size W0 W) (hV : Nms W V (varsL l)) => kN.out J M z t hT V cv W h hV hk)
    have kI2 := Lib.hid (fun (r : Nat) (W : World) (h : Below W0.heap.size W0 W) => kI.out r W h (by omega))
    have hinj := Lib.hid (fun (a : Nat) (ha : a < us.length) => idxU_row us a ha fun j hj e => row_inj hT hj ha e)
    have hvl : (varsL l).length ≤ 2097152 := by
      have h1 := ord_len (lt := ltI) ((atomsL l).flatMap pickV)
      have h2 := pick_len pickV_len (atomsL l)
      rw [atoms_len] at h2
      unfold varsL
      omega
    rw [hk] at kK
    obtain ⟨i0, hi, hi2⟩ := Option.map_eq_some_iff.1 info_sol
    obtain ⟨hz0, hz1, hz2⟩ : i0.zero = some (.agg #[.int .i64 0, .int .i64 0]) ∧ i0.size = 2 ∧ i0.bytes = 16 := by
      injection hi2 with h1 h2; injection h2 with h2 h3; exact ⟨h1, h2, h3⟩
    clear hi2
    obtain ⟨n, hn⟩ : ∃ n, (varsL l).length = n := ⟨_, rfl⟩
    obtain ⟨N, hN⟩ : ∃ N, ns.length = N := ⟨_, rfl⟩
    obtain ⟨U, hU⟩ : ∃ U, us.length = U := ⟨_, rfl⟩
    obtain ⟨Q, hQ⟩ : ∃ Q, l.length = Q := ⟨_, rfl⟩
    rw [hn] at hvl kst
    have hby : i0.bytes * n ≤ 281474976710656 := by rw [hz2]; omega
    have hmx : n ≤ maxLen := by unfold maxLen; omega
    rw [hN, hU, hQ] at kK
    rw [hN, hU] at hW0 kb
    rw [hN] at b0
    rw [hU] at b1
    rw [hn] at kN2 kV
    rw [hN, hU, hQ] at kN2
    rw [hQ] at kV
    rw [hN, hU, hQ] at kS
    rw [hU] at kI2
    rw [hN, hU, hQ]
    replace hi := Lib.hid hi
    replace hz0 := Lib.hid hz0
    replace hz1 := Lib.hid hz1
    replace hz2 := Lib.hid hz2
    replace hby := Lib.hid hby
    replace hmx := Lib.hid hmx
    replace hn := Lib.hid hn
    replace hN := Lib.hid hN
    replace hU := Lib.hid hU
    replace hQ := Lib.hid hQ
    replace hk := Lib.hid hk
    replace hT := Lib.hid hT
    replace hul := Lib.hid hul
    clear kN kI
    go_enter Tryd.func12, Tryd.ntmps12
    go_wp2_with (first
      | (go_at_call 15; refine kK.out.mono ?_; rintro e w1 ⟨rfl, hb1⟩; obtain ⟨b0, b1⟩ := kb.out w1 hb1; replace hb1 := Lib.hid hb1)
      | (go_at_call 26; refine (kV.out w1 hb1.out).mono ?_; rintro e w2 ⟨⟨V, cv, rfl, hV, okV⟩, hbv⟩; have hb2 := Lib.hid (hb1.out.trans (hbv.mono hb1.out.size)); obtain ⟨b0, b1⟩ := kb.out w2 hb2.out; replace hV := Lib.hid hV; clear hbv)
      | (go_at_call 31; refine (kN2.out V cv w2 hb2.out hV.out).mono ?_; rintro e w3 ⟨⟨base, q, va, s0, hbase, rfl, hR0, hI0, hE0, hP0⟩, hb3⟩; replace hR0 := Lib.hid hR0; replace hI0 := Lib.hid hI0; replace hE0 := Lib.hid hE0; replace hP0 := Lib.hid hP0; replace hb3 := Lib.hid hb3)
      | (go_at_call 32; refine (kst.out base q va s0 w3 (by omega) (Nat.le_trans hR0.out.bank.low (Nat.le_of_lt hR0.out.bank.qlt)) hR0.out (by rw [hU.out]; exact hI0.out)).mono ?_; rintro e w4 ⟨rfl, va4, s4, hT4, hA4⟩; replace hA4 := Lib.hid hA4; replace hT4 := Lib.hid hT4)
      | (at_make; refine wpList_make_full _ rfl _ _ 27 rfl w4.heap.size 54 i0 (.agg #[.int .i64 0, .int .i64 0]) 2 Tryd.underlying27 hi.out hz0.out hz1.out .i64 .i64 _ _ n rfl rfl rfl rfl hby.out hmx.out (Nat.le_refl _) ?_))
    -- what is reached
    obtain ⟨x, hx1, hx2, hx3⟩ := kset.out s4 (by rw [hn.out]; exact hA4.out.inv) hT4.out (fun a b h => ⟨h.1, by rw [hA4.out.O]; exact hE0.out a b h⟩) (fun q b h => ⟨h.1, (hA4.out.sub b).trans (hP0.out q b h)⟩)
    obtain ⟨hyes, hno⟩ := kls.out x hx2 hx3
    have hxm := hx2.1
    have hb4 : Hid (Below W0.heap.size W0 w4) := by
      have h1 : Below W0.heap.size W0 w3 := hb2.out.trans (hb3.out.mono hb2.out.size)
      exact h1.trans (hA4.out.below.mono (Nat.le_trans hb2.out.size hbase))
    have hVw : Hid (Nms w4 V (varsL l)) := by
      have h1 := hV.out.later hb3.out
      intro hne
      obtain ⟨b, off, e, hb, hr⟩ := hV.out hne
      have h2 : Below w2.heap.size w2 w4 := hb3.out.trans (hA4.out.below.mono hbase)
      exact ⟨b, off, e, Nat.lt_of_lt_of_le hb h2.size, hr.block (h2.block b hb)⟩
    have hR4 := Lib.hid hA4.out.rise
    have hrow : Hid (∀ k, k < n → s4.R k = Lt.row us (x k)) := by
      intro k hk
      exact hx1 k (by rw [hn.out]; exact hk)
    have hxm2 : Hid (∀ k, k < n → x k < us.length) := fun k hk => hxm k (by rw [hn.out]; exact hk)
    have hsl : Hid ((solL l x).length = n) := (sol_len l x).trans hn.out
    have h6r := Lib.hid (sol_i64 h6.out (x := x) fun i hi => by have := hxm i hi; have := hul.out; omega)
    replace hyes := Lib.hid hyes
    replace hno := Lib.hid hno
    clear hx1 hx2 hx3 hxm kset kls kst hI0 hE0 hP0 hA4 hT4 hV hR0 kN2 kV kK
    obtain ⟨b0, b1⟩ := kb.out w4 hb4.out
    obtain ⟨g9, hg9⟩ : ∃ g, w4.heap.size = g := ⟨_, rfl⟩
    rw [hg9]
    intro w5 ho hg5
    have hb5 : Hid (Below w4.heap.size w4 w5) := (Below.refl _ _).grown hg5 (Nat.le_refl _) (fun k hk => by cases hk)
    have hM : Hid (PMade w5 54 g9 n []) := by
      obtain ⟨x1, ⟨x2, _⟩ | ⟨g', cap', cur, x2, x3, x4, x5, x6, x7, x8⟩⟩ := ho
      · cases x2
      · injection x2 with y1 y2 y3
        injection y1 with y1
        injection y1 with y1
        subst y1; subst y3
        exact ⟨cur, x4, x7, fun j hj => absurd hj (Nat.not_lt_zero j)⟩
    clear ho hg5
    go_wp2_with fail
    have hg9w := Lib.hid hg9
    clear b0 b1
    go_loopw [28] (fun i wr => ∃ k : Nat, k ≤ n ∧ i = .int .i64 k ∧ Hid (PMade wr 54 g9 n ((solL l x).take k)) ∧ Hid (Below w4.heap.size w4 wr)) (fun i _ => n - (intOf i).toNat)
    case atStart => exact ⟨0, Nat.zero_le _, rfl, hM.out, hb5.out⟩
    case round =>
      clear hM hb5
      obtain ⟨k, hk9, rfl, hM, hB⟩ := hrel
      by_cases hlt : k < n
      · have hkv : k < (varsL l).length := by rw [hn.out]; exact hlt
        obtain ⟨bv, ov, rfl, hbv, hcv⟩ := (hVw.out.later hB.out) (by intro e; rw [e] at hkv; simp at hkv)
        have c0 := hcv k hkv
        have hBW := Lib.hid (hb4.out.trans (hB.out.mono hb4.out.size))
        have hRr := Lib.hid (hR4.out.later hB.out)
        obtain ⟨gR, cR, gO, cO, gS, cS, gG, cG, eR, -, -, -, -, -⟩ := hRr.out.sl (by omega)
        obtain ⟨q0, -⟩ := hRr.out.bx
        rw [eR] at q0
        obtain ⟨r0, -⟩ := hRr.out.rowR eR hlt
        obtain ⟨b0, b1⟩ := kb.out wr hBW.out
        have eix : Hid (idxU us (s4.R k) = ((x k : Nat) : Int)) := by show _ = _; rw [hrow.out k hlt]; exact hinj.out (x k) (hxm2.out k hlt)
        have hlen : ((solL l x).take k).length = k := by rw [List.length_take, hsl.out]; omega
        have htk : Hid ((solL l x).take (k + 1) = (solL l x).take k ++ [((varsL l).getD k 0, ((x k : Nat) : Int))]) := by show _ = _; rw [take_snoc (solL l x) (0, 0) k (by rw [hsl.out]; exact hlt), sol_get l x hkv]
        generalize (varsL l).getD k 0 = v at c0 htk
        obtain ⟨rk, hrk⟩ : ∃ rk, s4.R k = rk := ⟨_, rfl⟩
        rw [hrk] at r0 eix
        have kIx := Lib.hid (fun (W : World) (h : Below W0.heap.size W0 W) => kI2.out rk W h)
        rw [eix.out] at kIx
        generalize x k = xk at kIx htk
        obtain ⟨⟨u0, o0⟩, ⟨u1, o1⟩, f0, f1⟩ := hM.out.old hlt
        have hqlt := Lib.hid (hRr.out.bank.qlt)
        have hgR := World.block_lt_of_cell? wr _ r0
        have hg9b : Hid (w4.heap.size ≤ g9) := Nat.le_of_eq hg9w.out
        have hS9 : Hid (∀ m v0 v1, (((wr.drewN m).setCell ⟨g9, k * 2, none⟩ v0).setCell ⟨g9, k * 2 + 1, none⟩ v1).cell? ⟨w.heap.size, 1, none⟩ = some (.slice B U d) ∧ (((wr.drewN m).setCell ⟨g9, k * 2, none⟩ v0).setCell ⟨g9, k * 2 + 1, none⟩ v1).cell? ⟨q, 0, none⟩ = some (.slice (some ⟨gR, 0, none⟩) n cR) ∧ (((wr.drewN m).setCell ⟨g9, k * 2, none⟩ v0).setCell ⟨g9, k * 2 + 1, none⟩ v1).cell? ⟨gR, k, none⟩ = some (.int .u64 (rk : Nat))) := fun m v0 v1 => by
          have e : ∀ j, j < w4.heap.size → (((wr.drewN m).setCell ⟨g9, k * 2, none⟩ v0).setCell ⟨g9, k * 2 + 1, none⟩ v1).heap[j]? = wr.heap[j]? := fun j hj => (Below.heap_setCell _ _ _ _ (by have := hg9b.out; show j ≠ g9; omega)).trans (Below.heap_setCell _ _ _ _ (by have := hg9b.out; show j ≠ g9; omega))
          have hq4 := hR4.out.bank.qlt
          have hR0w : gR < w4.heap.size := (own_at (hR4.out.bank.own 0 (by omega)) (by rw [eR]; rfl)).2
          have hw4 : w.heap.size < w4.heap.size := by have h1 := hb4.out.size; have h2 := z1.out; omega
          exact ⟨(World.cell?_of_block (a := ⟨w.heap.size, 1, none⟩) (e _ hw4)).trans b1, (World.cell?_of_block (a := ⟨q, 0, none⟩) (e _ hq4)).trans q0, (World.cell?_of_block (a := ⟨gR, k, none⟩) (e _ hR0w)).trans r0⟩
        have hend : Hid (∀ m, PMade (((wr.drewN m).setCell ⟨g9, k * 2, none⟩ (.int .i64 v)).setCell ⟨g9, k * 2 + 1, none⟩ (.int .i64 ((xk : Nat) : Int))) 54 g9 n ((solL l x).take (k + 1)) ∧ Below w4.heap.size w4 (((wr.drewN m).setCell ⟨g9, k * 2, none⟩ (.int .i64 v)).setCell ⟨g9, k * 2 + 1, none⟩ (.int .i64 ((xk : Nat) : Int)))) := fun m => by
          have h1 : PMade (wr.drewN m) 54 g9 n ((solL l x).take k) := hM.out
          have h2 := h1.put (by rw [hlen]; exact hlt) (v, ((xk : Nat) : Int))
          rw [hlen] at h2
          rw [htk.out]
          exact ⟨h2, ((belowN hB.out m).setCell (p := ⟨g9, k * 2, none⟩) hg9b.out _).setCell (p := ⟨g9, k * 2 + 1, none⟩) hg9b.out _⟩
        have hSr : Hid (wr.cell? ⟨w.heap.size, 1, none⟩ = some (.slice B U d) ∧ wr.cell? ⟨q, 0, none⟩ = some (.slice (some ⟨gR, 0, none⟩) n cR) ∧ wr.cell? ⟨gR, k, none⟩ = some (.int .u64 (rk : Nat))) := ⟨b1, q0, r0⟩
        have hdr : Hid (∀ m, Below W0.heap.size W0 (wr.drewN m)) := fun m => belowN hBW.out m
        replace eR := Lib.hid eR
        replace hrk := Lib.hid hrk
        replace hlen := Lib.hid hlen
        clear hcv hg9 hgR
        go_wp2_with fail
        go_region_held3 (fun W => W.cell? ⟨w.heap.size, 1, none⟩ = some (.slice B U d) ∧ W.cell? ⟨q, 0, none⟩ = some (.slice (some ⟨gR, 0, none⟩) n cR) ∧ W.cell? ⟨gR, k, none⟩ = some (.int .u64 (rk : Nat))) (first | exact hSr.out | exact hS9.out 1 _ _) (first | (go_at_call 33; refine (kIx.out _ (hdr.out 1)).mono ?_; rintro e w' ⟨rfl, rfl⟩))
        all_goals
          go_wp2_with fail
          go_roundw
          case rel => exact ⟨k + 1, by omega, by go_num, (hend.out 1).1, (hend.out 1).2⟩
          case measure => simp [intOf]; omega
      · obtain rfl : k = n := by omega
        have h9 := hM.out
        rw [List.take_of_length_le (by rw [hsl.out]; exact Nat.le_refl _)] at h9
        have hpr := h9.prs
        have hBW := Lib.hid (hb4.out.trans (hB.out.mono hb4.out.size))
        have kSx := kS.out (some ⟨g9, 0, none⟩) (solL l x) k wr hBW.out hpr h6r.out ⟨by rw [hsl.out]; exact Nat.le_refl _, hmx.out, fun h => by cases h⟩ (by rw [hsl.out]; omega)
        rw [hsl.out] at kSx
        obtain ⟨b0, b1⟩ := kb.out wr hBW.out
        have hBl := Lib.hid (hb0.out.trans (hBW.out.mono hb0.out.size))
        obtain ⟨sv, hsv⟩ : ∃ b, solvesT ns us l (solL l x) = b := ⟨_, rfl⟩
        rw [hsv] at kSx
        replace kSx := Lib.hid kSx
        replace hpr := Lib.hid hpr
        replace h9 := Lib.hid h9
        cases sv with
        | true =>
          have hle := Lib.hid (hyes.out hsv)
          have hret : Hid (Ending.returned (.tuple #[.slice (some ⟨g9, 0, none⟩) k k, .bool true]) = Ending.returned (.tuple #[.slice (some ⟨g9, 0, none⟩) (solL l x).length k, .bool true])) := by show _ = _; rw [hsl.out]
          have hoks : Hid (OkS (some ⟨g9, 0, none⟩) (solL l x).length k) := ⟨by rw [hsl.out]; exact Nat.le_refl _, hmx.out, fun h => by cases h⟩
          replace hsv := Lib.hid hsv
          go_wp2_with (go_at_call 19; refine kSx.out.mono ?_; rintro e w9 ⟨rfl, hb9⟩)
          go_ret2
          exact ⟨⟨some ⟨g9, 0, none⟩, k, solL l x, true, hret.out, hpr.out.later hb9, hoks.out, h6r.out, hle.out⟩, hBl.out.trans (hb9.mono hBl.out.size)⟩
        | false =>
          have hle := Lib.hid (hno.out hsv)
          replace hsv := Lib.hid hsv
          go_wp2_with (go_at_call 19; refine kSx.out.mono ?_; rintro e w9 ⟨rfl, hb9⟩)
          go_ret2
          exact ⟨⟨none, 0, [], false, rfl, Prs.nil _ _, ⟨Nat.le_refl _, Nat.zero_le _, fun _ => rfl⟩, by simp, hle.out⟩, hBl.out.trans (hb9.mono hBl.out.size)⟩
end Go.Proofs.YtlhfdedjboanfaaDoor
