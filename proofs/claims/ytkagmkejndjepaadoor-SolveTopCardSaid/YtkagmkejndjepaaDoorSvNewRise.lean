/-
  newRise. Condition: the lattice is right, the pairs are known, all can be read; the library's table lies as laid.
-/
import Derived.Test.YtkagmkejndjepaaDoorSvLink
import Derived.Deep.CutRange
import Derived.Deep.CutBlock
namespace Go.Proofs.YtkagmkejndjepaaDoor
open Go.RowKit Go.Shelf Go.At Go.Sv
attribute [local go_sem] Oper.semAt_some

theorem info_ints : (Tryd.prog.info? 74).map (fun i => (i.zero, i.size, i.bytes)) = some (some (.slice none 0 0), 1, 24) := by kernel_rfl
theorem info_bool : (Tryd.prog.info? 4).map (fun i => (i.zero, i.size, i.bytes)) = some (some (.bool false), 1, 1) := by kernel_rfl
set_option maxRecDepth 100000 in
set_option maxHeartbeats 60000000 in
theorem newRise_any (A B : Option Addr) (ns : List ByteArray) (us : List Nat) (c d : Nat) (J M : Nat → Nat → Nat) (z t : Nat) (V : Option Addr) (cv : Nat) (C : Option Addr) (l : List Pr) (cc : Nat) (w : World) (hE : L.Env w) (hL : L.LatAt w A B c ns us) (hTo : L.Told ns us J M z t)
    (hV : Nms w V (varsL l)) (hP : Prs w C l) (h6 : ∀ p ∈ l, I64 p.1 ∧ I64 p.2) (hk : knownT ns us l = true) (hl : l.length ≤ 1048576) :
    Calls Tryd.prog 31 #[.agg #[.slice A ns.length c, .slice B us.length d], .slice V (varsL l).length cv, .slice C l.length cc] w fun e w' => (∃ base q va s, w.heap.size ≤ base ∧ e = .returned (.pointer (some ⟨q, 0, none⟩)) ∧ RiseAt w' base q (varsL l).length va s ∧ Inv us.length (Lt.row us) (varsL l).length (EdgeOf l) (PtOf l) s ∧ (∀ a b, EdgeOf l a b → b ∈ s.O a) ∧ (∀ q b, PtOf l q b → Sub (s.R b) (Lt.row us q))) ∧ Below w.heap.size w w' := by
  have hvl : (varsL l).length ≤ 2097152 := by
    have h1 := ord_len (lt := ltI) ((atomsL l).flatMap pickV)
    have h2 := pick_len pickV_len (atomsL l)
    rw [atoms_len] at h2
    unfold varsL
    omega
  have hb0 := later_alloc w (.cells #[.slice A ns.length c, .slice B us.length d] 25)
  have hx0 := World.alloc_heap_new w (.cells #[.slice A ns.length c, .slice B us.length d] 25)
  obtain ⟨W0, hW0⟩ : ∃ W, w.alloc (.cells #[.slice A ns.length c, .slice B us.length d] 25) = W := ⟨_, rfl⟩
  rw [hW0] at hb0 hx0
  have z1 : W0.heap.size = w.heap.size + 1 := by rw [← hW0, World.size_alloc]
  have hzl := told_z hTo
  have hr64 := hL.w64 z
  have b0 : W0.cell? ⟨w.heap.size, 0, none⟩ = some (.slice A ns.length c) := cell_of_row _ _ 0 _ _ _ hx0
  have b1 : W0.cell? ⟨w.heap.size, 1, none⟩ = some (.slice B us.length d) := cell_of_row _ _ 1 _ _ _ hx0
  obtain ⟨bu, ou, hBu, hbu, hcu⟩ := (hL.later hb0).words (by intro e; subst e; simp at hzl)
  subst hBu
  have u0 := hcu z hzl
  have kbt := Lib.hid (fun (W : World) (h : Below W0.heap.size W0 W) => (L.bottom_any A (some ⟨bu, ou, none⟩) ns us c d W ((hE.later hb0).later h) ((hL.later hb0).later h)).mono fun e w' ⟨he, hb⟩ => (And.intro he (And.intro hb (h.trans (hb.mono h.size))) : e = Ending.returned (.int .i64 (L.bottomI ns us)) ∧ Below W.heap.size W w' ∧ Below W0.heap.size W0 w'))
  rw [hTo.bottom] at kbt
  have kb := Lib.hid (fun (W : World) (h : Below W0.heap.size W0 W) => And.intro ((h.cell (p := ⟨w.heap.size, 0, none⟩) (by show w.heap.size < _; omega)).trans b0) (And.intro ((h.cell (p := ⟨w.heap.size, 1, none⟩) (by show w.heap.size < _; omega)).trans b1) ((h.cell (p := ⟨bu, ou + z, none⟩) hbu).trans u0)))
  have kPr := Lib.hid (fun (W : World) (h : Below W0.heap.size W0 W) => (hP.later hb0).later h)
  have kVr := Lib.hid (fun (W : World) (h : Below W0.heap.size W0 W) => (hV.later hb0).later h)
  have kWd := Lib.hid (fun (W : World) (h : Below W0.heap.size W0 W) => ((hL.later hb0).later h).words)
  have hkp := Lib.hid (known_parts hk).2
  obtain ⟨r, hr⟩ : ∃ r, Lt.row us z = r := ⟨_, rfl⟩
  rw [hr] at u0 kb hr64
  obtain ⟨n, hn⟩ : ∃ n, (varsL l).length = n := ⟨_, rfl⟩
  obtain ⟨N, hN⟩ : ∃ N, ns.length = N := ⟨_, rfl⟩
  obtain ⟨U, hU⟩ : ∃ U, us.length = U := ⟨_, rfl⟩
  obtain ⟨Q, hQ⟩ : ∃ Q, l.length = Q := ⟨_, rfl⟩
  have krp := Lib.hid (fun (W : World) (b : Nat) (h : Below W0.heap.size W0 W) (h1 : W.cell? ⟨b, 0, none⟩ = some (.int .u64 (r : Nat))) => (repeat_any b r (varsL l).length (by omega) W h1).mono fun e w' ⟨⟨g, he, hg, hx⟩, hb⟩ =>
    (And.intro ⟨g, he, Nat.le_trans h.size hg, hx⟩ (And.intro hb (h.trans (hb.mono h.size))) : (∃ g, e = Ending.returned (.slice (some ⟨g, 0, none⟩) (varsL l).length (varsL l).length) ∧ W0.heap.size ≤ g ∧ w'.heap[g]? = some (Obj.cells (List.replicate (varsL l).length (Value.int .u64 (r : Nat))).toArray 72 (0, 0))) ∧ Below W.heap.size W w' ∧ Below W0.heap.size W0 w'))
  rw [hn] at hvl krp
  rw [hN] at b0 kb kbt hW0
  rw [hU] at b1 kb kbt hW0 hzl
  rw [hn, hN, hU, hQ]
  rw [hQ] at hl
  have hmO := fun w => run_make_row' (P := Tryd.prog) 73 74 (.slice none 0 0) 24 Tryd.underlying73 info_ints rfl .i64 .i64 n (by omega) (by omega) w
  have hmS := fun w => run_make_row' (P := Tryd.prog) 74 3 (.int .i64 0) 8 Tryd.underlying74 info_int rfl .i64 .i64 n (by omega) (by omega) w
  have hmG := fun w => run_make_row' (P := Tryd.prog) 75 4 (.bool false) 1 Tryd.underlying75 info_bool rfl .i64 .i64 n (by omega) (by omega) w
  replace hb0 := Lib.hid hb0
  replace hx0 := Lib.hid hx0
  replace z1 := Lib.hid z1
  replace hE := Lib.hid hE
  replace hL := Lib.hid hL
  have kI := Lib.hid (fun a W => (isPoint_any a W).mono fun e w' h => (And.intro h.1 h.2.symm : _ ∧ W = w'))
  have kPo := Lib.hid (fun a (ha : I64 a) W => (pointOf_any a W ha).mono fun e w' h => (And.intro h.1 h.2.symm : _ ∧ W = w'))
  obtain ⟨i0, hi, hi2⟩ := Option.map_eq_some_iff.1 info_int
  obtain ⟨hz0, hz1, hz2⟩ : i0.zero = some (.int .i64 0) ∧ i0.size = 1 ∧ i0.bytes = 8 := by
    injection hi2 with h1 h2; injection h2 with h2 h3; exact ⟨h1, h2, h3⟩
  replace hi := Lib.hid hi
  replace hz0 := Lib.hid hz0
  replace hz1 := Lib.hid hz1
  replace hz2 := Lib.hid hz2
  clear hi2
  replace hV := Lib.hid hV
  replace hP := Lib.hid hP
  replace h6 := Lib.hid h6
  replace hTo := Lib.hid hTo
  replace hn := Lib.hid hn
  replace hN := Lib.hid hN
  replace hU := Lib.hid hU
  replace hQ := Lib.hid hQ
  replace hr := Lib.hid hr
  replace hk := Lib.hid hk
  replace hr64 := Lib.hid hr64
  replace hcu := Lib.hid hcu
  have hBd := Lib.hid ((Below.refl W0.heap.size W0).drew)
  have hS0 := Lib.hid (kb.out _ hBd.out)
  have hkeep := Lib.hid (fun (W : World) (h : Below W0.heap.size W0 W) => kb.out W h)
  go_enter Tryd.func31, Tryd.ntmps31
  go_upto_region 2 with fail
  go_cut [8] from 18 to 34 (fun v8 W => ∃ q va, v8 = .pointer (some ⟨q, 0, none⟩) ∧ Hid (RiseAt W W0.heap.size q n va (Go.Sv.begun r)) ∧ Hid (Below W0.heap.size W0 W))
  case first =>
    as_aux_lemma =>
      go_region_held3 (fun W => W.cell? ⟨w.heap.size, 0, none⟩ = some (.slice A N c) ∧ W.cell? ⟨w.heap.size, 1, none⟩ = some (.slice (some ⟨bu, ou, none⟩) U d) ∧ W.cell? ⟨bu, ou + z, none⟩ = some (.int .u64 (r : Nat)))
        ((refine hkeep.out _ ?_; repeat (first | with_reducible exact hc8.out | with_reducible exact hc7.out | with_reducible exact Below.refl _ _ | with_reducible refine Below.drew ?_ | with_reducible refine below_al ?_ _)))
        (first
          | (go_at_call 28; refine (kbt.out _ (by repeat (first | with_reducible exact Below.refl _ _ | with_reducible refine Below.drew ?_ | with_reducible refine below_al ?_ _))).mono ?_; rintro e w7 ⟨rfl, hb7, hc7⟩; replace hb7 := Lib.hid hb7; replace hc7 := Lib.hid hc7)
          | (go_at_call 57; refine (krp.out _ _ (by repeat (first | with_reducible exact hc7.out | with_reducible exact Below.refl _ _ | with_reducible refine Below.drew ?_ | with_reducible refine below_al ?_ _)) (by refine cell_one (e := 72) ?_; repeat (first | with_reducible refine get_new (by first | rfl | simp) | with_reducible refine get_alloc ?_ _ | with_reducible refine get_below ?_ hb7.out | with_reducible refine get_drew ?_))).mono ?_; rintro e w8 ⟨⟨g, rfl, hg1, hg2⟩, hb8, hc8⟩; replace hg1 := Lib.hid hg1; replace hg2 := Lib.hid hg2; replace hb8 := Lib.hid hb8; replace hc8 := Lib.hid hc8))
      all_goals
        go_wp2_with fail
        go_meet
        · apply Exists.intro
          apply Exists.intro
          refine ⟨rfl, ?rise, ?hb⟩
          case hb => show Below _ _ _; repeat (first | with_reducible exact hc8.out | with_reducible exact Below.refl _ _ | with_reducible refine Below.drew ?_ | with_reducible refine below_al ?_ _)
          case rise =>
            show RiseAt _ _ _ _ _ _
            apply rise_new'
            case hq => first | with_reducible exact get_new (by first | rfl | simp) | (with_reducible refine get_drew ?_; with_reducible exact get_new (by first | rfl | simp))
            case h1 => repeat (first | with_reducible exact hg2.out | with_reducible refine get_alloc ?_ _ | with_reducible refine get_drew ?_)
            case h2 => repeat (first | with_reducible exact get_new (by first | rfl | simp) | with_reducible refine get_alloc ?_ _ | with_reducible refine get_below ?_ hb8.out | with_reducible refine get_below ?_ hb7.out | with_reducible refine get_drew ?_)
            case h3 => repeat (first | with_reducible exact get_new (by first | rfl | simp) | with_reducible refine get_alloc ?_ _ | with_reducible refine get_below ?_ hb8.out | with_reducible refine get_below ?_ hb7.out | with_reducible refine get_drew ?_)
            case h4 => repeat (first | with_reducible exact get_new (by first | rfl | simp) | with_reducible refine get_alloc ?_ _ | with_reducible refine get_below ?_ hb8.out | with_reducible refine get_below ?_ hb7.out | with_reducible refine get_drew ?_)
            case b1 => exact hg1.out
            case b2 => have a7 := hc7.out.size; have a8 := hc8.out.size; first | omega | (simp only [World.size_alloc]; omega)
            case b3 => have a7 := hc7.out.size; have a8 := hc8.out.size; first | omega | (simp only [World.size_alloc]; omega)
            case b4 => have a7 := hc7.out.size; have a8 := hc8.out.size; first | omega | (simp only [World.size_alloc]; omega)
            case bq => have a7 := hc7.out.size; have a8 := hc8.out.size; first | omega | (simp only [World.size_alloc]; omega)
            case hn => unfold maxLen; omega
            case hr => exact hr64.out
  case rest =>
    obtain ⟨q, va, rfl, hR0, hB0⟩ := hcut
    have hmm := run_makeMapN
    obtain ⟨mb, hmb⟩ : ∃ m, wc.heap.size = m := ⟨_, rfl⟩
    obtain ⟨Wm, hWm⟩ : ∃ W, wc.alloc (.map #[] 0) = W := ⟨_, rfl⟩
    have hmap0 := IMap.new wc
    have hbm := later_alloc wc (.map #[] 0)
    rw [hWm] at hmap0 hbm
    rw [hmb] at hmap0
    have hR1 := Lib.hid (hR0.out.later hbm)
    have hB1 := Lib.hid (hB0.out.trans (hbm.mono hB0.out.size))
    have hmw : ∀ x, (Instr.makeMap 98 (some (.int .i64 x))).run Tryd.prog wc = .ok (.map (some mb)) Wm := fun x => by rw [hmm, hmb, hWm]
    have hmlo : W0.heap.size ≤ mb := by rw [← hmb]; exact hB0.out.size
    replace hmap0 := Lib.hid hmap0
    clear hmm hWm hmb hbm hR0 hB0 hmO hmS hmG
    go_wp2_with fail
    clear hmw
    go_loopw [39] (fun i W => ∃ k : Nat, k ≤ n ∧ i = .int .i64 k ∧ Hid (RiseAt W W0.heap.size q n va (Go.Sv.begun r)) ∧ Hid (IMap W mb k (placeF (varsL l) k)) ∧ Hid (Below W0.heap.size W0 W)) (fun i _ => n - (intOf i).toNat)
    case atStart => exact ⟨0, Nat.zero_le _, rfl, hR1, hmap0, hB1⟩
    case round =>
      obtain ⟨k, hkn, rfl, hR, hMp, hB⟩ := hrel
      by_cases hlt : k < n
      · have hkv : k < (varsL l).length := by rw [hn.out]; exact hlt
        obtain ⟨bv, ov, rfl, hbv, hcv⟩ := (kVr.out wr hB.out) (by intro e; rw [e] at hkv; simp at hkv)
        have c0 := hcv k hkv
        have hI := vars_i64 h6.out hkv
        have hsc := placeF_succ (varsL l) k
        clear hcv
        generalize (varsL l).getD k 0 = v at c0 hI hsc
        obtain ⟨w1, hrun, hm1, hg1⟩ := hMp.out.store (v := (k : Int)) (by unfold maxLen; omega) hI ⟨by omega, by omega⟩
        have hg2 : wr.grownBy w1 (some mb) := ⟨hg1.os, hg1.tape, hg1.output, hg1.size, hg1.block⟩
        have hR2 := Lib.hid (hR.out.mapped hMp.out hg2)
        have hB2 := Lib.hid (hB.out.grown hg2 hB.out.size (fun k e => by cases e; exact hmlo))
        rw [← hsc] at hm1
        replace hm1 := Lib.hid hm1
        clear hg1 hg2 hsc hI
        go_wp2_with fail
        go_roundw
        case rel => exact ⟨k + 1, by omega, by go_num, hR2, hm1, hB2⟩
        case measure => simp [intOf]; omega
      · obtain ⟨k0, hk0⟩ : ∃ k, k = n := ⟨n, rfl⟩
        obtain rfl : k = n := by omega
        subst hk0
        rename World => Wp
        go_wp2_with fail
        have hLy0 := Lib.hid (lay_start (l := l) hTo.out)
        rw [hr.out] at hLy0
        go_loopw [50] (fun i W => ∃ (k : Nat) (va2 : Nat → Value) (s2 : St), k ≤ Q ∧ i = .int .i64 k ∧ Hid (RiseAt W W0.heap.size q k0 va2 s2) ∧ Hid (Lay us l k s2) ∧ Hid (IMap W mb k0 (placeF (varsL l) k0)) ∧ Hid (Below W0.heap.size W0 W)) (fun i _ => Q - (intOf i).toNat)
        case atStart => exact ⟨0, va, _, Nat.zero_le _, rfl, hR, hLy0, hMp, hB⟩
        case round =>
          clear hR hMp hB hLy0
          obtain ⟨k, va2, s2, hkQ, rfl, hR, hLy, hMp, hB⟩ := hrel
          by_cases hlt : k < Q
          · have hkl : k < l.length := by rw [hQ.out]; exact hlt
            obtain ⟨b, off, rfl, hbk, hc⟩ := (kPr.out wr hB.out) (by intro e; subst e; simp at hkl)
            obtain ⟨c0, c1⟩ := hc k hkl
            have hmem : l.getD k (0, 0) ∈ l := by rw [List.getD_eq_getElem?_getD, List.getElem?_eq_getElem hkl]; exact List.getElem_mem _
            have h6k := h6.out _ hmem
            have hkn2 := hkp.out _ hmem
            have m1 : (l.getD k (0, 0)).1 ∈ atomsL l := (atoms_mem l _).2 ⟨_, hmem, .inl rfl⟩
            have m2 : (l.getD k (0, 0)).2 ∈ atomsL l := (atoms_mem l _).2 ⟨_, hmem, .inr rfl⟩
            have ksk := Lib.hid (fun h0 => lay_skip hLy.out hkl h0)
            have kra := Lib.hid (fun b q hb e2 h1 hq hqm => lay_raise (b := b) (q := q) hTo.out hLy.out hkl hb e2 h1 hq hqm)
            have kli := Lib.hid (fun a b ha hb e1 e2 => lay_link (a := a) (b := b) hTo.out hLy.out hkl ha hb e1 e2)
            clear hc hmem
            generalize l.getD k (0, 0) = p at c0 c1 h6k hkn2 m1 m2 ksk kra kli
            obtain ⟨x, y⟩ := p
            dsimp only at c0 c1 h6k hkn2 m1 m2 ksk kra kli
            obtain ⟨W1, hV⟩ : ∃ W, wr.alloc (.cells #[.int .i64 x, .int .i64 y] 58) = W := ⟨_, rfl⟩
            have hxV := World.alloc_heap_new wr (.cells #[.int .i64 x, .int .i64 y] 58)
            have hbV := later_alloc wr (.cells #[.int .i64 x, .int .i64 y] 58)
            have zV : W1.heap.size = wr.heap.size + 1 := by rw [← hV, World.size_alloc]
            rw [hV] at hxV hbV
            have hRV := Lib.hid (hR.out.later hbV)
            have hMV := Lib.hid (hMp.out.same (hbV.block mb hMp.out.lt))
            have hBV := Lib.hid (hB.out.trans (hbV.mono hB.out.size))
            have v0 : W1.cell? ⟨wr.heap.size, 0, none⟩ = some (.int .i64 x) := cell_of_row _ _ 0 _ _ _ hxV
            have v1 : W1.cell? ⟨wr.heap.size, 1, none⟩ = some (.int .i64 y) := cell_of_row _ _ 1 _ _ _ hxV
            have kx := Lib.hid (kI.out x)
            have ky := Lib.hid (kI.out y)
            have hlx := hMV.out.look h6k.1
            have hly := hMV.out.look h6k.2
            replace hxV := Lib.hid hxV
            replace hbV := Lib.hid hbV
            replace zV := Lib.hid zV
            cases hpy : isP y with
            | true =>
              have hy0 : y < 0 := of_decide_eq_true hpy
              rw [hpy] at ky
              have hL2 := Lib.hid (ksk.out hy0)
              replace hpy := Lib.hid hpy
              clear hlx hly kra kli ksk
              go_wp2_with (go_at_call 24; refine (ky.out _).mono ?_; rintro e w' ⟨rfl, rfl⟩)
              go_roundw
              case rel => exact ⟨k + 1, va2, s2, by omega, by go_num, hRV, hL2, hMV, hBV⟩
              case measure => simp [intOf]; omega
            | false =>
              have hy0 : ¬ y < 0 := of_decide_eq_false hpy
              rw [hpy] at ky
              replace hpy := Lib.hid hpy
              obtain ⟨ib, hib, eib⟩ := vars_at m2 (by omega)
              have hpb := placeF_get l _ (Nat.le_refl _) ib hib
              rw [eib] at hpb
              rw [hn.out] at hpb hib
              rw [hpb] at hly
              simp only [Option.getD_some] at hly
              replace hpb := Lib.hid hpb
              cases hpx : isP x with
              | true =>
                have hx0 : x < 0 := of_decide_eq_true hpx
                rw [hpx] at kx
                replace hpx := Lib.hid hpx
                obtain ⟨-, qx, eqx, hqx⟩ := value_pt (ns := ns) (us := us) (s := []) hx0 hkn2.1
                have hqm : qx < us.length := by rw [← hTo.out.eqn]; exact hqx
                have eP : pointOfT x = ((qx : Nat) : Int) := by rw [← eqx]; exact if_pos hx0
                have kpo := Lib.hid (kPo.out x h6k.1)
                rw [eP] at kpo
                have htl : s2.T.length ≤ 1099511627776 := by
                  have h1 := nodup_len _ _ hLy.out.inv.nodup hLy.out.inv.tlt
                  have h2 := hn.out
                  omega
                have hL2 := Lib.hid (kra.out ib qx (by rw [hn.out]; exact hib) eib hx0 eqx.symm hqm)
                have hbd : Below W1.heap.size W1 W1.drew := (Below.refl _ _).drew
                have krs := Lib.hid (raise_any (s := s2) (q := q) (va := va2) ib (Lt.row us qx) hib (hL.out.w64 qx) htl W1.drew hBV.out.size (hRV.out.later hbd))
                have hMd : Hid (IMap W1.drew mb k0 (placeF (varsL l) k0)) := hMV.out.same rfl
                have hRd := Lib.hid (hRV.out.later hbd)
                have u1 := (hBV.out.cell (p := ⟨bu, ou + qx, none⟩) hbu).trans (hcu.out qx hqm)
                obtain ⟨b0, b1, -⟩ := kb.out W1 hBV.out
                generalize Lt.row us qx = rw0 at krs u1 hL2
                have hqU : (qx : Int) < (U : Int) := by have := hU.out; omega
                have hqU2 : qx < U := by have := hU.out; omega
                replace eqx := Lib.hid eqx
                replace eP := Lib.hid eP
                clear hlx kra kli ksk hqm hx0 hy0
                go_wp2_with (first
                  | (go_at_call 24; refine (ky.out _).mono ?_; clear ky; rintro e w' ⟨rfl, rfl⟩)
                  | (go_at_call 24; refine (kx.out _).mono ?_; rintro e w' ⟨rfl, rfl⟩))
                go_region_with (first
                  | (go_at_call 43; refine (kpo.out _).mono ?_; rintro e w' ⟨rfl, rfl⟩)
                  | (go_at_call 58; refine krs.out.mono ?_; rintro e w7 ⟨rfl, ⟨va3, hr7, -⟩, hb7, hk7⟩))
                all_goals
                  have hM7 := Lib.hid (hMd.out.kept hRd.out hk7)
                  have hB7 : Hid (Below W0.heap.size W0 w7) := hBV.out.drew.trans hb7
                  replace hr7 := Lib.hid hr7
                  clear hk7 hb7
                  go_wp2_with fail
                  go_roundw
                  case rel => exact ⟨k + 1, va3, _, by omega, by go_num, hr7, hL2, hM7, hB7⟩
                  case measure => simp [intOf]; omega
              | false =>
                have hx0 : ¬ x < 0 := of_decide_eq_false hpx
                rw [hpx] at kx
                replace hpx := Lib.hid hpx
                obtain ⟨ia, hia, eia⟩ := vars_at m1 (by omega)
                have hpa := placeF_get l _ (Nat.le_refl _) ia hia
                rw [eia] at hpa
                rw [hn.out] at hpa hia
                rw [hpa] at hlx
                simp only [Option.getD_some] at hlx
                replace hpa := Lib.hid hpa
                have hiaI : (ia : Int) < (k0 : Int) := by omega
                have hiaJ : (0 : Int) ≤ (ia : Int) := by omega
                obtain ⟨gR, cR, gO, cO, gS, cS, gG, cG, eR, eO, eS, eG, -, -, -, -, lO⟩ := hRV.out.sl (by omega)
                obtain ⟨A9, cA, eA, hA1, hA2⟩ := hRV.out.bank.row (k := ia + 5) (by omega)
                obtain ⟨-, q1, -⟩ := hRV.out.bx
                obtain ⟨o0, o1⟩ := hRV.out.rowO eO hia
                replace eA : va2 (ia + 5) = .slice A9 (s2.O ia).length cA := eA
                rw [eO] at q1
                rw [eA] at o0
                have hbd : Below W1.heap.size W1 W1.drew := (Below.refl _ _).drew
                have hRd := Lib.hid (hRV.out.later hbd)
                have hMd : Hid (IMap W1.drew mb k0 (placeF (varsL l) k0)) := hMV.out.same rfl
                have hL2 := Lib.hid (kli.out ia ib (by rw [hn.out]; exact hia) (by rw [hn.out]; exact hib) eia eib)
                have hbx := later_alloc W1.drew (.cells #[.int .i64 (ib : Nat)] 3)
                have hxx := World.alloc_heap_new W1.drew (.cells #[.int .i64 (ib : Nat)] 3)
                have hown1 : Hid ((W1.drew.alloc (.cells #[.int .i64 (ib : Nat)] 3)).ownsRow W0.heap.size 3 1 (.slice A9 (s2.O ia).length cA) (s2.O ia).length (intL (s2.O ia))) := by
                  have := (hRd.out.later hbx).bank.own (ia + 5) (by omega)
                  rw [eA] at this
                  exact this
                have hnew := Lib.hid (cell_one_new W1.drew (.int .i64 (ib : Nat)) 3)
                have hbs : Hid (W0.heap.size ≤ (W1.drew.alloc (.cells #[.int .i64 (ib : Nat)] 3)).heap.size) := Nat.le_trans hBV.out.size hbx.size
                have kend := Lib.hid (fun (v7 : Value) (w7 : World) (ho : w7.ownsRow W0.heap.size 3 1 v7 (s2.O ia ++ [ib]).length (intL (s2.O ia ++ [ib]))) => fun hg7 hat7 => hRd.out.link (v' := v7) (W' := w7) hia eO hbx ho hg7 hat7)
                have hOl : (s2.O ia).length ≤ 1048576 := by have := hLy.out.few ia; omega
                have hbsz := hbx.size
                replace hbx := Lib.hid hbx
                obtain ⟨La, hLa⟩ : ∃ La, (s2.O ia).length = La := ⟨_, rfl⟩
                have hLa1 : Hid ((s2.O ia ++ [ib]).length = La + 1) := by show _ = _; rw [List.length_append, hLa]; rfl
                have hil : Hid (intL (s2.O ia ++ [ib]) = intL (s2.O ia) ++ [.int .i64 (ib : Nat)]) := intL_snoc _ _
                rw [hLa] at o0 hown1 hOl
                have eA2 : Hid (va2 (ia + 5) = .slice A9 La cA) := by show _ = _; rw [eA, hLa]
                generalize intL (s2.O ia) = xs at hown1 hil
                replace eA := Lib.hid eA
                replace eO := Lib.hid eO
                replace eR := Lib.hid eR
                replace eS := Lib.hid eS
                replace eG := Lib.hid eG
                replace hLa := Lib.hid hLa
                have hkeep2 := Lib.hid (fun (W : World) (h : Below W1.heap.size W1 W) => (h.cell (p := ⟨q, 1, none⟩) hRV.out.bank.qlt).trans q1)
                have q1d : W1.drew.cell? ⟨q, 1, none⟩ = some (.slice (some ⟨gO, 0, none⟩) k0 cO) := q1
                have q1f : (W1.alloc (.cells #[.int .i64 (ib : Nat)] 3)).drew.cell? ⟨q, 1, none⟩ = some (.slice (some ⟨gO, 0, none⟩) k0 cO) := hkeep2.out _ (hbd.trans hbx.out)
                have q1e : (W1.drew.alloc (.cells #[.int .i64 (ib : Nat)] 3)).cell? ⟨q, 1, none⟩ = some (.slice (some ⟨gO, 0, none⟩) k0 cO) := hkeep2.out _ (hbd.trans hbx.out)
                have o0d : W1.drew.cell? ⟨gO, ia, none⟩ = some (.slice A9 La cA) := o0
                have o0f : (W1.alloc (.cells #[.int .i64 (ib : Nat)] 3)).drew.cell? ⟨gO, ia, none⟩ = some (.slice A9 La cA) := ((hbd.trans hbx.out).cell (p := ⟨gO, ia, none⟩) (World.block_lt_of_cell? W1 _ o0)).trans o0
                have o0e : (W1.drew.alloc (.cells #[.int .i64 (ib : Nat)] 3)).cell? ⟨gO, ia, none⟩ = some (.slice A9 La cA) := ((hbd.trans hbx.out).cell (p := ⟨gO, ia, none⟩) (World.block_lt_of_cell? W1 _ o0)).trans o0
                have hs2 : Hid (Below W1.heap.size W1 (W1.drew.alloc (.cells #[.int .i64 (ib : Nat)] 3))) := hbd.trans hbx.out
                clear kra kli ksk hx0 hy0 hbd hxx hA1 hA2
                go_wp2_with (first
                  | (go_at_call 24; refine (ky.out _).mono ?_; clear ky; rintro e w' ⟨rfl, rfl⟩)
                  | (go_at_call 24; refine (kx.out _).mono ?_; rintro e w' ⟨rfl, rfl⟩))
                go_region_law (first
                  | (refine step_append_hat rfl (.tmp 89) (.tmp 91) 74 rfl W0.heap.size 3 i0 (.int .i64 0) 1 8 Tryd.underlying74 hi.out hz0.out hz1.out hz2.out rfl (by decide) (.slice A9 La cA) La xs (by go_simp) hown1.out ⟨W1.heap.size, 0, none⟩ 1 1 [.int .i64 (ib : Nat)] (by go_simp) rfl hnew.out (fun u hu => by simp at hu; subst hu; rfl) (by unfold maxLen; omega) (by omega) hbs.out ?_
                     intro v7 w7 ho7 hg7 hat7
                     rw [← eA2.out] at hg7 hat7
                     obtain ⟨k1, k2, k3, k4⟩ := kend.out v7 w7 (by rw [hLa1.out, hil.out]; exact ho7) hg7 (hat7.imp id fun e => ⟨_, e, hbsz⟩)
                     rw [eA2.out] at k2
                     rw [eO.out] at k4
                     replace k1 := Lib.hid k1
                     have hB7 : Hid (Below W0.heap.size W0 w7) := (hBV.out.trans (hs2.out.mono hBV.out.size)).grown hg7 hbs.out fun j e => own_block (hRd.out.bank.own (ia + 5) (by omega)) j e
                     have hK7 : Hid (Kept q k0 va2 W1.drew w7) := (Kept.later hbx.out).trans (Kept.grown (k := ia + 5) (by omega) hg7) hbx.out.size
                     obtain ⟨A7, c7, e7, -, -⟩ := own_form' ho7
                     subst e7
                     clear ho7 hg7 hat7))
                all_goals
                  have hM7 := Lib.hid ((hMd.out.kept hRd.out hK7.out).same (Below.heap_setCell _ ⟨gO, ia, none⟩ (.slice A7 (La + 1) c7) _ fun e => (hRd.out.not_map hMd.out).2 1 (by omega) (by rw [eO.out, e]; rfl)))
                  have hB8 : Hid (Below W0.heap.size W0 (w7.setCell ⟨gO, ia, none⟩ (.slice A7 (La + 1) c7))) := hB7.out.setCell (p := ⟨gO, ia, none⟩) lO _
                  clear k2 k3 k4
                  go_wp2_with fail
                  go_roundw
                  case rel => exact ⟨k + 1, _, _, by omega, by go_num, k1, hL2, hM7, hB8⟩
                  case measure => simp [intOf]; omega
          · obtain rfl : k = Q := by omega
            go_wp2_with fail
            go_ret
            have hLe := hLy.out
            rw [← hQ.out] at hLe
            obtain ⟨e1, e2⟩ := lay_end hLe
            refine ⟨⟨W0.heap.size, q, va2, s2, hb0.out.size, rfl, hR.out, ?_, e1, e2⟩, hb0.out.trans (hB.out.mono hb0.out.size)⟩
            have := hLe.inv
            rw [hn.out, hU.out] at this
            exact this
end Go.Proofs.YtkagmkejndjepaaDoor
