/-
  Free. Conditions: the term can be read, and has at most 4194304 terms.
-/
import Derived.Test.YthmchdpinobbgaaGreatDoorTmFreeI
import Derived.Test.YthmchdpinobbgaaGreatDoorTmBound
import Derived.Test.YthmchdpinobbgaaGreatDoorIter
namespace Go.Proofs.YthmchdpinobbgaaGreatDoor
open Go.RowKit Go.Shelf Go.Tm Go.Maps
attribute [local go_sem] Oper.semAt_some

set_option maxRecDepth 100000 in
set_option maxHeartbeats 4000000 in
theorem free_any (t : Go.Tm.T) (A : Option Addr) (c : Nat) (w : World) (hsz : t.size ≤ 4194304) (hT : TmV w (· < w.heap.size) t A c) :
    Calls Tryz.prog 14 #[tmV t A c] w fun e w' => ∃ v L, e = .returned v ∧ Names t L ∧ w'.ownsRow w.heap.size 9 1 v L.length (L.map .string) ∧ (v = .slice none 0 0 ↔ L = []) ∧ Below w.heap.size w w' := by
  unfold tmV
  have hmm := @run_makeMap Tryz.prog
  refine (callsIn_wide (n := 6)).1 ?_
  refine callsIn_of_wp_marks Tryz.func14 rfl trivial ?_ rfl
  simp only [Tryz.ntmps14, List.size_toArray, List.length_cons, List.length_nil, Nat.reduceAdd, Nat.reduceSub, Array.replicate_succ, Array.replicate_zero, List.push_toArray, List.append_toArray, List.nil_append, List.cons_append]
  gi_wp2
  refine ⟨trivial, ?_⟩
  refine (callsIn_wide.2 (places_any t A c _)).mono ?_
  rintro e w' ⟨rfl, rfl⟩
  clear hmm
  obtain ⟨W3, hW3⟩ : ∃ W3, (((((((w.alloc (.cells #[.int .i64 t.kind, .string t.name, .int .i64 t.num, .slice A t.kids.length c] 24)).alloc (.map #[] 0)).alloc (.cells #[.map (some (w.heap.size + 1))] 63)).alloc (.map #[] 0)).alloc (.cells #[.map (some (w.heap.size + 1 + 1 + 1))] 64)).alloc (.cells #[.slice none 0 0] 65)).alloc (.cells #[.int .i64 t.kind, .string t.name, .int .i64 t.num, .slice A t.kids.length c] 24)) = W3 := ⟨_, rfl⟩
  have hfold : [(.cells #[.int .i64 t.kind, .string t.name, .int .i64 t.num, .slice A t.kids.length c] 24), (.map #[] 0), (.cells #[.map (some (w.heap.size + 1))] 63), (.map #[] 0), (.cells #[.map (some (w.heap.size + 1 + 1 + 1))] 64), (.cells #[.slice none 0 0] 65), (.cells #[.int .i64 t.kind, .string t.name, .int .i64 t.num, .slice A t.kids.length c] 24)].foldl World.alloc w = W3 := hW3
  have hb3 : Below w.heap.size w W3 := by rw [← hfold]; exact (chain_below w _).1
  have hsz3 : W3.heap.size = w.heap.size + 7 := by rw [← hfold]; exact (chain_below w _).2
  have hg : ∀ i o, [(.cells #[.int .i64 t.kind, .string t.name, .int .i64 t.num, .slice A t.kids.length c] 24), (.map #[] 0), (.cells #[.map (some (w.heap.size + 1))] 63), (.map #[] 0), (.cells #[.map (some (w.heap.size + 1 + 1 + 1))] 64), (.cells #[.slice none 0 0] 65), (.cells #[.int .i64 t.kind, .string t.name, .int .i64 t.num, .slice A t.kids.length c] 24)][i]? = some o → W3.heap[w.heap.size + i]? = some o := fun i o h => by rw [← hfold]; exact chain_get w _ i o h
  have htb := hg 6 _ rfl
  have hfi : FI w W3.heap.size [] 0 [] [] W3 := ⟨Fr.start _ hb3 (by omega), hsz3, hg 2 _ rfl, hg 4 _ rfl, ⟨none, 0, hg 5 _ rfl, World.ownsRow_nil _ _ _ _, fun g e => by cases e⟩, made_of (hg 1 _ rfl), ⟨0, _, Nat.zero_le _, made_of (hg 3 _ rfl), fun s => rfl⟩, fun x hx => by cases hx⟩
  have hT3 := hT.below hb3
  simp only [World.size_alloc]
  rw [hW3]
  clear hW3 hT hfold hg
  gi_wp2
  refine wpIn_rangeV (n₀ := w.heap.size) (gf := 42) (lb := #[.pointer (some ⟨w.heap.size + 6, 0, none⟩)]) rfl (enters_of Tryz.func42 (by kernel_rfl) rfl)
    (places_seqIn 5 w.heap.size (w.heap.size + 6) t A c W3 hsz (by omega) htb hT3) (Below.refl _ _) (fun _ => rfl) (by omega) (PlIn.cells _)
    (fun pre T W => ∃ S, FI w W3.heap.size T pre.length S (runS ([], []) (pre.map Pl.p3)).2 W ∧ S.map b2 = (runS ([], []) (pre.map Pl.p3)).1)
    (fun _ _ _ => False)
    (fun pre T T' W W' h hc => by
      obtain ⟨S, h1, h2⟩ := h
      exact ⟨S, h1.calm hc, h2⟩)
    (fun _ _ _ _ _ _ h _ _ _ => h)
    ⟨[], hfi, rfl⟩
    (fun x a' W => ∃ b, PBox x b W ∧ W3.heap.size ≤ b ∧ NotIn w b W ∧ a' = { tmps := #[.agg #[.int .i64 t.kind, .string t.name, .int .i64 t.num, .slice A t.kids.length c], .pointer (some ⟨w.heap.size, 0, none⟩), .slice none 0 0, .pointer (some ⟨w.heap.size + 1 + 1, 0, none⟩), .pointer (some ⟨w.heap.size + 1 + 1 + 1 + 1, 0, none⟩), .pointer (some ⟨w.heap.size + 1 + 1 + 1 + 1 + 1, 0, none⟩), .pointer (some ⟨b, 0, none⟩), undef, undef, .map (some (w.heap.size + 1)), .map (some (w.heap.size + 1 + 1 + 1)), .agg #[.int .i64 t.kind, .string t.name, .int .i64 t.num, .slice A t.kids.length c], .func (.func 42) #[] #[.pointer (some ⟨w.heap.size + 1 + 1 + 1 + 1 + 1 + 1, 0, none⟩)], plV x, undef, undef, undef, undef, undef, undef, undef, undef, undef, undef, undef, undef, undef, undef, undef, undef, undef, undef, undef, undef, undef, undef, undef, undef, undef, undef, undef, undef, undef, undef, undef, undef, undef, undef, undef, undef, undef, undef, undef, undef, undef, undef, undef, undef, undef, undef, undef, undef, undef, undef, undef, undef, undef, undef, undef, undef, undef, undef, undef, undef, undef, undef, undef, undef, undef, undef, undef, undef, undef], defers := [] }) (fun x a' W l o o' ⟨b, h, h2, h3, e⟩ hl9 hl ho => ⟨b, h.putObj hl ho, h2, h3.same (World.putObj_heap_other (by omega)), e⟩) ?assign ?body ?done ?stop
  case assign =>
    intro l pre T x W K hI hV hK
    unfold plV
    gi_wp2
    obtain ⟨S, h1, h2⟩ := hI
    refine hK _ _ (later_alloc W _) ⟨S, h1.later (later_alloc W _), h2⟩ ⟨W.heap.size, World.alloc_heap_new W _, h1.fr.sz, ?_, ?_⟩
    · obtain ⟨a, cap, s1, s2, _⟩ := h1.sv
      intro a' n' cap' h9 h8
      rw [Below.heap_alloc W _ _ (World.lt_of_get s1), s1] at h9
      obtain ⟨rfl, rfl, rfl⟩ : a = a' ∧ S.length = n' ∧ cap = cap' := by simpa using h9
      obtain ⟨cur, hc, _⟩ := ownsRow_at s2 h8
      exact absurd (World.lt_of_get hc) (Nat.lt_irrefl _)
    · simp [plV]
  case stop =>
    rintro D cc pre W _ _ h _
    exact h.elim
  case done =>
    rintro D xs T W hD hS ⟨S, hI, hS2⟩ hK
    rw [hS] at hI
    have hF := run_root t (rootT t) rfl rfl
    obtain ⟨F, hFe⟩ : ∃ F, (runS ([], []) (walk (rootT t) 0 1 t)).2 = F := ⟨_, rfl⟩
    rw [hFe] at hI hF
    have hFl : F.length ≤ 4194304 := by
      have h1 := (runS_len (walk (rootT t) 0 1 t) ([], [])).2
      rw [hFe, walk_len] at h1
      simp at h1
      omega
    have hsize := hI.fm.size_le
    obtain ⟨hnd, hmem⟩ := free_keys hI.fm
    have c3 := cell_of_row W (w.heap.size + 2) 0 _ _ _ hI.fv
    have hown := hI.fm
    have hbW := hI.fr
    replace hsz3 := Lib.hid hsz3
    replace hI := Lib.hid hI
    replace hown := Lib.hid hown
    replace hbW := Lib.hid hbW
    replace hFe := Lib.hid hFe
    replace hS := Lib.hid hS
    replace hS2 := Lib.hid hS2
    have hmax : Maps.size (setOf uB (F.map keyL)) ≤ maxLen := by unfold maxLen; omega
    have hbytes : Maps.size (setOf uB (F.map keyL)) * 16 ≤ 140737488355328 := by omega
    gi_wp2
    refine ⟨trivial, ?_⟩
    refine (Tryz.maps_Keys_27 _ _).mono ?_
    rintro e w' ⟨rfl, rfl⟩
    gi_wp2
    refine ⟨trivial, ?_⟩
    refine (Tryz.slices_Sorted_keys_26_27 (w.heap.size + 1) F.length _ _ W hown.out hmax hbytes).mono ?_
    rintro e w' ⟨v, ss, rfl, hss, hrow, hnil, hb⟩
    have hDs : D < W.heap.size := World.lt_of_get hK
    have hbW' : Below W.heap.size W w' := (later_alloc W _).trans (hb.mono (by simp))
    have hK' := (hbW'.block D hDs).trans hK
    have hfin : Hid (∃ v2 L, Ending.returned v = .returned v2 ∧ Names t L ∧ (w'.putObj D (.deferred none)).ownsRow w.heap.size 9 1 v2 L.length (L.map .string) ∧ (v2 = .slice none 0 0 ↔ L = []) ∧ Below w.heap.size w (w'.putObj D (.deferred none))) := by
      have hBs := hbW.out.sz
      have hn0 := hbW.out.n0B
      have hlen : (ss.mergeSort (fun x y => decide (x ≤ y))).length = ss.length := List.length_mergeSort ss
      refine ⟨v, (ss.mergeSort (fun x y => decide (x ≤ y))).map fun x => (⟨x.toArray⟩ : ByteArray), rfl, names_of hF hnd hmem hss, ?_, ?_, ?_⟩
      · rw [List.length_map, hlen, List.map_map]
        refine ownsRow_base (ownsRow_same hrow fun g hg => World.putObj_heap_other fun e => ?_) (by simp; omega)
        obtain ⟨cur, hcur, hge⟩ := ownsRow_at hrow hg
        rw [World.size_alloc] at hge
        omega
      · rw [hnil, List.map_eq_nil_iff, ← List.length_eq_zero_iff, ← List.length_eq_zero_iff, hlen]
      · exact (hbW.out.below.trans (hbW'.mono (by omega))).trans ((Below.refl _ w').grown (grownBy_putObj' w' D _) (by have := hbW'.size; omega) (fun k e => by cases e; omega))
    clear hK hbW' hrow hnil hb hss c3 hmem hnd hF
    replace hK' := Lib.hid hK'
    gi_wp2
    refine ⟨by simp, .inl ⟨_, _, rfl, run_takeDeferred hK'.out, ?_⟩⟩
    obtain ⟨v2, L, h1, h2, h3, h4, h5⟩ := hfin.out
    cases h1
    exact ⟨_, results_tmp rfl _ _ _, v, L, rfl, h2, h3, h4, h5⟩
  case body =>
    rintro l pre T x a' W ⟨S, hI, hS⟩ hok ⟨b, hb, hbB, hnp, rfl⟩ hTl hsp
    obtain ⟨st, hst⟩ : ∃ st, runS ([], []) (pre.map Pl.p3) = st := ⟨_, rfl⟩
    rw [hst] at hI hS
    have hpre : pre.length + 1 ≤ 4194304 := by
      have h2 := hsp.length_le
      rw [walk_len, List.length_map, List.length_append, List.length_singleton] at h2
      omega
    have hSl : S.length ≤ 8388608 := by
      obtain ⟨n, D, m1, _⟩ := hI.bm
      omega
    obtain ⟨a0, cap0, s1, s2, s3⟩ := hI.sv
    have c5 := cell_of_row W (w.heap.size + 5) 0 _ _ _ s1
    have hwr : wrap64 ((S.length : Int) - 1) = (S.length : Int) - 1 := wrap64_small _ (by omega) (by omega)
    replace hI := Lib.hid hI
    replace hS := Lib.hid hS
    replace hst := Lib.hid hst
    replace s1 := Lib.hid s1
    replace s2 := Lib.hid s2
    replace hb := Lib.hid hb
    replace hnp := Lib.hid hnp
    replace hok := Lib.hid hok
    replace hsp := Lib.hid hsp
    clear s3 hfi htb hT3
    replace hsz3 := Lib.hid hsz3
    gi_wp2
    gi_loopw [7] (fun v wr => ∃ S1 : List Pl, v = .int .i64 ((S1.length : Int) - 1) ∧ Hid (FI w W3.heap.size T pre.length S1 st.2 wr ∧ pop x.depth (S1.map b2) = pop x.depth (S.map b2) ∧ Turn w W3.heap.size T W wr ∧ PBox x b wr ∧ NotIn w b wr)) (fun v _ => (intOf v + 1).toNat)
    case atStart => exact ⟨S, rfl, hI.out, rfl, Turn.refl _ _ _ _, hb.out, hnp.out⟩
    case round =>
      obtain ⟨S1, rfl, hL⟩ := hrel
      clear c5
      obtain ⟨hF, hp, hTu, hbx, hnp1⟩ := hL.out
      replace hnp1 := Lib.hid hnp1
      obtain ⟨a1, cap1, r1, r2, r3⟩ := hF.sv
      have hTl1 : ∀ k, k ∈ T → k < wr.heap.size := fun k hk => Nat.lt_of_lt_of_le (hTl k hk) hTu.below.size
      have hS1l : S1.length ≤ 8388608 := by
        obtain ⟨n, D, m1, _⟩ := hF.bm
        omega
      have d5 := cell_of_row wr (w.heap.size + 5) 0 _ _ _ r1
      have x0 := cell_of_row wr b 0 _ _ _ hbx
      have x1 := cell_of_row wr b 1 _ _ _ hbx
      have x2 := cell_of_row wr b 2 _ _ _ hbx
      have hcase : (∃ S' e, S1 = S' ++ [e] ∧ x.depth ≤ e.depth) ∨ pop x.depth (S1.map b2) = S1.map b2 := by
        rcases List.eq_nil_or_concat S1 with rfl | ⟨S', e, he⟩
        · exact .inr rfl
        · rw [List.concat_eq_append] at he
          subst he
          by_cases hd : x.depth ≤ e.depth
          · exact .inl ⟨S', e, rfl, hd⟩
          · refine .inr ?_
            rw [List.map_append, List.map_singleton, pop_snoc, if_neg (show ¬ x.depth ≤ (b2 e).2 from hd)]
      rcases hcase with ⟨S', e, rfl, hd⟩ | hstop
      · obtain ⟨g, rfl, hcap⟩ : ∃ g, a1 = some ⟨g, 0, none⟩ ∧ S'.length + 1 ≤ cap1 := by
          obtain ⟨_, h2 | ⟨g, cp, cur, hv, hbg, hg, q1, _⟩⟩ := r2
          · injection h2.1 with _ h3
            simp at h3
          · cases hv; exact ⟨g, rfl, by simpa using q1⟩
        obtain ⟨c0, c1, c2⟩ := own_get r2
        have hlen : (S' ++ [e]).length = S'.length + 1 := by simp
        have hv7 : ((S'.length + 1 : Nat) : Int) - 1 = (S'.length : Int) := by omega
        rw [hlen] at d5 hS1l ⊢
        rw [hv7]
        have g1 : decide ((x.depth : Int) ≤ (e.depth : Int)) = true := by rw [decide_eq_true_eq]; omega
        have g2 : (x.depth : Int) ≤ (e.depth : Int) := by omega
        replace hF := Lib.hid hF
        replace hp := Lib.hid hp
        replace hTu := Lib.hid hTu
        replace hbx := Lib.hid hbx
        replace r1 := Lib.hid r1
        replace r2 := Lib.hid r2
        replace hlen := Lib.hid hlen
        replace hv7 := Lib.hid hv7
        clear r3
        gi_wp2
        refine wpIn_round_quiet (by kernel_rfl) (by kernel_rfl) (by kernel_rfl) ?_
        repeat (gi_big_quiet_step (fail))
        refine wpQuietIn_nil ?_
        rintro _ ⟨nq, rfl⟩
        obtain ⟨m9, hm9⟩ : ∃ m9, cnt e.par.name (S'.map b2) = m9 := ⟨_, rfl⟩
        have hm8 : cnt e.par.name ((S' ++ [e]).map b2) = m9 + 1 := by
          rw [List.map_append, List.map_singleton, cnt_snoc, hm9]
          simp [b2]
        have hm7 : m9 ≤ 8388608 := by
          have := cnt_le e.par.name (S'.map b2)
          rw [List.length_map] at this
          omega
        have hwm : IntKind.i64.wrap (m9 : Int) = (m9 : Int) := wrap_small _ (by omega) (by omega)
        have hb7 : Below wr.heap.size wr (wr.drewN nq) := belowN (Below.refl _ wr) nq
        have hF7 := hF.out.later hb7
        have hTu7 := hTu.out.trans (Turn.call hF.out.fr hTl1 hb7)
        have hbx7 : PBox x b (wr.drewN nq) := hbx.out
        have hnp7 : NotIn w b (wr.drewN nq) := hnp1.out
        have hTl7 : ∀ k, k ∈ T → k < (wr.drewN nq).heap.size := hTl1
        obtain ⟨W7, hE7⟩ : ∃ W7, wr.drewN nq = W7 := ⟨_, rfl⟩
        rw [hE7] at hF7 hTu7 hbx7 hTl7 hnp7 ⊢
        replace hnp7 := Lib.hid hnp7
        clear hE7 hb7 hF hTu hbx hTl1 d5 x0 x1 x2 c0 c1 c2 hL r1 r2
        obtain ⟨a1, cap2, r1, r2, r3⟩ := hF7.sv
        obtain ⟨n1, D1, q1, q2, q3⟩ := hF7.bm
        obtain ⟨eA, ec, eh⟩ := (hF7.nd e (by simp)).1.hdr
        have e1 := eh.name
        have hkey := keyS eh.nsz
        obtain ⟨cv, hrun, hat, _⟩ := World.ownsMap.lookup_int (w := W7.drew) q2 lawS Tryz.underlying64 Tryz.underlying3 (zeroI _) hkey
        have hcv : cv = (m9 : Int) + 1 := by
          have h5 := (q3 e.par.name).symm.trans hat
          injection h5 with h5
          injection h5 with _ h5
          rw [← h5, hm8]; rfl
        subst hcv
        obtain ⟨g, rfl, hcap⟩ : ∃ g, a1 = some ⟨g, 0, none⟩ ∧ S'.length + 1 ≤ cap2 := by
          obtain ⟨_, h2 | ⟨g, cp, cur, hv, hbg, hg, q1, _⟩⟩ := r2
          · injection h2.1 with _ h3
            simp at h3
          · cases hv; exact ⟨g, rfl, by simpa using q1⟩
        obtain ⟨c0, c1, c2⟩ := own_get r2
        have d5 := cell_of_row W7 (w.heap.size + 5) 0 _ _ _ r1
        have b4 := cell_of_row W7 (w.heap.size + 4) 0 _ _ _ hF7.bv
        rw [hlen.out] at d5 q1
        obtain ⟨N, hN⟩ : ∃ N, S'.length + 1 = N := ⟨_, rfl⟩
        rw [hN] at d5
        have hltN : S'.length < N := by omega
        replace hF7 := Lib.hid hF7
        replace hTu7 := Lib.hid hTu7
        replace hbx7 := Lib.hid hbx7
        replace q2 := Lib.hid q2
        replace q3 := Lib.hid q3
        replace hat := Lib.hid hat
        replace hm8 := Lib.hid hm8
        replace hm9 := Lib.hid hm9
        replace eh := Lib.hid eh
        replace hkey := Lib.hid hkey
        replace r1 := Lib.hid r1
        replace r2 := Lib.hid r2
        replace hN := Lib.hid hN
        clear r3
        gi_wp2
        refine wpIn_round_still_tail 11 (by kernel_rfl) (by kernel_rfl) (by kernel_rfl) (fun ⟨_, _, h⟩ => h) ?_
        simp only [List.take_succ_cons, List.take_zero, List.drop_succ_cons, List.drop_zero]
        repeat still_step
        refine wpStill_nil ?_
        change wpList _ _ _ _ _ W7.drew
        have hown : W7.drew.ownsMap Tryz.prog 9 (plainElem Tryz.prog 3) (w.heap.size + 3) n1 D1 := q2.out
        replace hown := Lib.hid hown
        have hn1 : n1 < maxLen := by unfold maxLen; omega
        refine wpList_mapUpdate_own _ rfl _ _ _ 64 rfl 9 3 lawS Tryz.underlying64 _ (w.heap.size + 3) n1 D1 rfl hown.out hn1 (.string e.par.name) (.int .i64 m9) _ rfl rfl hkey.out _ [] (plainElem_int Tryz.underlying3 (WalkArith.wf_i64 (by omega))) ?_
        intro w1 hown1 hgrow1
        refine wpList_nil ?_
        -- region 10: the list is cut
        have hown2 : Hid (w1.ownsMap Tryz.prog 9 (plainElem Tryz.prog 3) (w.heap.size + 3) (n1 + 1) (D1.put (keyL e.par.name) (.lit (.int .i64 m9)))) := hown1
        have hgr : W7.grownBy w1 (some (w.heap.size + 3)) := ⟨hgrow1.os, hgrow1.tape, hgrow1.output, hgrow1.size, hgrow1.block⟩
        clear hown1 hgrow1
        have hsz3b := hsz3.out
        have hbw := hF7.out.fr.n0B
        have hbsz := hF7.out.fr.sz
        have v5 := (hgr.block _ (World.lt_of_get r1.out) (by simp)).trans r1.out
        have d6 := cell_of_row w1 (w.heap.size + 5) 0 _ _ _ v5
        have f6 : w1.frozen? ⟨w.heap.size + 5, 0, none⟩ = false := frozen_of_row v5 0
        rw [hlen.out, hN.out] at d6
        have hcapN : N ≤ cap2 := by rw [← hN.out]; exact hcap
        replace hgr := Lib.hid hgr
        replace v5 := Lib.hid v5
        clear d5 b4 c0 c1 c2 e1 hrun hown
        replace hsz3b := Lib.hid hsz3b
        gi_wp2
        go_roundw
        case rel =>
          obtain ⟨u1, u2⟩ := hF7.out.popped hTl7 r1.out hgr.out hown2.out (by omega) (Counts.put q2.out.isMap q3.out (by rw [hm9.out]) (fun s' hs' => by
            rw [List.map_append, List.map_singleton, cnt_snoc, if_neg (fun h9 => hs' (of_decide_eq_true h9).symm)]; rfl))
          refine ⟨S', rfl, u1, ?_, hTu7.out.trans u2, ?_, ?_⟩
          · rw [← hp.out, List.map_append, List.map_singleton, pop_snoc, if_pos (show x.depth ≤ (b2 e).2 from hd)]
          · exact (Below.heap_setCell _ _ _ _ (by simp; have := hsz3b.out; omega)).trans ((hgr.out.block _ (World.lt_of_get hbx7.out) (by simp; have := hsz3b.out; omega)).trans hbx7.out)
          · intro a' n' cap' h9 h8
            rw [show (w1.setCell _ _).heap[w.heap.size + 5]? = _ from heap_setCell_same w1 (w.heap.size + 5) 0 _ _ (.slice (some ⟨g, 0, none⟩) S'.length cap2) v5.out] at h9
            obtain ⟨rfl, rfl, rfl⟩ : some (⟨g, 0, none⟩ : Addr) = a' ∧ S'.length = n' ∧ cap2 = cap' := by simpa using h9
            exact hnp7.out _ _ _ r1.out h8
        case measure => simp [intOf]
      · -- the loop is left
        obtain ⟨xb, xo, xp, xk, xd⟩ := x
        have hsp9 := hsp.out
        have hok9 := hok.out
        have hTl9 : ∀ nq, ∀ k, k ∈ T → k < (wr.drewN nq).heap.size := fun _ => hTl1
        have hgo : Hid (∀ nq, FI w W3.heap.size T pre.length S1 st.2 (wr.drewN nq) ∧ Turn w W3.heap.size T W (wr.drewN nq)) := fun nq => by
          have hb7 : Below wr.heap.size wr (wr.drewN nq) := belowN (Below.refl _ wr) nq
          exact ⟨hF.later hb7, hTu.trans (Turn.call hF.fr hTl1 hb7)⟩
        have hkl : xp.kids.length ≤ 4294967296 := by
          obtain ⟨r, hr⟩ := hsp9
          have hm : (xp, xk, xd) ∈ walk (rootT t) 0 1 t := by rw [← hr]; simp [Pl.p3]
          rcases walk_par t (rootT t) 0 1 _ hm with h2 | h2
          · have h3 : xp = rootT t := h2
            have h1 := kids_le (rootT t)
            rw [rootT_size] at h1
            rw [h3]; omega
          · have h3 : xp.size ≤ t.size := h2
            have h1 := kids_le xp
            omega
        have hstk : Hid (stack st.1 (xp, xk, xd) = S1.map b2 ++ if lastB (xp, xk, xd) then [(xp.name, xd)] else []) := by
          show _ = _
          show pop xd st.1 ++ _ = _
          rw [← hS.out, ← hp, hstop]
        replace hF := Lib.hid hF
        replace hp := Lib.hid hp
        replace hTu := Lib.hid hTu
        replace hbx := Lib.hid hbx
        replace r1 := Lib.hid r1
        replace r2 := Lib.hid r2
        replace hstop := Lib.hid hstop
        replace hsp9 := Lib.hid hsp9
        replace hok9 := Lib.hid hok9
        clear r3 hL
        rcases List.eq_nil_or_concat S1 with hnil | ⟨S', e, he⟩
        case' inl =>
          have hl0 : (S1.length : Int) - 1 = -1 := by rw [hnil]; rfl
          rw [hl0]
          replace hnil := Lib.hid hnil
          replace hl0 := Lib.hid hl0
          gi_wp2
          refine wpIn_round_quiet (by kernel_rfl) (by kernel_rfl) (by kernel_rfl) ?_
          repeat (gi_big_quiet_step (fail))
          refine wpQuietIn_nil ?_
          rintro _ ⟨nq, rfl⟩
          gi_wp2
        case' inr =>
          rw [List.concat_eq_append] at he
          have hd : ¬ xd ≤ e.depth := fun hd => by
            have h1 := hstop.out
            rw [he, List.map_append, List.map_singleton, pop_snoc, if_pos (show xd ≤ (b2 e).2 from hd)] at h1
            have h2 := pop_len xd (S'.map b2)
            rw [h1] at h2
            simp at h2
            omega
          have r3 := r2.out
          rw [he] at r3
          obtain ⟨g, rfl, hcap⟩ : ∃ g, a1 = some ⟨g, 0, none⟩ ∧ S'.length + 1 ≤ cap1 := by
            obtain ⟨_, h2 | ⟨g, cp, cur, hv, hbg, hg, q1, _⟩⟩ := r3
            · injection h2.1 with _ h3
              simp at h3
            · cases hv; exact ⟨g, rfl, by simpa using q1⟩
          obtain ⟨c0, c1, c2⟩ := own_get r3
          have hlen : S1.length = S'.length + 1 := by rw [he]; simp
          have hv7 : ((S'.length + 1 : Nat) : Int) - 1 = (S'.length : Int) := by omega
          rw [hlen] at d5 ⊢
          rw [hv7]
          have g1 : decide ((xd : Int) ≤ (e.depth : Int)) = false := by rw [decide_eq_false_iff_not]; omega
          have g2 : ¬ (xd : Int) ≤ (e.depth : Int) := by omega
          replace hlen := Lib.hid hlen
          replace hv7 := Lib.hid hv7
          replace he := Lib.hid he
          replace r3 := Lib.hid r3
          gi_wp2
          refine wpIn_round_quiet (by kernel_rfl) (by kernel_rfl) (by kernel_rfl) ?_
          repeat (gi_big_quiet_step (fail))
          refine wpQuietIn_nil ?_
          rintro _ ⟨nq, rfl⟩
          gi_wp2
          clear c0 c1 c2 r3
        all_goals
          obtain ⟨hF7, hTu7⟩ := hgo.out nq
          have hTl7 := hTl9 nq
          have hbx7 : PBox ⟨xb, xo, xp, xk, xd⟩ b (wr.drewN nq) := hbx.out
          have hnp7 : NotIn w b (wr.drewN nq) := hnp1.out
          have hx7 : PlIn w.heap.size ⟨xb, xo, xp, xk, xd⟩ (wr.drewN nq) := ⟨NodeAt.stay (fun b hb => hTu7.below.block b hb) hTu7.node hok9.out.1, hok9.out.2⟩
          clear d5 x0 x1 x2 hTl1 hTu hbx hF hgo hTl9 r1 r2
          obtain ⟨W7, hE7⟩ : ∃ W7, wr.drewN nq = W7 := ⟨_, rfl⟩
          rw [hE7] at hF7 hTu7 hTl7 hbx7 hx7 hnp7 ⊢
          clear hE7
          obtain ⟨A7, c7, hh7⟩ := (hx7.1.wide (q := anyB) (fun _ _ => trivial)).hdr
          refine ⟨trivial, ?_⟩
          refine CallsIn.inRound l ((callsIn_wide.2 (bound_any xb xo xk xd xp A7 c7 W7 hh7 hkl)).mono ?_)
          rintro e9 W8 ⟨rfl, hb8⟩
          have hF8 := hF7.later hb8
          have hTu8 := hTu7.trans (Turn.call hF7.fr hTl7 hb8)
          have hTl8 : ∀ k, k ∈ T → k < W8.heap.size := fun k hk => Nat.lt_of_lt_of_le (hTl7 k hk) hb8.size
          have hbx8 : PBox ⟨xb, xo, xp, xk, xd⟩ b W8 := (hb8.block _ (World.lt_of_get hbx7)).trans hbx7
          have hnp8 : Hid (NotIn w b W8) := by
            obtain ⟨_, _, h1, _⟩ := hF7.sv
            exact hnp7.same (hb8.block _ (World.lt_of_get h1))
          have hx8 : PlIn w.heap.size ⟨xb, xo, xp, xk, xd⟩ W8 := ⟨NodeAt.stay (fun b hb => hTu8.below.block b hb) hTu8.node hok9.out.1, hok9.out.2⟩
          have hbl : boundB xp xk = lastB (xp, xk, xd) := by
            unfold boundB lastB
            show (((xk : Int) == (xp.kids.length : Int) - 1) && bindK xp.kind) = ((xk + 1 == xp.kids.length) && bindK xp.kind)
            congr 1
            rw [Bool.eq_iff_iff, beq_iff_eq, beq_iff_eq]
            omega
          rw [hbl]
          clear hbl hh7 hb8 hF7 hTu7 hTl7 hbx7 hx7 hnp7
          have hst0 := hstk.out
          cases hlb : lastB (xp, xk, xd)
          case' true =>
            rw [hlb, if_pos rfl] at hst0
            obtain ⟨m9, hm9⟩ : ∃ m9, cnt xp.name (S1.map b2) = m9 := ⟨_, rfl⟩
            have hm7 : m9 ≤ 8388608 := by
              have := cnt_le xp.name (S1.map b2)
              rw [List.length_map] at this
              omega
            have hwm : IntKind.i64.wrap ((m9 : Int) + 1) = (m9 : Int) + 1 := wrap_small _ (by omega) (by omega)
            obtain ⟨n1, D1, q1, q2, q3⟩ := hF8.bm
            obtain ⟨xA, xc, xh⟩ := hx8.1.hdr
            have e1 := xh.name
            have hkey := keyS xh.nsz
            obtain ⟨cv, hrun, hat, _⟩ := World.ownsMap.lookup_int (w := W8.drew) q2 lawS Tryz.underlying64 Tryz.underlying3 (zeroI _) hkey
            have hcv : cv = (m9 : Int) := by
              have h5 := (q3 xp.name).symm.trans hat
              injection h5 with h5
              injection h5 with _ h5
              rw [← h5, hm9]
            subst hcv
            obtain ⟨a1, cap2, r1, r2, r3⟩ := hF8.sv
            have x0 := cell_of_row W8 b 0 _ _ _ hbx8
            have b4 := cell_of_row W8 (w.heap.size + 4) 0 _ _ _ hF8.bv
            obtain ⟨N, hN⟩ : ∃ N, S1.length = N := ⟨_, rfl⟩
            have hN9 : N ≤ 8388608 := by omega
            replace hF8 := Lib.hid hF8
            replace hTu8 := Lib.hid hTu8
            replace hbx8 := Lib.hid hbx8
            replace hx8 := Lib.hid hx8
            replace q2 := Lib.hid q2
            replace q3 := Lib.hid q3
            replace hat := Lib.hid hat
            replace hm9 := Lib.hid hm9
            replace xh := Lib.hid xh
            replace hkey := Lib.hid hkey
            replace r1 := Lib.hid r1
            replace r2 := Lib.hid r2
            replace hst0 := Lib.hid hst0
            replace hlb := Lib.hid hlb
            replace hN := Lib.hid hN
            clear r3
            gi_wp2
            refine wpIn_round_still_tail 8 (by kernel_rfl) (by kernel_rfl) (by kernel_rfl) (fun ⟨_, _, h⟩ => h) ?_
            simp only [List.take_succ_cons, List.take_zero, List.drop_succ_cons, List.drop_zero]
            repeat still_step
            refine wpStill_nil ?_
            change wpList _ _ _ _ _ W8.drew
            have hown : W8.drew.ownsMap Tryz.prog 9 (plainElem Tryz.prog 3) (w.heap.size + 3) n1 D1 := q2.out
            have hn1 : n1 < maxLen := by unfold maxLen; omega
            refine wpList_mapUpdate_own _ rfl _ _ _ 64 rfl 9 3 lawS Tryz.underlying64 _ (w.heap.size + 3) n1 D1 rfl hown hn1 (.string xp.name) (.int .i64 ((m9 : Int) + 1)) _ rfl rfl hkey.out _ [] (plainElem_int Tryz.underlying3 (WalkArith.wf_i64 (by omega))) ?_
            intro w1 hown1 hgrow1
            refine wpList_nil ?_
            have hown2 : Hid (w1.ownsMap Tryz.prog 9 (plainElem Tryz.prog 3) (w.heap.size + 3) (n1 + 1) (D1.put (keyL xp.name) (.lit (.int .i64 ((m9 : Int) + 1))))) := hown1
            have hgr : W8.grownBy w1 (some (w.heap.size + 3)) := ⟨hgrow1.os, hgrow1.tape, hgrow1.output, hgrow1.size, hgrow1.block⟩
            clear hown1 hgrow1 x0 b4 e1 hrun hown
            have hB7 := hsz3.out
            have v5 := (hgr.block _ (World.lt_of_get r1.out) (by simp)).trans r1.out
            have d5 := cell_of_row w1 (w.heap.size + 5) 0 _ _ _ v5
            rw [hN.out] at d5
            have hbx1 : PBox ⟨xb, xo, xp, xk, xd⟩ b w1 := (hgr.block _ (World.lt_of_get hbx8.out) (by simp; omega)).trans hbx8.out
            have x0 := cell_of_row w1 b 0 _ _ _ hbx1
            have x1 := cell_of_row w1 b 1 _ _ _ hbx1
            have x2 := cell_of_row w1 b 2 _ _ _ hbx1
            obtain ⟨W9, hE9⟩ : ∃ W9, w1.alloc (.cells #[.pointer (some ⟨xb, xo, none⟩), .int .i64 xk, .int .i64 xd] 60) = W9 := ⟨_, rfl⟩
            have hb9 : Below w1.heap.size w1 W9 := by rw [← hE9]; exact later_alloc w1 _
            have own9 : W9.ownsRow W3.heap.size 60 3 (.slice a1 N cap2) N (cellsP S1) := by
              rw [← hN.out]
              exact ownsRow_same r2.out fun g hg => by
                obtain ⟨cur, hcur, hBg⟩ := ownsRow_at r2.out hg
                have hgl := World.lt_of_get hcur
                exact (hb9.block g (Nat.lt_of_lt_of_le hgl hgr.size)).trans (hgr.block g hgl (by simp; omega))
            have hnew : ∀ (j : Nat) (u : Value), (plC ⟨xb, xo, xp, xk, xd⟩)[j]? = some u → W9.cell? ((⟨w1.heap.size, 0, none⟩ : Addr).add j) = some u := by
              rw [← hE9]; exact cells_newL w1 (plC ⟨xb, xo, xp, xk, xd⟩) 60
            have hbase9 : W3.heap.size ≤ W9.heap.size := by
              have := hF8.out.fr.sz
              have := hgr.size
              have := hb9.size
              omega
            obtain ⟨i0, hi, hi2⟩ := Option.map_eq_some_iff.1 info_place
            obtain ⟨hz0, hz1, hz2⟩ : i0.zero = some (.agg #[.pointer none, .int .i64 0, .int .i64 0]) ∧ i0.size = 3 ∧ i0.bytes = 24 := by
              injection hi2 with h1 h2; injection h2 with h2 h3; exact ⟨h1, h2, h3⟩
            clear hi2
            have hend : Hid (∀ v5 w5, w5.ownsRow W3.heap.size 60 3 v5 (N + 1) (cellsP S1 ++ plC ⟨xb, xo, xp, xk, xd⟩) → W9.grownBy w5 (Value.ownBlock (.slice a1 N cap2)) → (v5.ownBlock = Value.ownBlock (.slice a1 N cap2) ∨ v5.ownBlock = some W9.heap.size) →
                ∃ g5 cap5, v5 = .slice (some ⟨g5, 0, none⟩) (N + 1) cap5 ∧ (w5.cell? ⟨w.heap.size + 5, 0, none⟩ = some (.slice a1 N cap2) ∧ w5.frozen? ⟨w.heap.size + 5, 0, none⟩ = false) ∧
                Hid (∃ S2, FI w W3.heap.size T (pre.length + 1) S2 st.2 (w5.setCell ⟨w.heap.size + 5, 0, none⟩ v5) ∧ Turn w W3.heap.size T W (w5.setCell ⟨w.heap.size + 5, 0, none⟩ v5) ∧ PBox ⟨xb, xo, xp, xk, xd⟩ b (w5.setCell ⟨w.heap.size + 5, 0, none⟩ v5) ∧ S2.map b2 = stack st.1 (xp, xk, xd))) := fun v5' w5 h1 h2 h3 => by
              obtain ⟨g5, cap5, hv5⟩ : ∃ g5 cap5, v5' = .slice (some ⟨g5, 0, none⟩) (N + 1) cap5 := by
                obtain ⟨_, h9 | ⟨g, cp, cur, hv, _⟩⟩ := h1
                · exact absurd h9.2 (by omega)
                · exact ⟨g, cp, hv⟩
              rw [← hE9] at h2 h3
              obtain ⟨j1, j2, j3⟩ := hF8.out.pushed hTl8 hx8.out hN.out.symm r1.out hgr hown2.out (by omega) (Counts.put q2.out.isMap q3.out (by rw [List.map_append, List.map_singleton, cnt_snoc, hm9.out]; simp [b2]) (fun s' hs' => by
                rw [List.map_append, List.map_singleton, cnt_snoc, if_neg (fun h9 => hs' (of_decide_eq_true h9).symm)]; rfl)) h1 h2 h3
              have hbw5 : w5.heap[b]? = w1.heap[b]? := (h2.block b (by have := World.lt_of_get hbx1; simp; omega) (fun e9 => by
                rw [← hN.out] at e9
                exact hnp8.out _ _ _ r1.out e9.symm)).trans (Below.heap_alloc _ _ _ (World.lt_of_get hbx1))
              exact ⟨g5, cap5, hv5, ⟨cell_of_row w5 (w.heap.size + 5) 0 _ _ _ j1, frozen_of_row j1 0⟩, _, j2, hTu8.out.trans j3, (Below.heap_setCell _ _ _ _ (by simp; omega)).trans (hbw5.trans hbx1), by rw [hst0.out, List.map_append]; rfl⟩
            have hcel : Hid (∀ (w5 : World) (v5 : Value), Hid (∃ S2, FI w W3.heap.size T (pre.length + 1) S2 st.2 (w5.setCell ⟨w.heap.size + 5, 0, none⟩ v5) ∧ Turn w W3.heap.size T W (w5.setCell ⟨w.heap.size + 5, 0, none⟩ v5) ∧ PBox ⟨xb, xo, xp, xk, xd⟩ b (w5.setCell ⟨w.heap.size + 5, 0, none⟩ v5) ∧ S2.map b2 = stack st.1 (xp, xk, xd)) →
                (w5.setCell ⟨w.heap.size + 1 + 1 + 1 + 1 + 1, 0, none⟩ v5).cell? ⟨b, 0, none⟩ = some (.pointer (some ⟨xb, xo, none⟩)) ∧ (w5.setCell ⟨w.heap.size + 1 + 1 + 1 + 1 + 1, 0, none⟩ v5).cell? ⟨b, 1, none⟩ = some (.int .i64 xk) ∧ (w5.setCell ⟨w.heap.size + 1 + 1 + 1 + 1 + 1, 0, none⟩ v5).cell? ⟨b, 2, none⟩ = some (.int .i64 xd)) := fun w5 v5 h => by
              obtain ⟨_, _, _, h1, _⟩ := h.out
              exact ⟨cell_of_row _ b 0 _ _ _ h1, cell_of_row _ b 1 _ _ _ h1, cell_of_row _ b 2 _ _ _ h1⟩
            replace hgr := Lib.hid hgr
            replace v5 := Lib.hid v5
            replace hbx1 := Lib.hid hbx1
            replace hE9 := Lib.hid hE9
            replace hb9 := Lib.hid hb9
            replace own9 := Lib.hid own9
            replace hnew := Lib.hid hnew
            replace hi := Lib.hid hi
            replace hz0 := Lib.hid hz0
            replace hz1 := Lib.hid hz1
            replace hz2 := Lib.hid hz2
            replace hB7 := Lib.hid hB7
            gi_wp2_with (gi_at_builtin; rw [hE9.out]; refine wpListIn_append_own_at _ rfl _ _ 65 rfl W3.heap.size 60 i0 (.agg #[.pointer none, .int .i64 0, .int .i64 0]) 3 24 Tryz.underlying65 hi.out hz0.out hz1.out hz2.out rfl (by decide) _ _ _ rfl own9.out ⟨w1.heap.size, 0, none⟩ 1 1 (plC ⟨xb, xo, xp, xk, xd⟩) rfl rfl hnew.out (plC_one _) (by unfold maxLen; omega) (by omega) hbase9 ?_; intro v6 w5 hown5 hgrow5 _ hat5; obtain ⟨g5, cap5, rfl, ⟨u1, u2⟩, u3⟩ := hend.out v6 w5 hown5 hgrow5 hat5; obtain ⟨y0, y1, y2⟩ := hcel.out _ _ u3; clear hown5 hgrow5 hat5)
          case' false =>
            rw [hlb] at hst0
            have u3 : Hid (∃ S2, FI w W3.heap.size T (pre.length + 1) S2 st.2 W8 ∧ Turn w W3.heap.size T W W8 ∧ PBox ⟨xb, xo, xp, xk, xd⟩ b W8 ∧ S2.map b2 = stack st.1 (xp, xk, xd)) := ⟨S1, hF8.next, hTu8, hbx8, by rw [hst0]; simp⟩
            have y0 := cell_of_row W8 b 0 _ _ _ hbx8
            have y1 := cell_of_row W8 b 1 _ _ _ hbx8
            have y2 := cell_of_row W8 b 2 _ _ _ hbx8
            replace hF8 := Lib.hid hF8
            replace hTu8 := Lib.hid hTu8
            replace hbx8 := Lib.hid hbx8
            replace hx8 := Lib.hid hx8
            replace hst0 := Lib.hid hst0
            replace hlb := Lib.hid hlb
            gi_wp2
          all_goals
            obtain ⟨S2, hF9, hTu9, hbx9, hst9⟩ := u3.out
            have hTl9 := fun k (hk : k ∈ T) => Nat.lt_of_lt_of_le (hTl k hk) hTu9.below.size
            have hx9 := NodeAt.stay (fun b hb => hTu9.below.block b hb) hTu9.node hok9.out.1
            obtain ⟨xA9, xc9, xh9⟩ := hx9.hdr
            obtain ⟨kb, ko, rfl, hkid⟩ := xh9.row xk hok9.out.2
            refine ⟨trivial, ?_⟩
            refine CallsIn.inRound l ((callsIn_wide.2 (term_any xb xo xk xd xp.kids.length kb ko xc9 _ xh9.kids hok9.out.2)).mono ?_)
            clear y0 y1 y2
            rintro e10 W10 ⟨rfl, hb10⟩
            have hF10 := hF9.later hb10
            have hTu10 := hTu9.trans (Turn.call hF9.fr hTl9 hb10)
            have hTl10 : ∀ k, k ∈ T → k < W10.heap.size := fun k hk => Nat.lt_of_lt_of_le (hTl9 k hk) hb10.size
            obtain ⟨y, hy⟩ : ∃ y, xp.kids.getD xk default = y := ⟨_, rfl⟩
            rw [show (⟨xb, xo, xp, xk, xd⟩ : Pl).par.kids.getD xk default = y from hy] at hkid
            obtain ⟨_, _, yh⟩ := (NodeAt.after hb10 (hkid.wide (q := anyB) fun _ _ => trivial)).hdr
            have k0 := yh.kind
            have k1 := yh.name
            have hkey := keyS yh.nsz
            have hfin : Hid (∀ W' F', FI w W3.heap.size T (pre.length + 1) S2 F' W' → Turn w W3.heap.size T W W' → F' = (if y.kind == 2 && cnt y.name (S2.map b2) == 0 then st.2 ++ [y.name] else st.2) →
                (KeepsFrom W3.heap.size W W' ∧ KeepT T W W' ∧ Below w.heap.size W W' ∧ ∃ S, FI w W3.heap.size T (pre ++ [(⟨xb, xo, xp, xk, xd⟩ : Pl)]).length S (runS ([], []) ((pre ++ [(⟨xb, xo, xp, xk, xd⟩ : Pl)]).map Pl.p3)).2 W' ∧ S.map b2 = (runS ([], []) ((pre ++ [(⟨xb, xo, xp, xk, xd⟩ : Pl)]).map Pl.p3)).1)) := fun W' F' h1 h2 h3 => by
              have hr : runS ([], []) ((pre ++ [(⟨xb, xo, xp, xk, xd⟩ : Pl)]).map Pl.p3) = Go.Tm.step st (xp, xk, xd) := by
                rw [List.map_append, List.map_singleton, runS_snoc, hst.out]; rfl
              refine ⟨h2.keeps, h2.keepT, h2.below, S2, ?_, by rw [hr]; exact hst9⟩
              rw [hr, List.length_append, List.length_singleton]
              have h4 : (Go.Tm.step st (xp, xk, xd)).2 = F' := by
                rw [h3, hst9, ← hy]; rfl
              rw [h4]
              exact h1
            clear xh9 hx9 hkid yh hF9 hTu9 hTl9 hbx9 u3 hb10
            replace hF10 := Lib.hid hF10
            replace hTu10 := Lib.hid hTu10
            replace hst9 := Lib.hid hst9
            replace hkey := Lib.hid hkey
            replace hy := Lib.hid hy
            by_cases hk2 : y.kind = 2
            case neg =>
              have hk3 : decide (y.kind = 2) = false := decide_eq_false hk2
              have hk4 : (y.kind == 2) = false := by simpa using hk2
              have hf9 : Hid (∀ nq2, KeepsFrom W3.heap.size W (W10.drewN nq2) ∧ KeepT T W (W10.drewN nq2) ∧ Below w.heap.size W (W10.drewN nq2) ∧ ∃ S, FI w W3.heap.size T (pre ++ [(⟨xb, xo, xp, xk, xd⟩ : Pl)]).length S (runS ([], []) ((pre ++ [(⟨xb, xo, xp, xk, xd⟩ : Pl)]).map Pl.p3)).2 (W10.drewN nq2) ∧ S.map b2 = (runS ([], []) ((pre ++ [(⟨xb, xo, xp, xk, xd⟩ : Pl)]).map Pl.p3)).1) := fun nq2 => by
                have hbq : Below W10.heap.size W10 (W10.drewN nq2) := belowN (Below.refl _ W10) nq2
                exact hfin.out _ _ (hF10.out.later hbq) (hTu10.out.trans (Turn.call hF10.out.fr hTl10 hbq)) (by rw [hk4]; rfl)
              gi_wp2
              refine wpIn_round_quiet (by kernel_rfl) (by kernel_rfl) (by kernel_rfl) ?_
              repeat (gi_big_quiet_step (fail))
              refine wpQuietIn_nil ?_
              rintro _ ⟨nq2, rfl⟩
              gi_wp2
              exact hf9.out nq2
            case pos =>
              rw [hk2] at k0
              have hk4 : (y.kind == 2) = true := by rw [hk2]; rfl
              obtain ⟨n2, D2, q4, q5, q6⟩ := hF10.out.bm
              have hrun : ∀ nq2, (Instr.lookup 64 (.map (some (w.heap.size + 3))) (.string y.name) false).run Tryz.prog (W10.drewN nq2) = .ok (.int .i64 (cnt y.name (S2.map b2) : Nat)) (W10.drewN nq2) := fun nq2 => by
                obtain ⟨cv, h1, h2, _⟩ := World.ownsMap.lookup_int (w := W10.drewN nq2) q5 lawS Tryz.underlying64 Tryz.underlying3 (zeroI _) hkey.out
                have h5 := (q6 y.name).symm.trans h2
                injection h5 with h5
                injection h5 with _ h5
                rw [h5]; exact h1
              have b4 := cell_of_row W10 (w.heap.size + 4) 0 _ _ _ hF10.out.bv
              replace q5 := Lib.hid q5
              replace q6 := Lib.hid q6
              cases hm : cnt y.name (S2.map b2) with
              | succ m =>
                rw [hm] at hrun
                obtain ⟨z, hz⟩ : ∃ z : Int, z = ((m + 1 : Nat) : Int) := ⟨_, rfl⟩
                rw [← hz] at hrun
                have hz1 : ¬ z = 0 := by omega
                have hm0 : (z == 0) = false := by rw [beq_eq_false_iff_ne]; exact hz1
                have hm2 : decide (z = 0) = false := decide_eq_false hz1
                have hf9 : Hid (∀ nq2, KeepsFrom W3.heap.size W (W10.drewN nq2) ∧ KeepT T W (W10.drewN nq2) ∧ Below w.heap.size W (W10.drewN nq2) ∧ ∃ S, FI w W3.heap.size T (pre ++ [(⟨xb, xo, xp, xk, xd⟩ : Pl)]).length S (runS ([], []) ((pre ++ [(⟨xb, xo, xp, xk, xd⟩ : Pl)]).map Pl.p3)).2 (W10.drewN nq2) ∧ S.map b2 = (runS ([], []) ((pre ++ [(⟨xb, xo, xp, xk, xd⟩ : Pl)]).map Pl.p3)).1) := fun nq2 => by
                  have hbq : Below W10.heap.size W10 (W10.drewN nq2) := belowN (Below.refl _ W10) nq2
                  exact hfin.out _ _ (hF10.out.later hbq) (hTu10.out.trans (Turn.call hF10.out.fr hTl10 hbq)) (by rw [hm, hk4]; rfl)
                replace hz := Lib.hid hz
                replace hm := Lib.hid hm
                replace hk2 := Lib.hid hk2
                gi_wp2
                refine wpIn_round_quiet (by kernel_rfl) (by kernel_rfl) (by kernel_rfl) ?_
                repeat (gi_big_quiet_step (fail))
                refine wpQuietIn_nil ?_
                rintro _ ⟨nq2, rfl⟩
                gi_wp2
                exact hf9.out nq2
              | zero =>
                rw [hm] at hrun
                have hrun0 : ∀ nq2, (Instr.lookup 64 (.map (some (w.heap.size + 3))) (.string y.name) false).run Tryz.prog (W10.drewN nq2) = .ok (.int .i64 0) (W10.drewN nq2) := hrun
                clear hrun
                replace hm := Lib.hid hm
                replace hk2 := Lib.hid hk2
                gi_wp2
                refine wpIn_round_quiet (by kernel_rfl) (by kernel_rfl) (by kernel_rfl) ?_
                repeat (gi_big_quiet_step (fail))
                refine wpQuietIn_nil ?_
                rintro _ ⟨nq2, rfl⟩
                have hbq : Below W10.heap.size W10 (W10.drewN nq2) := belowN (Below.refl _ W10) nq2
                have hF11 := hF10.out.later hbq
                have hTu11 := hTu10.out.trans (Turn.call hF10.out.fr hTl10 hbq)
                have hTl11 : ∀ k, k ∈ T → k < (W10.drewN nq2).heap.size := hTl10
                have k2 : (W10.drewN nq2).cell? ⟨kb, ko + xk * 4 + 1, none⟩ = some (.string y.name) := k1
                clear hbq hrun0 b4 k0 k1 hTl10
                obtain ⟨W11, hE11⟩ : ∃ W11, W10.drewN nq2 = W11 := ⟨_, rfl⟩
                rw [hE11] at hF11 hTu11 hTl11 k2 ⊢
                clear hE11
                have b3 := cell_of_row W11 (w.heap.size + 2) 0 _ _ _ hF11.fv
                have hown : W11.drew.ownsMap Tryz.prog 9 (plainElem Tryz.prog 4) (w.heap.size + 1) st.2.length (setOf uB (st.2.map keyL)) := hF11.fm
                have hn1 : st.2.length < maxLen := by
                  have h1 := (runS_len (pre.map Pl.p3) ([], [])).2
                  rw [hst.out, List.length_map] at h1
                  simp at h1
                  unfold maxLen; omega
                replace hF11 := Lib.hid hF11
                replace hTu11 := Lib.hid hTu11
                replace hown := Lib.hid hown
                gi_wp2
                refine wpIn_round_still_tail 5 (by kernel_rfl) (by kernel_rfl) (by kernel_rfl) (fun ⟨_, _, h⟩ => h) ?_
                simp only [List.take_succ_cons, List.take_zero, List.drop_succ_cons, List.drop_zero]
                repeat still_step
                refine wpStill_nil ?_
                change wpList _ _ _ _ _ W11.drew
                refine wpList_mapUpdate_own _ rfl _ _ _ 63 rfl 9 4 lawS Tryz.underlying63 _ (w.heap.size + 1) st.2.length (setOf uB (st.2.map keyL)) rfl hown.out hn1 (.string y.name) (.bool true) _ rfl rfl hkey.out _ [] (plainElem_bool Tryz.underlying4 true) ?_
                intro w1 hown1 hgrow1
                refine wpList_nil ?_
                have hgr : W11.grownBy w1 (some (w.heap.size + 1)) := ⟨hgrow1.os, hgrow1.tape, hgrow1.output, hgrow1.size, hgrow1.block⟩
                obtain ⟨j1, j2⟩ := hF11.out.met hTl11 hgr hown1
                have hf9 := Lib.hid (hfin.out _ _ j1 (hTu11.out.trans j2) (by rw [hm.out, hk4]; rfl))
                clear hown1 hgrow1 hgr j1 j2 b3 k2
                gi_wp2
                exact hf9.out
end Go.Proofs.YthmchdpinobbgaaGreatDoor
