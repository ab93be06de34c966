/-
  Same. Conditions: the terms can be read; the first one has at most 4194304 terms.
-/
import Derived.Test.YthidblhkajahdaaDoorTmWay
import Derived.Test.YthidblhkajahdaaDoorTmBound
namespace Go.Proofs.YthidblhkajahdaaDoor
open Go.RowKit Go.Shelf Go.Tm
attribute [local go_sem] Oper.semAt_some

theorem goT_len : ∀ (L : List P3) (P P' : List Go.Tm.T), goT P L = some P' → P'.length ≤ P.length + L.length
  | [], P, P', h => by cases h; exact Nat.le_refl _
  | p :: L, P, P', h => by
    have h' : (if alikeB (p3T p) (oth P p) = true then goT (nxt P p) L else none) = some P' := h
    by_cases ha : alikeB (p3T p) (oth P p) = true
    · rw [if_pos ha] at h'
      have h1 := goT_len L _ _ h'
      have h2 : (nxt P p).length ≤ P.length + 1 := by
        show (P.take p.2.2 ++ [_]).length ≤ _
        rw [List.length_append, List.length_take, List.length_singleton]; omega
      rw [List.length_cons]; omega
    · rw [if_neg ha] at h'; cases h'

theorem info_ptr : (Tryd.prog.info? 61).map (fun i => (i.zero, i.size, i.bytes)) = some (some (.pointer none), 1, 8) := by kernel_rfl
set_option maxRecDepth 100000 in
set_option maxHeartbeats 4000000 in
theorem same_any (t u : Go.Tm.T) (A B : Option Addr) (c d : Nat) (w : World) (hsz : t.size ≤ 4194304) (hT : TmV w (· < w.heap.size) t A c) (hU : TmV w (· < w.heap.size) u B d) :
    Calls Tryd.prog 16 #[tmV t A c, tmV u B d] w fun e w' => e = .returned (.bool (eqT t u)) ∧ Below w.heap.size w w' := by
  unfold tmV
  refine (callsIn_wide (n := 6)).1 ?_
  refine callsIn_of_wp_marks Tryd.func16 rfl trivial ?_ rfl
  simp only [Tryd.ntmps16, List.size_toArray, List.length_cons, List.length_nil, Nat.reduceAdd, Nat.reduceSub, Array.replicate_succ, Array.replicate_zero, List.push_toArray, List.append_toArray, List.nil_append, List.cons_append]
  gi_wp2
  refine ⟨trivial, ?_⟩
  refine (callsIn_wide.2 (places_any t A c _)).mono ?_
  rintro e w' ⟨rfl, rfl⟩
  obtain ⟨W3, hW3⟩ : ∃ W3, ((((((((w.alloc (.cells #[.int .i64 t.kind, .string t.name, .int .i64 t.num, .slice A t.kids.length c] 24)).alloc (.cells #[.int .i64 u.kind, .string u.name, .int .i64 u.num, .slice B u.kids.length d] 24)).alloc (.cells #[.bool false] 4)).alloc (.cells #[.int .i64 u.kind, .string u.name, .int .i64 u.num, .slice B u.kids.length d] 24)).alloc (.cells #[.int .i64 0, .string ⟨#[]⟩, .int .i64 0, .slice (some ⟨w.heap.size + 1 + 1 + 1, 0, none⟩) 1 1] 24)).alloc (.cells #[.pointer (some ⟨w.heap.size + 1 + 1 + 1 + 1, 0, none⟩)] 61)).alloc (.cells #[.slice (some ⟨w.heap.size + 1 + 1 + 1 + 1 + 1, 0, none⟩) 1 1] 66)).alloc (.cells #[.int .i64 t.kind, .string t.name, .int .i64 t.num, .slice A t.kids.length c] 24)) = W3 := ⟨_, rfl⟩
  have hfold : [(.cells #[.int .i64 t.kind, .string t.name, .int .i64 t.num, .slice A t.kids.length c] 24), (.cells #[.int .i64 u.kind, .string u.name, .int .i64 u.num, .slice B u.kids.length d] 24), (.cells #[.bool false] 4), (.cells #[.int .i64 u.kind, .string u.name, .int .i64 u.num, .slice B u.kids.length d] 24), (.cells #[.int .i64 0, .string ⟨#[]⟩, .int .i64 0, .slice (some ⟨w.heap.size + 1 + 1 + 1, 0, none⟩) 1 1] 24), (.cells #[.pointer (some ⟨w.heap.size + 1 + 1 + 1 + 1, 0, none⟩)] 61), (.cells #[.slice (some ⟨w.heap.size + 1 + 1 + 1 + 1 + 1, 0, none⟩) 1 1] 66), (.cells #[.int .i64 t.kind, .string t.name, .int .i64 t.num, .slice A t.kids.length c] 24)].foldl World.alloc w = W3 := hW3
  have hb3 : Below w.heap.size w W3 := by rw [← hfold]; exact (chain_below w _).1
  have hsz3 : W3.heap.size = w.heap.size + 8 := by rw [← hfold]; exact (chain_below w _).2
  have hg : ∀ i o, [(.cells #[.int .i64 t.kind, .string t.name, .int .i64 t.num, .slice A t.kids.length c] 24), (.cells #[.int .i64 u.kind, .string u.name, .int .i64 u.num, .slice B u.kids.length d] 24), (.cells #[.bool false] 4), (.cells #[.int .i64 u.kind, .string u.name, .int .i64 u.num, .slice B u.kids.length d] 24), (.cells #[.int .i64 0, .string ⟨#[]⟩, .int .i64 0, .slice (some ⟨w.heap.size + 1 + 1 + 1, 0, none⟩) 1 1] 24), (.cells #[.pointer (some ⟨w.heap.size + 1 + 1 + 1 + 1, 0, none⟩)] 61), (.cells #[.slice (some ⟨w.heap.size + 1 + 1 + 1 + 1 + 1, 0, none⟩) 1 1] 66), (.cells #[.int .i64 t.kind, .string t.name, .int .i64 t.num, .slice A t.kids.length c] 24)][i]? = some o → W3.heap[w.heap.size + i]? = some o := fun i o h => by rw [← hfold]; exact chain_get w _ i o h
  have htb := hg 7 _ rfl
  have hbr := hg 2 _ rfl
  have hub := hg 3 _ rfl
  have hrb := hg 4 _ rfl
  have hpb := hg 5 _ rfl
  have hvb := hg 6 _ rfl
  have hT3 := hT.below hb3
  have hU3 := hU.below hb3
  have hnode : NodeAt W3 (· < w.heap.size + 5) (w.heap.size + 4) 0 (rootT u) := by
    unfold rootT
    rw [NodeAt]
    refine ⟨by show _ < _; omega, by decide, cell_of_row _ _ 0 _ _ _ hrb, cell_of_row _ _ 1 _ _ _ hrb, cell_of_row _ _ 2 _ _ _ hrb, _, 1, cell_of_row _ _ 3 _ _ _ hrb, .inr ⟨w.heap.size + 3, 0, rfl, ?_⟩⟩
    rw [RowAt, RowAt]
    exact ⟨(hU3.kept (q := (· < w.heap.size + 5)) (fun b hb => by show b < _; have : b < w.heap.size := hb; omega) (fun _ _ => rfl)).box (by show _ < _; omega) hub, trivial⟩
  have hway : Way W3 (w.heap.size + 5) (w.heap.size + 6) [] [rootT u] (w.heap.size + 5) 1 [(w.heap.size + 4, 0)] :=
    ⟨hvb, ⟨rfl, .inr ⟨_, _, _, rfl, Nat.le_refl _, hpb, Nat.le_refl _, by decide, rfl, rfl⟩⟩, by simp, by omega, Nat.le_refl _, rfl, fun i hi => by
      obtain rfl : i = 0 := by simpa using hi
      exact hnode⟩
  simp only [World.size_alloc]
  rw [hW3]
  clear hW3 hT hU hfold hg
  gi_wp2
  refine wpIn_rangeV (n₀ := w.heap.size) (gf := 49) (lb := #[.pointer (some ⟨w.heap.size + 7, 0, none⟩)]) rfl (enters_of Tryd.func49 (by kernel_rfl) rfl)
    (places_seq 5 w.heap.size (w.heap.size + 7) t A c W3 hsz (by omega) htb hT3) (Below.refl _ _) (fun _ => rfl) (by omega) PlOk.cells
    (fun pre T W => Fr w.heap.size W3.heap.size w T W ∧ W.heap[w.heap.size + 2]? = some (.cells #[.bool false] 4 (0, 0)) ∧ ∃ P g cap es, goT [rootT u] (pre.map Pl.p3) = some P ∧ Way W (w.heap.size + 5) (w.heap.size + 6) T P g cap es)
    (fun cc pre W => cc = .ret ∧ Below w.heap.size w W ∧ W3.heap.size ≤ W.heap.size ∧ W.heap[w.heap.size + 2]? = some (.cells #[.bool false] 4 (0, 0)) ∧ goT [rootT u] (pre.map Pl.p3) = none)
    (fun pre T T' W W' h hc => ⟨h.1.calm hc, h.1.mine hc (by omega) h.2.1, by
      obtain ⟨P, g, cap, es, h1, h2⟩ := h.2.2
      exact ⟨P, g, cap, es, h1, h2.calm hc h.1.lo (by omega) (by omega) h.1.sz⟩⟩)
    (fun cc pre W l o o' h hl ho hc => ⟨h.1, h.2.1.trans ((Below.refl _ W).grown (grownBy_putObj' W l o') (by omega) (fun k e => by cases e; omega)), by simpa using h.2.2.1, (World.putObj_heap_other (by omega)).trans h.2.2.2.1, h.2.2.2.2⟩)
    ⟨Fr.start _ hb3 (by omega), hbr, _, _, _, _, rfl, hway⟩
    (fun x a' W => ∃ b, PBox x b W ∧ W3.heap.size ≤ b ∧ a' = { tmps := #[.agg #[.int .i64 t.kind, .string t.name, .int .i64 t.num, .slice A t.kids.length c], .agg #[.int .i64 u.kind, .string u.name, .int .i64 u.num, .slice B u.kids.length d], .pointer (some ⟨w.heap.size, 0, none⟩), .pointer (some ⟨w.heap.size + 1, 0, none⟩), .pointer (some ⟨w.heap.size + 1 + 1, 0, none⟩), .pointer (some ⟨w.heap.size + 1 + 1 + 1 + 1 + 1 + 1, 0, none⟩), .pointer (some ⟨b, 0, none⟩), undef, .agg #[.int .i64 u.kind, .string u.name, .int .i64 u.num, .slice B u.kids.length d], .slice (some ⟨w.heap.size + 1 + 1 + 1, 0, none⟩) 1 1, .agg #[.int .i64 0, .string ⟨#[]⟩, .int .i64 0, .slice (some ⟨w.heap.size + 1 + 1 + 1, 0, none⟩) 1 1], .pointer (some ⟨w.heap.size + 1 + 1 + 1 + 1, 0, none⟩), .slice (some ⟨w.heap.size + 1 + 1 + 1 + 1 + 1, 0, none⟩) 1 1, .agg #[.int .i64 t.kind, .string t.name, .int .i64 t.num, .slice A t.kids.length c], .func (.func 49) #[] #[.pointer (some ⟨w.heap.size + 1 + 1 + 1 + 1 + 1 + 1 + 1, 0, none⟩)], plV x, undef, undef, undef, undef, undef, undef, undef, undef, undef, undef, undef, undef, undef, undef, undef, undef, undef, undef, undef, undef, undef, undef, undef, undef, undef], defers := [] }) (fun x a' W l o o' ⟨b, h, h2, e⟩ _ hl ho => ⟨b, h.putObj hl ho, h2, e⟩) ?assign ?body ?done ?stop
  case assign =>
    intro l pre T x W K hI hV hK
    unfold plV
    gi_wp2
    refine hK _ _ (later_alloc W _) ⟨hI.1.grow _, (Below.heap_alloc W _ _ (World.lt_of_get hI.2.1)).trans hI.2.1, ?_⟩ ⟨W.heap.size, World.alloc_heap_new W _, hI.1.sz, ?_⟩
    · obtain ⟨P, g, cap, es, h1, h2⟩ := hI.2.2
      exact ⟨P, g, cap, es, h1, h2.later (later_alloc W _) (by omega)⟩
    · simp [plV]
  case done =>
    rintro D xs T W hD hS ⟨hF, hbr, P, g, cap, es, hP, _⟩ hK
    rw [hS] at hP
    have hE9 : Hid (eqT t u = true) := by
      show _ = _
      cases he : eqT t u with
      | true => rfl
      | false => have := (go_root t u (rootT t) (rootT u) rfl rfl).no he; rw [hP] at this; cases this
    have c0 := cell_of_row W (w.heap.size + 2) 0 _ _ _ hbr
    have f0 : W.frozen? ⟨w.heap.size + 2, 0, none⟩ = false := frozen_of_row hbr 0
    obtain ⟨k1, k2, k3, k4⟩ := hF.set (i := 0) (v := .bool true) (show w.heap.size + 2 < W3.heap.size by omega) (by omega) hbr
    have c9 := cell_of_row _ (w.heap.size + 2) 0 _ _ _ (heap_setCell_same W (w.heap.size + 2) 0 _ _ (.bool true) hbr)
    gi_wp2
    refine ⟨by simp, .inl ⟨_, _, rfl, run_takeDeferred ((KeepsOthers.setCell _ _ _).same D _ hK rfl), ?_⟩⟩
    have c8 : ((W.setCell ⟨w.heap.size + 2, 0, none⟩ (.bool true)).putObj D (.deferred none)).cell? ⟨w.heap.size + 2, 0, none⟩ = some (.bool true) := by
      have e : ((W.setCell ⟨w.heap.size + 2, 0, none⟩ (.bool true)).putObj D (.deferred none)).heap[w.heap.size + 2]? = _ := World.putObj_heap_other (by omega)
      unfold World.cell?
      rw [e]
      exact c9
    refine ⟨.bool true, ?_, by rw [hE9.out], k4.mark hD _⟩
    simp [results, go_sem, c8]
  case stop =>
    rintro D cc pre W hD hS ⟨rfl, hB, hs, hbr, hP⟩ hK
    have hE9 : Hid (eqT t u = false) := go_not (go_root t u (rootT t) (rootT u) rfl rfl) hS hP
    have c0 := cell_of_row W (w.heap.size + 2) 0 _ _ _ hbr
    gi_wp2
    refine ⟨by simp, .inl ⟨_, _, rfl, run_takeDeferred hK, ?_⟩⟩
    have c8 : (W.putObj D (.deferred none)).cell? ⟨w.heap.size + 2, 0, none⟩ = some (.bool false) := by
      have e : (W.putObj D (.deferred none)).heap[w.heap.size + 2]? = _ := World.putObj_heap_other (by omega)
      unfold World.cell?
      rw [e]
      exact c0
    refine ⟨.bool false, ?_, by rw [hE9.out], hB.trans ((Below.refl _ W).grown (grownBy_putObj' W D _) (by omega) (fun k e => by cases e; omega))⟩
    simp [results, go_sem, c8]
  case body =>
    rintro l pre T ⟨xb, xo, xp, xk, xd⟩ a' W ⟨hF, hbr, P, g, cap, es, hP, hW⟩ hok ⟨b, hb, hbB, rfl⟩ hTl hsp
    have hroot := go_root t u (rootT t) (rootT u) rfl rfl
    obtain ⟨hokP, hnext⟩ := go_next hroot (by simpa using hsp) hP
    obtain ⟨q1, q2, q3⟩ := hokP
    simp only [Pl.p3] at q1 q2 q3
    obtain ⟨d', rfl⟩ : ∃ d', xd = d' + 1 := ⟨xd - 1, by omega⟩
    rw [Nat.add_sub_cancel] at q3
    have c0 := cell_of_row W (w.heap.size + 6) 0 _ _ _ hW.var
    have f0 : W.frozen? ⟨w.heap.size + 6, 0, none⟩ = false := frozen_of_row hW.var 0
    have b2 := cell_of_row W b 2 _ _ _ hb
    have hcap : P.length ≤ cap := by obtain ⟨_, _, _, _, h⟩ := hW.cells; exact h
    have hcap2 : d' + 1 ≤ cap := by omega
    have hd9 : d' ≤ 4194304 := by
      have h1 := goT_len _ _ _ hP
      have h2 := hsp.length_le
      rw [walk_len, List.length_map, List.length_append, List.length_singleton] at h2
      rw [List.length_map, List.length_singleton] at h1
      omega
    have hwr : wrap64 (d' : Int) = (d' : Int) := by
      have h : wrap64 (d' : Int) = ((d' : Int) + 9223372036854775808) % 18446744073709551616 - 9223372036854775808 := by unfold wrap64; rfl
      rw [h]; omega
    have hW5 := hW.cut q2 (by omega)
    have hl5 : (P.take (d' + 1)).length = d' + 1 := by rw [List.length_take]; omega
    obtain ⟨k1, k2, k3, k4⟩ := hF.set (i := 0) (v := .slice (some ⟨g, 0, none⟩) (d' + 1) cap) (show w.heap.size + 6 < W3.heap.size by omega) (by omega) hW.var
    have hnt := no_text hW.var (by intro i s e; match i, e with | 0, e => cases e | i + 1, e => simp at e)
    have hok5 : NodeAt (W.setCell ⟨w.heap.size + 6, 0, none⟩ (.slice (some ⟨g, 0, none⟩) (d' + 1) cap)) anyB xb xo xp := NodeAt.set hnt hok.1
    have hkk : xk < xp.kids.length := hok.2
    have hb5 := (Below.heap_setCell W ⟨w.heap.size + 6, 0, none⟩ (.slice (some ⟨g, 0, none⟩) (d' + 1) cap) b (by simp; omega)).trans hb
    have hr5 := (Below.heap_setCell W ⟨w.heap.size + 6, 0, none⟩ (.slice (some ⟨g, 0, none⟩) (d' + 1) cap) (w.heap.size + 2) (by simp)).trans hbr
    have hs5 : (W.setCell ⟨w.heap.size + 6, 0, none⟩ (.slice (some ⟨g, 0, none⟩) (d' + 1) cap)).heap.size = W.heap.size := by simp
    obtain ⟨W5, hE5⟩ : ∃ W5, W.setCell ⟨w.heap.size + 6, 0, none⟩ (.slice (some ⟨g, 0, none⟩) (d' + 1) cap) = W5 := ⟨_, rfl⟩
    rw [hE5] at hW5 k1 k2 k3 k4 hok5 hb5 hr5 hs5
    have e0 := hW5.get (i := d') (by omega)
    have en := hW5.node d' (by omega)
    have hgd : (P.take (d' + 1)).getD d' default = P.getD d' default := by rw [List.getD_eq_getElem?_getD, List.getD_eq_getElem?_getD, List.getElem?_take, if_pos (by omega)]
    rw [hgd] at en
    clear hgd
    obtain ⟨O, hO⟩ : ∃ O, P.getD d' default = O := ⟨_, rfl⟩
    rw [hO] at en q3
    have hoth : oth P (xp, xk, d' + 1) = O.kids.getD xk default := by
      show (P.getD (d' + 1 - 1) default).kids.getD xk default = _
      rw [Nat.add_sub_cancel, hO]
    replace hO := Lib.hid hO
    replace hoth := Lib.hid hoth
    obtain ⟨eb, eo, hes⟩ : ∃ eb eo, (es.take (d' + 1)).getD d' (0, 0) = (eb, eo) := ⟨_, _, rfl⟩
    rw [hes] at e0 en
    simp only [ptrV] at e0 en
    obtain ⟨A9, c9, eh⟩ := en.hdr
    obtain ⟨ob, oo, rfl, on⟩ := eh.row xk q3
    have e3 := eh.kids
    have d0 := cell_of_row W5 (w.heap.size + 6) 0 _ _ _ hW5.var
    rw [hl5] at d0
    have b1 := cell_of_row W5 b 1 _ _ _ hb5
    have b25 := cell_of_row W5 b 2 _ _ _ hb5
    have b05 := cell_of_row W5 b 0 _ _ _ hb5
    obtain ⟨A8, c8, hh⟩ := hok5.hdr
    obtain ⟨kb, ko, rfl, hn⟩ := hh.row xk hkk
    have call1 : Hid (∀ nq, Calls Tryd.prog 36 #[.agg #[.pointer (some ⟨xb, xo, none⟩), .int .i64 xk, .int .i64 ((d' : Int) + 1)]] (W5.drewN nq) fun e w' => e = .returned (.pointer (some ⟨kb, ko + xk * 4, none⟩)) ∧ Below W5.heap.size W5 w') := fun nq =>
      (term_any xb xo xk (d' + 1) xp.kids.length kb ko c8 (W5.drewN nq) hh.kids hkk).mono fun e w' h => ⟨h.1, (belowN (Below.refl _ W5) nq).trans h.2⟩
    have call2 : Hid (∀ W', Below W5.heap.size W5 W' → Calls Tryd.prog 38 #[.pointer (some ⟨kb, ko + xk * 4, none⟩), .pointer (some ⟨ob, oo + xk * 4, none⟩)] W' fun e w' => e = .returned (.bool (alikeB (xp.kids.getD xk default) (O.kids.getD xk default))) ∧ Below W5.heap.size W5 w') := fun W' hb' => by
      obtain ⟨_, _, h1⟩ := (NodeAt.after hb' hn).hdr
      obtain ⟨_, _, h2⟩ := (NodeAt.after hb' (on.wide fun _ _ => trivial)).hdr
      exact (alike_any _ _ _ _ _ _ _ _ _ _ W' h1 h2).mono fun e w' h => ⟨h.1, hb'.trans (h.2.mono hb'.size)⟩
    have hg1 : Hid (goT [rootT u] ((pre ++ [(⟨xb, xo, xp, xk, d' + 1⟩ : Pl)]).map Pl.p3) = if alikeB (xp.kids.getD xk default) (O.kids.getD xk default) = true then some (P.take (d' + 1) ++ [O.kids.getD xk default]) else none) := by
      show _ = _
      rw [List.map_append, List.map_singleton]
      refine hnext.trans ?_
      show (if alikeB (xp.kids.getD xk default) (oth P (xp, xk, d' + 1)) = true then some (P.take (d' + 1) ++ [oth P (xp, xk, d' + 1)]) else none) = _
      rw [hoth.out]
    have hTl5 : ∀ k, k ∈ T → k < W5.heap.size := fun k hk => by rw [hs5]; exact hTl k hk
    have hout : Hid (∀ W', Below W5.heap.size W5 W' → goT [rootT u] ((pre ++ [(⟨xb, xo, xp, xk, d' + 1⟩ : Pl)]).map Pl.p3) = none → W'.cell? ⟨w.heap.size + 2, 0, none⟩ = some (.bool false) ∧ W'.frozen? ⟨w.heap.size + 2, 0, none⟩ = false ∧ KeepsFrom W3.heap.size W (W'.setCell ⟨w.heap.size + 2, 0, none⟩ (.bool false)) ∧ Below w.heap.size w (W'.setCell ⟨w.heap.size + 2, 0, none⟩ (.bool false)) ∧ W3.heap.size ≤ (W'.setCell ⟨w.heap.size + 2, 0, none⟩ (.bool false)).heap.size ∧ (W'.setCell ⟨w.heap.size + 2, 0, none⟩ (.bool false)).heap[w.heap.size + 2]? = some (.cells #[.bool false] 4 (0, 0)) ∧ goT [rootT u] ((pre ++ [(⟨xb, xo, xp, xk, d' + 1⟩ : Pl)]).map Pl.p3) = none) := fun W' hb' hf => by
      obtain ⟨j1, j2, j3, j4⟩ := k4.call hTl5 hb'
      have hr' := (hb'.block _ (World.lt_of_get hr5)).trans hr5
      obtain ⟨i1, i2, i3, i4⟩ := j4.set (i := 0) (v := .bool false) (show w.heap.size + 2 < W3.heap.size by omega) (by omega) hr'
      exact ⟨cell_of_row W' (w.heap.size + 2) 0 _ _ _ hr', frozen_of_row hr' 0, (k1.trans j1).trans i1, i4.below, i4.sz, heap_setCell_same W' (w.heap.size + 2) 0 _ _ (.bool false) hr', hf⟩
    clear hh hn
    replace hF := Lib.hid hF
    replace hbr := Lib.hid hbr
    replace hP := Lib.hid hP
    replace hW := Lib.hid hW
    replace hok := Lib.hid hok
    replace hb := Lib.hid hb
    replace hnext := Lib.hid hnext
    replace hsp := Lib.hid hsp
    replace hW5 := Lib.hid hW5
    replace k1 := Lib.hid k1
    replace k2 := Lib.hid k2
    replace k3 := Lib.hid k3
    replace k4 := Lib.hid k4
    replace hok5 := Lib.hid hok5
    replace hb5 := Lib.hid hb5
    replace hr5 := Lib.hid hr5
    replace hs5 := Lib.hid hs5
    replace on := Lib.hid on
    replace eh := Lib.hid eh
    replace en := Lib.hid en
    replace hl5 := Lib.hid hl5
    replace hes := Lib.hid hes
    clear hroot hnt
    gi_wp2
    refine wpIn_round_quiet (by kernel_rfl) (by kernel_rfl) (by kernel_rfl) ?_
    repeat (gi_big_quiet_step (fail))
    refine wpQuietIn_nil ?_
    rintro _ ⟨nq, rfl⟩
    gi_wp2
    refine ⟨trivial, ?_⟩
    refine CallsIn.inRound l ((callsIn_wide.2 (call1.out nq)).mono ?_)
    rintro e6 W6 ⟨rfl, hb6⟩
    replace hb6 := Lib.hid hb6
    gi_wp2
    refine ⟨trivial, ?_⟩
    refine CallsIn.inRound l ((callsIn_wide.2 (call2.out W6 hb6.out)).mono ?_)
    rintro e7 W7 ⟨rfl, hb7⟩
    cases ha : alikeB (xp.kids.getD xk default) (O.kids.getD xk default) with
    | false =>
      have hf := hg1.out
      rw [ha, if_neg (by decide)] at hf
      have hfin := hout.out W7 hb7 hf
      have r0 := hfin.1
      have r1 := hfin.2.1
      replace hb7 := Lib.hid hb7
      replace hfin := Lib.hid hfin
      replace hf := Lib.hid hf
      replace ha := Lib.hid ha
      clear e0 e3 d0 b1 b25 b05 c0 f0 b2
      gi_wp2
      exact ⟨hfin.out.2.2.1, rfl, hfin.out.2.2.2⟩
    | true =>
      have hgo := hg1.out
      rw [ha, if_pos rfl] at hgo
      obtain ⟨i0, hi, hi2⟩ := Option.map_eq_some_iff.1 info_ptr
      obtain ⟨hz0, hz1, hz2⟩ : i0.zero = some (.pointer none) ∧ i0.size = 1 ∧ i0.bytes = 8 := by
        injection hi2 with h1 h2; injection h2 with h2 h3; exact ⟨h1, h2, h3⟩
      clear hi2
      obtain ⟨W8, hE8⟩ : ∃ W8, W7.alloc (.cells #[.pointer (some ⟨ob, oo + xk * 4, none⟩)] 61) = W8 := ⟨_, rfl⟩
      have hb8 : Below W5.heap.size W5 W8 := by rw [← hE8]; exact hb7.trans ((later_alloc W7 _).mono hb7.size)
      have hW7 := hW5.out.later hb7 (by omega)
      have hW8 := hW5.out.later hb8 (by omega)
      have d7 := cell_of_row W7 (w.heap.size + 6) 0 _ _ _ hW7.var
      rw [hl5.out] at d7
      have own8 := hW8.own
      rw [hl5.out] at own8
      obtain ⟨j1, j2, j3, j4⟩ := k4.out.call hTl5 hb8
      have hT8 : ∀ k, k ∈ T → k < W8.heap.size := fun k hk => Nat.lt_of_lt_of_le (hTl5 k hk) hb8.size
      have hr8 := (hb8.block _ (World.lt_of_get hr5.out)).trans hr5.out
      have hn8 : NodeAt W8 (· < w.heap.size + 5) ob (oo + xk * 4) (O.kids.getD xk default) := NodeAt.kept (fun _ h => h) (fun k hk => hb8.block k (by have := World.lt_of_get hW5.out.var; omega)) on.out
      have hsz8 : w.heap.size + 5 ≤ W8.heap.size := by have := World.lt_of_get hW8.var; omega
      have hnew := cells_new1 W7 (.pointer (some ⟨ob, oo + xk * 4, none⟩)) 61
      rw [hE8] at hnew
      -- what stands behind the append
      have hend : Hid (∀ v5 w5, w5.ownsRow (w.heap.size + 5) 61 1 v5 (d' + 1 + 1) ((es.take (d' + 1)).map ptrV ++ [.pointer (some ⟨ob, oo + xk * 4, none⟩)]) → W8.grownBy w5 (Value.ownBlock (.slice (some ⟨g, 0, none⟩) (d' + 1) cap)) → (v5.ownBlock = Value.ownBlock (.slice (some ⟨g, 0, none⟩) (d' + 1) cap) ∨ v5.ownBlock = some W8.heap.size) →
          ∃ g' cap', v5 = .slice (some ⟨g', 0, none⟩) (d' + 1 + 1) cap' ∧ (w5.cell? ⟨w.heap.size + 6, 0, none⟩ = some (.slice (some ⟨g, 0, none⟩) (d' + 1) cap) ∧ w5.frozen? ⟨w.heap.size + 6, 0, none⟩ = false) ∧
          Hid (KeepsFrom W3.heap.size W (w5.setCell ⟨w.heap.size + 6, 0, none⟩ v5) ∧ KeepT T W (w5.setCell ⟨w.heap.size + 6, 0, none⟩ v5) ∧ Below w.heap.size W (w5.setCell ⟨w.heap.size + 6, 0, none⟩ v5) ∧ (Fr w.heap.size W3.heap.size w T (w5.setCell ⟨w.heap.size + 6, 0, none⟩ v5) ∧ (w5.setCell ⟨w.heap.size + 6, 0, none⟩ v5).heap[w.heap.size + 2]? = some (.cells #[.bool false] 4 (0, 0)) ∧ ∃ P g cap es, goT [rootT u] ((pre ++ [(⟨xb, xo, xp, xk, d' + 1⟩ : Pl)]).map Pl.p3) = some P ∧ Way (w5.setCell ⟨w.heap.size + 6, 0, none⟩ v5) (w.heap.size + 5) (w.heap.size + 6) T P g cap es))) := fun v5 w5 hown5 hgrow5 hat5 => by
        have hrow : Value.ownBlock (.slice (some ⟨g, 0, none⟩) (d' + 1) cap) = some g := rfl
        obtain ⟨cur, ty, f, hcg, _⟩ := hW8.cells
        obtain ⟨m1, m2, m3, m4⟩ := j4.grown (W' := w5) (g := g) (by rw [← hrow]; exact hgrow5) hW8.gT (by have := hW8.gb; omega) ⟨cur, ty, f, hcg⟩ hT8
        have hv5 : w5.heap[w.heap.size + 6]? = some (.cells #[.slice (some ⟨g, 0, none⟩) (d' + 1) cap] 66 (0, 0)) := by
          have := hW8.var
          rw [hl5.out] at this
          exact (hgrow5.block _ (World.lt_of_get this) (by rw [hrow]; exact fun e => hW8.gp (by cases e; rfl))).trans this
        obtain ⟨g', cap', hv9, _, hW9⟩ := hW8.push (ob, oo + xk * 4) (O.kids.getD xk default) hn8 hl5.out.symm hown5 hgrow5 hat5 hT8 (by omega)
        obtain ⟨i1, i2, i3, i4⟩ := m4.set (i := 0) (v := v5) (show w.heap.size + 6 < W3.heap.size by omega) (by omega) hv5
        have hr9 : (w5.setCell ⟨w.heap.size + 6, 0, none⟩ v5).heap[w.heap.size + 2]? = some (.cells #[.bool false] 4 (0, 0)) :=
          (Below.heap_setCell _ _ _ _ (by simp)).trans ((hgrow5.block _ (World.lt_of_get hr8) (by rw [hrow]; exact fun e => by have := hW8.gb; cases e; omega)).trans hr8)
        exact ⟨g', cap', hv9, ⟨cell_of_row _ _ 0 _ _ _ hv5, frozen_of_row hv5 0⟩, ((k1.out.trans j1).trans m1).trans i1, fun k hk => (i2 k hk).trans ((m2 k hk).trans ((j2 k hk).trans (k2.out k hk))), ((k3.out.trans j3).trans m3).trans i3, i4, hr9, _, g', cap', _, hgo, hW9⟩
      replace hi := Lib.hid hi
      replace hz0 := Lib.hid hz0
      replace hz1 := Lib.hid hz1
      replace hz2 := Lib.hid hz2
      replace own8 := Lib.hid own8
      replace hb7 := Lib.hid hb7
      replace hb8 := Lib.hid hb8
      replace hW7 := Lib.hid hW7
      replace hW8 := Lib.hid hW8
      replace hgo := Lib.hid hgo
      replace hr8 := Lib.hid hr8
      replace hn8 := Lib.hid hn8
      replace hnew := Lib.hid hnew
      replace ha := Lib.hid ha
      replace hE8 := Lib.hid hE8
      clear e0 e3 d0 b1 b25 b05 c0 f0 b2 j1 j2 j3 j4
      gi_wp2_with (gi_at_builtin; rw [hE8.out]; refine wpListIn_append_own_at _ rfl _ _ 66 rfl (w.heap.size + 5) 61 i0 (.pointer none) 1 8 Tryd.underlying66 hi.out hz0.out hz1.out hz2.out rfl (by decide) _ _ _ rfl own8.out ⟨W7.heap.size, 0, none⟩ 1 1 [.pointer (some ⟨ob, oo + xk * 4, none⟩)] rfl rfl hnew.out (one1 _) (by unfold maxLen; omega) (by omega) hsz8 ?_; intro v5 w5 hown5 hgrow5 _ hat5; obtain ⟨g', cap', rfl, ⟨u1, u2⟩, u3⟩ := hend.out v5 w5 hown5 hgrow5 hat5; clear hown5 hgrow5 hat5)
      all_goals exact u3.out
end Go.Proofs.YthidblhkajahdaaDoor
