/-
  Right. Conditions: the tables lie as laid; the term can be read, and has at most 4194304 terms.
  What it is to be right, by the tree: its size, its depth, each node. No condition.
-/
import Derived.Test.YtjnfhebbphdchaaGreatDoorTmWords
import Derived.Test.YtjnfhebbphdchaaGreatDoorTmSize
set_option maxHeartbeats 4000000
set_option maxRecDepth 100000
open Go.Lib (hid)
namespace Go.Proofs.YtjnfhebbphdchaaGreatDoor
open Go.RowKit Go.Shelf Go.Tm
attribute [local go_sem] Oper.semAt_some
def p3t (p : P3) : Go.Tm.T := p.1.kids.getD p.2.1 default
def okP (p : P3) : Bool := decide (p.2.2 <= 200) && nodeB (p3t p)
def qao (L : List P3) : Bool := decide (L.length <= 10000) && L.all okP
def qai (t : Go.Tm.T) : Bool := qao (walk (rootT t) 0 1 t)
theorem qmE {a L : List P3} (h : a <+: L) (ha : qao a = false) : qao L = false := by
 obtain ⟨r, rfl⟩ := h
 unfold qao at ha ⊢
 rw [Bool.and_eq_false_iff] at ha ⊢
 rcases ha with ha | ha
 . left
   rw [decide_eq_false_iff_not] at ha ⊢
   rw [List.length_append]; omega
 . right
   rw [List.all_append, ha]; rfl
theorem qks {a : List P3} {p : P3} (ha : qao a = true) : qao (a ++ [p]) = (decide (a.length + 1 <= 10000) && okP p) := by
 unfold qao at ha ⊢
 rw [Bool.and_eq_true] at ha
 rw [List.all_append, ha.2, List.length_append]
 simp
theorem qcv (t : Go.Tm.T) (A : Option Addr) (c : Nat) (w : World) (hE : Env w) (hsz : t.size <= 4194304) (hT : TmV w (· < w.heap.size) t A c) :
   Calls Tryz.prog 81 #[tmV t A c] w fun e w' => e = .returned (.bool (qai t)) /\ Below w.heap.size w w' := by
 unfold tmV
 refine (callsIn_wide (n := 6)).1 ?_
 refine callsIn_of_wp_marks Tryz.func81 rfl trivial ?_ rfl
 simp only [Tryz.ntmps81, List.size_toArray, List.length_cons, List.length_nil, Nat.reduceAdd, Nat.reduceSub, Array.replicate_succ, Array.replicate_zero, List.push_toArray, List.append_toArray, List.nil_append, List.cons_append]
 gi_wp2
 refine ⟨trivial, ?_⟩
 refine (callsIn_wide.2 (qfl t A c _)).mono ?_
 rintro e w' ⟨rfl, rfl⟩
 obtain ⟨W3, hW3⟩ : ∃ W3, (((w.alloc (.cells #[.int .i64 t.kind, .string t.name, .int .i64 t.num, .slice A t.kids.length c] 26)).alloc (.cells #[.bool false] 4)).alloc (.cells #[.int .i64 0] 3)).alloc (.cells #[.int .i64 t.kind, .string t.name, .int .i64 t.num, .slice A t.kids.length c] 26) = W3 := ⟨_, rfl⟩
 have hb3 : Below w.heap.size w W3 := by rw [<- hW3]; exact ((((Below.refl _ w).alloc (Nat.le_refl _) _).alloc (by simp) _).alloc (by simp; omega) _).alloc (by simp; omega) _
 have hsz3 : W3.heap.size = w.heap.size + 4 := by rw [<- hW3]; simp
 have htb : W3.heap[w.heap.size + 3]? = some (.cells #[.int .i64 t.kind, .string t.name, .int .i64 t.num, .slice A t.kids.length c] 26 (0, 0)) := by
   rw [<- hW3]
   have := World.alloc_heap_new (((w.alloc (.cells #[.int .i64 t.kind, .string t.name, .int .i64 t.num, .slice A t.kids.length c] 26)).alloc (.cells #[.bool false] 4)).alloc (.cells #[.int .i64 0] 3)) (.cells #[.int .i64 t.kind, .string t.name, .int .i64 t.num, .slice A t.kids.length c] 26)
   simpa using this
 have hbr : W3.heap[w.heap.size + 1]? = some (.cells #[.bool false] 4 (0, 0)) := by
   rw [<- hW3]
   have := World.alloc_heap_new (w.alloc (.cells #[.int .i64 t.kind, .string t.name, .int .i64 t.num, .slice A t.kids.length c] 26)) (.cells #[.bool false] 4)
   rw [World.size_alloc] at this
   exact (Below.heap_alloc _ _ _ (by simp)).trans ((Below.heap_alloc _ _ _ (by simp)).trans this)
 have hbx : W3.heap[w.heap.size + 2]? = some (.cells #[.int .i64 0] 3 (0, 0)) := by
   rw [<- hW3]
   have := World.alloc_heap_new ((w.alloc (.cells #[.int .i64 t.kind, .string t.name, .int .i64 t.num, .slice A t.kids.length c] 26)).alloc (.cells #[.bool false] 4)) (.cells #[.int .i64 0] 3)
   simp only [World.size_alloc] at this
   exact (Below.heap_alloc _ _ _ (by simp)).trans this
 have hT3 := hT.below hb3
 have h4 := hE.size
 simp only [World.size_alloc]
 rw [hW3]
 clear hW3 hT
 gi_wp2
 refine qei (n₀ := w.heap.size) (gf := 77) (lb := #[.pointer (some ⟨w.heap.size + 3, 0, none⟩)]) rfl (enters_of Tryz.func77 (by kernel_rfl) rfl)
   (qfm 5 w.heap.size (w.heap.size + 3) t A c W3 hsz (by omega) htb hT3) (Below.refl _ _) (fun _ => rfl) (by omega) PlOk.cells
   (fun pre T W => Fr w.heap.size W3.heap.size w T W /\ W.heap[w.heap.size + 2]? = some (.cells #[.int .i64 pre.length] 3 (0, 0)) /\ W.heap[w.heap.size + 1]? = some (.cells #[.bool false] 4 (0, 0)) /\ qao (pre.map Pl.p3) = true)
   (fun cc pre W => cc = .ret /\ Below w.heap.size w W /\ W3.heap.size <= W.heap.size /\ W.heap[w.heap.size + 1]? = some (.cells #[.bool false] 4 (0, 0)) /\ qao (pre.map Pl.p3) = false)
   (fun pre T T' W W' h hc => ⟨h.1.calm hc, h.1.mine hc (by omega) h.2.1, h.1.mine hc (by omega) h.2.2.1, h.2.2.2⟩)
   (fun cc pre W l o o' h hl ho hc => ⟨h.1, h.2.1.trans ((Below.refl _ W).grown (grownBy_putObj' W l o') (by omega) (fun k e => by cases e; omega)), by simpa using h.2.2.1, (World.putObj_heap_other (by omega)).trans h.2.2.2.1, h.2.2.2.2⟩)
   ⟨Fr.start _ hb3 (by omega), hbx, hbr, rfl⟩
   (fun x a' W => ∃ b, PBox x b W /\ W3.heap.size <= b /\ a' = { tmps := #[.agg #[.int .i64 t.kind, .string t.name, .int .i64 t.num, .slice A t.kids.length c], .pointer (some ⟨w.heap.size, 0, none⟩), .pointer (some ⟨w.heap.size + 1, 0, none⟩), .pointer (some ⟨w.heap.size + 1 + 1, 0, none⟩), .pointer (some ⟨b, 0, none⟩), .agg #[.int .i64 t.kind, .string t.name, .int .i64 t.num, .slice A t.kids.length c], .func (.func 77) #[] #[.pointer (some ⟨w.heap.size + 1 + 1 + 1, 0, none⟩)], plV x, undef, undef, undef, undef, undef, undef, undef, undef, undef, undef, undef, undef, undef, undef, undef], defers := [] }) (fun x a' W l o o' ⟨b, h, h2, e⟩ _ hl ho => ⟨b, h.putObj hl ho, h2, e⟩) ?assign ?body ?done ?stop
 case assign =>
   intro l pre T x W K hI hV hK
   unfold plV
   gi_wp2
   refine hK _ _ (qab W _) ⟨hI.1.grow _, (Below.heap_alloc W _ _ (World.lt_of_get hI.2.1)).trans hI.2.1, (Below.heap_alloc W _ _ (World.lt_of_get hI.2.2.1)).trans hI.2.2.1, hI.2.2.2⟩ ⟨W.heap.size, World.alloc_heap_new W _, hI.1.sz, ?_⟩
   simp [plV]
 case body =>
   rintro l pre T x a' W ⟨hF, hbx, hbr, hP⟩ hok ⟨b, hb, hbB, rfl⟩ hTl _
   have c0 := qaa W (w.heap.size + 2) 0 _ _ _ hbx
   have f0 : W.frozen? ⟨w.heap.size + 2, 0, none⟩ = false := qac hbx 0
   have hlen : pre.length <= 10000 := by
     unfold qao at hP
     rw [Bool.and_eq_true, decide_eq_true_eq, List.length_map] at hP
     exact hP.1
   have hpl : ((pre ++ [x]).map Pl.p3) = pre.map Pl.p3 ++ [x.p3] := by simp
   have hRL : qao ((pre ++ [x]).map Pl.p3) = (decide (pre.length + 1 <= 10000) && (decide (x.depth <= 200) && nodeB x.t)) := by
     rw [hpl, qks hP, List.length_map]; rfl
   have hnt := qnQ hbx (by intro i s e; match i, e with | 0, e => cases e | i + 1, e => simp at e)
   have hnode : qan (W.setCell ⟨w.heap.size + 2, 0, none⟩ (.int .i64 ((pre.length : Int) + 1))) anyB x.blk x.off x.par := hok.1.set hnt
   obtain ⟨k1, k2, k3, k4⟩ := hF.set (i := 0) (v := .int .i64 ((pre.length : Int) + 1)) (show w.heap.size + 2 < W3.heap.size by omega) (by omega) hbx
   have hx9 := heap_setCell_same W (w.heap.size + 2) 0 _ _ (.int .i64 ((pre.length : Int) + 1)) hbx
   have hr9 := (Below.heap_setCell W ⟨w.heap.size + 2, 0, none⟩ (.int .i64 ((pre.length : Int) + 1)) (w.heap.size + 1) (by simp)).trans hbr
   have hp9 : PBox x b (W.setCell ⟨w.heap.size + 2, 0, none⟩ (.int .i64 ((pre.length : Int) + 1))) := (Below.heap_setCell W ⟨w.heap.size + 2, 0, none⟩ _ b (by simp; omega)).trans hb
   have hsz9 : (W.setCell ⟨w.heap.size + 2, 0, none⟩ (.int .i64 ((pre.length : Int) + 1))).heap.size = W.heap.size := by simp
   obtain ⟨W9, hW9⟩ : ∃ W9, W.setCell ⟨w.heap.size + 2, 0, none⟩ (.int .i64 ((pre.length : Int) + 1)) = W9 := ⟨_, rfl⟩
   rw [hW9] at hnode k1 k2 k3 k4 hx9 hr9 hp9 hsz9
   have d0 := qaa W9 (w.heap.size + 2) 0 _ _ _ hx9
   have d1 := qaa W9 (w.heap.size + 1) 0 _ _ _ hr9
   have d2 : W9.frozen? ⟨w.heap.size + 1, 0, none⟩ = false := qac hr9 0
   have b0 := qaa W9 b 0 _ _ _ hp9
   have b1 := qaa W9 b 1 _ _ _ hp9
   have b2 := qaa W9 b 2 _ _ _ hp9
   have hTl9 : ∀ k, k ∈ T -> k < W9.heap.size := fun k hk => by rw [hsz9]; exact hTl k hk
   -- a way out
   have hout : Hid (∀ W', Below W9.heap.size W9 W' -> qao ((pre ++ [x]).map Pl.p3) = false -> W'.cell? ⟨w.heap.size + 1, 0, none⟩ = some (.bool false) /\ W'.frozen? ⟨w.heap.size + 1, 0, none⟩ = false /\ KeepsFrom W3.heap.size W (W'.setCell ⟨w.heap.size + 1, 0, none⟩ (.bool false)) /\ (Code.ret = Code.ret /\ Below w.heap.size w (W'.setCell ⟨w.heap.size + 1, 0, none⟩ (.bool false)) /\ W3.heap.size <= (W'.setCell ⟨w.heap.size + 1, 0, none⟩ (.bool false)).heap.size /\ (W'.setCell ⟨w.heap.size + 1, 0, none⟩ (.bool false)).heap[w.heap.size + 1]? = some (.cells #[.bool false] 4 (0, 0)) /\ qao ((pre ++ [x]).map Pl.p3) = false)) := fun W' hb' hf => by
     obtain ⟨j1, j2, j3, j4⟩ := k4.call hTl9 hb'
     have hr' := (hb'.block _ (World.lt_of_get hr9)).trans hr9
     obtain ⟨i1, i2, i3, i4⟩ := j4.set (i := 0) (v := .bool false) (show w.heap.size + 1 < W3.heap.size by omega) (by omega) hr'
     exact ⟨qaa W' (w.heap.size + 1) 0 _ _ _ hr', qac hr' 0, (k1.trans j1).trans i1, rfl, i4.below, i4.sz, heap_setCell_same W' (w.heap.size + 1) 0 _ _ (.bool false) hr', hf⟩
   replace k1 := hid k1
   replace k2 := hid k2
   replace k3 := hid k3
   replace k4 := hid k4
   replace hx9 := hid hx9
   replace hr9 := hid hr9
   replace hp9 := hid hp9
   replace hsz9 := hid hsz9
   replace hnode := hid hnode
   replace hRL := hid hRL
   replace hpl := hid hpl
   replace hbx := hid hbx
   replace hbr := hid hbr
   replace hb := hid hb
   replace hP := hid hP
   replace hok := hid hok
   clear hnt
   by_cases h1 : pre.length + 1 <= 10000
   case neg =>
     have hf : qao ((pre ++ [x]).map Pl.p3) = false := by rw [hRL.out, decide_eq_false h1]; rfl
     have hfin := hid (hout.out W9 (Below.refl _ _) hf)
     replace hf := hid hf
     have hg : decide ((10000 : Int) < (pre.length : Int) + 1) = true := by rw [decide_eq_true_eq]; omega
     have hg2 : (10000 : Int) < (pre.length : Int) + 1 := by omega
     gi_wp2
     refine ⟨trivial, ?_⟩
     gi_wp2
     refine ⟨trivial, ?_⟩
     gi_wp2
     exact ⟨hfin.out.2.2.1, rfl, hfin.out.2.2.2.2⟩
   by_cases h2 : x.depth <= 200
   case neg =>
     have hf : qao ((pre ++ [x]).map Pl.p3) = false := by rw [hRL.out, decide_eq_false h2]; simp
     have hfin := hid (hout.out W9 (Below.refl _ _) hf)
     replace hf := hid hf
     have hg : decide ((10000 : Int) < (pre.length : Int) + 1) = false := by rw [decide_eq_false_iff_not]; omega
     have hg2 : ¬ (10000 : Int) < (pre.length : Int) + 1 := by omega
     have hg3 : decide ((200 : Int) < (x.depth : Int)) = true := by rw [decide_eq_true_eq]; omega
     have hg4 : (200 : Int) < (x.depth : Int) := by omega
     gi_wp2
     refine ⟨trivial, ?_⟩
     gi_wp2
     refine ⟨trivial, ?_⟩
     gi_wp2
     exact ⟨hfin.out.2.2.1, rfl, hfin.out.2.2.2.2⟩
   have hg : decide ((10000 : Int) < (pre.length : Int) + 1) = false := by rw [decide_eq_false_iff_not]; omega
   have hg2 : ¬ (10000 : Int) < (pre.length : Int) + 1 := by omega
   have hg3 : decide ((200 : Int) < (x.depth : Int)) = false := by rw [decide_eq_false_iff_not]; omega
   have hg4 : ¬ (200 : Int) < (x.depth : Int) := by omega
   obtain ⟨A', c', hh⟩ := hnode.out.hdr
   obtain ⟨kb, ko, rfl, hn⟩ := hh.row x.kid hok.out.2
   have hE9 : Hid (Env W9) := (hE.below h4 k4.out.below)
   have call1 : Hid (Calls Tryz.prog 49 #[.agg #[.pointer (some ⟨x.blk, x.off, none⟩), .int .i64 x.kid, .int .i64 x.depth]] W9 fun e w' => e = .returned (.pointer (some ⟨kb, ko + x.kid * 4, none⟩)) /\ Below W9.heap.size W9 w') :=
     qdd x.blk x.off x.kid x.depth x.par.kids.length kb ko c' W9 hh.kids hok.out.2
   have call2 : Hid (∀ W4, Below W9.heap.size W9 W4 -> Calls Tryz.prog 122 #[.pointer (some ⟨kb, ko + x.kid * 4, none⟩)] W4 fun e w' => e = .returned (.bool (nodeB x.t)) /\ Below W9.heap.size W9 w') := fun W4 hb4 =>
     (qmD kb (ko + x.kid * 4) x.t W4 (hE9.out.later hb4) (qan.after hb4 hn)).mono fun e w' h => ⟨h.1, hb4.trans (h.2.mono hb4.size)⟩
   have hgo : Hid (∀ W', Below W9.heap.size W9 W' -> qao ((pre ++ [x]).map Pl.p3) = true -> KeepsFrom W3.heap.size W W' /\ KeepT T W W' /\ Below w.heap.size W W' /\ (Fr w.heap.size W3.heap.size w T W' /\ W'.heap[w.heap.size + 2]? = some (.cells #[.int .i64 (pre ++ [x]).length] 3 (0, 0)) /\ W'.heap[w.heap.size + 1]? = some (.cells #[.bool false] 4 (0, 0)) /\ qao ((pre ++ [x]).map Pl.p3) = true)) := fun W' hb' ht => by
     obtain ⟨j1, j2, j3, j4⟩ := k4.out.call hTl9 hb'
     refine ⟨k1.out.trans j1, fun k hk => (j2 k hk).trans (k2.out k hk), k3.out.trans j3, j4, ?_, (hb'.block _ (World.lt_of_get hr9.out)).trans hr9.out, ht⟩
     rw [List.length_append, List.length_singleton]
     exact (hb'.block _ (World.lt_of_get hx9.out)).trans hx9.out
   clear hh hn
   cases hv : nodeB x.t with
   | false =>
     have hf : Hid (qao ((pre ++ [x]).map Pl.p3) = false) := by show _ = _; rw [hRL.out, hv]; simp
     rw [hv] at call2
     replace hv := hid hv
     gi_wp2
     refine ⟨trivial, ?_⟩
     refine CallsIn.inRound l ((callsIn_wide.2 call1.out).mono ?_)
     rintro e W4 ⟨rfl, hb4⟩
     replace hb4 := hid hb4
     gi_wp2
     refine ⟨trivial, ?_⟩
     refine CallsIn.inRound l ((callsIn_wide.2 (call2.out W4 hb4.out)).mono ?_)
     rintro e W5 ⟨rfl, hb5⟩
     have hfin := hout.out W5 hb5 hf.out
     have r0 := hfin.1
     have r1 := hfin.2.1
     replace hb5 := hid hb5
     replace hfin := hid hfin
     gi_wp2
     exact ⟨hfin.out.2.2.1, rfl, hfin.out.2.2.2.2⟩
   | true =>
     have ht : Hid (qao ((pre ++ [x]).map Pl.p3) = true) := by show _ = _; rw [hRL.out, hv, decide_eq_true h1, decide_eq_true h2]; rfl
     rw [hv] at call2
     replace hv := hid hv
     gi_wp2
     refine ⟨trivial, ?_⟩
     refine CallsIn.inRound l ((callsIn_wide.2 call1.out).mono ?_)
     rintro e W4 ⟨rfl, hb4⟩
     replace hb4 := hid hb4
     gi_wp2
     refine ⟨trivial, ?_⟩
     refine CallsIn.inRound l ((callsIn_wide.2 (call2.out W4 hb4.out)).mono ?_)
     rintro e W5 ⟨rfl, hb5⟩
     replace hb5 := hid hb5
     gi_wp2
     exact hgo.out W5 hb5.out ht.out
 case done =>
   rintro D xs T W hD hS ⟨hF, hbx, hbr, hP⟩ hK
   rw [hS] at hP
   have c0 := qaa W (w.heap.size + 1) 0 _ _ _ hbr
   have f0 : W.frozen? ⟨w.heap.size + 1, 0, none⟩ = false := qac hbr 0
   have hE9 : Hid (qai t = true) := hP
   obtain ⟨k1, k2, k3, k4⟩ := hF.set (i := 0) (v := .bool true) (show w.heap.size + 1 < W3.heap.size by omega) (by omega) hbr
   have c9 := qaa _ (w.heap.size + 1) 0 _ _ _ (heap_setCell_same W (w.heap.size + 1) 0 _ _ (.bool true) hbr)
   gi_wp2
   refine ⟨by simp, .inl ⟨_, _, rfl, run_takeDeferred ((KeepsOthers.setCell _ _ _).same D _ hK rfl), ?_⟩⟩
   have c8 : ((W.setCell ⟨w.heap.size + 1, 0, none⟩ (.bool true)).putObj D (.deferred none)).cell? ⟨w.heap.size + 1, 0, none⟩ = some (.bool true) := by
     have e : ((W.setCell ⟨w.heap.size + 1, 0, none⟩ (.bool true)).putObj D (.deferred none)).heap[w.heap.size + 1]? = _ := World.putObj_heap_other (by omega)
     unfold World.cell?
     rw [e]
     exact c9
   refine ⟨.bool true, ?_, by rw [hE9.out], k4.mark hD _⟩
   simp [results, go_sem, c8]
 case stop =>
   rintro D cc pre W hD hS ⟨rfl, hB, hs, hbr, hP⟩ hK
   have hE9 : Hid (qai t = false) := qmE hS hP
   have c0 := qaa W (w.heap.size + 1) 0 _ _ _ hbr
   gi_wp2
   refine ⟨by simp, .inl ⟨_, _, rfl, run_takeDeferred hK, ?_⟩⟩
   have c8 : (W.putObj D (.deferred none)).cell? ⟨w.heap.size + 1, 0, none⟩ = some (.bool false) := by
     have e : (W.putObj D (.deferred none)).heap[w.heap.size + 1]? = _ := World.putObj_heap_other (by omega)
     unfold World.cell?
     rw [e]
     exact c0
   refine ⟨.bool false, ?_, by rw [hE9.out], hB.trans ((Below.refl _ W).grown (grownBy_putObj' W D _) (by omega) (fun k e => by cases e; omega))⟩
   simp [results, go_sem, c8]
end Go.Proofs.YtjnfhebbphdchaaGreatDoor
namespace Go.Proofs.YtjnfhebbphdchaaGreatDoor
open Go.RowKit Go.Shelf Go.Tm
mutual
def qbH : Go.Tm.T -> Bool
 | .node k s n ks => nodeB (.node k s n ks) && qbl ks
def qbl : List Go.Tm.T -> Bool
 | [] => true
 | t :: ts => qbH t && qbl ts
end
mutual
theorem qnS : ∀ (t par : Go.Tm.T) (i d : Nat), par.kids.getD i default = t -> (walk par i (d + 1) t).all okP = (decide (d + t.depth <= 200) && qbH t)
 | .node k s n ks, par, i, d, hp => by
   rw [walk, List.all_cons, qls ks (.node k s n ks) 0 (d + 1) (by simp [T.kids]) (fun j _ => by rw [Nat.zero_add]; rfl), qbH, T.depth]
   have h1 : okP (par, i, d + 1) = (decide (d + 1 <= 200) && nodeB (.node k s n ks)) := by
     unfold okP p3t
     show (decide (d + 1 <= 200) && nodeB (par.kids.getD i default)) = _
     rw [hp]
   rw [h1]
   cases hks : ks with
   | nil =>
     have : (decide (([] : List Go.Tm.T) = [] ∨ d + 1 + qax [] <= 200)) = true := by simp
     rw [this, qax]
     have h2 : (d + (1 + 0) <= 200) = (d + 1 <= 200) := by rw [Nat.add_zero]
     simp only [h2, Bool.true_and, Bool.and_assoc]
   | cons a b =>
     have e1 : decide ((a :: b : List Go.Tm.T) = [] ∨ d + 1 + qax (a :: b) <= 200) = decide (d + 1 + qax (a :: b) <= 200) := by simp
     rw [e1]
     by_cases h : d + 1 + qax (a :: b) <= 200
     . rw [decide_eq_true h, decide_eq_true (show d + 1 <= 200 by omega), decide_eq_true (show d + (1 + qax (a :: b)) <= 200 by omega)]
       simp
     . rw [decide_eq_false h, decide_eq_false (show ¬ d + (1 + qax (a :: b)) <= 200 by omega)]
       simp
theorem qls : ∀ (ts : List Go.Tm.T) (par : Go.Tm.T) (i d : Nat), i + ts.length = par.kids.length -> (∀ j, j < ts.length -> par.kids.getD (i + j) default = ts.getD j default) -> (walks par i (d + 1) ts).all okP = (decide (ts = [] ∨ d + qax ts <= 200) && qbl ts)
 | [], par, i, d, _, _ => by rw [walks, qbl]; simp
 | t :: ts, par, i, d, hl, hg => by
   rw [List.length_cons] at hl
   rw [walks, List.all_append, qnS t par i d (by have := hg 0 (by simp); simpa using this), qls ts par (i + 1) d (by omega) (fun j hj => by
     have := hg (j + 1) (by simpa using hj)
     rw [show i + 1 + j = i + (j + 1) by omega]
     exact this), qbl, qax]
   have e1 : decide ((t :: ts : List Go.Tm.T) = [] ∨ d + max t.depth (qax ts) <= 200) = (decide (d + t.depth <= 200) && decide (ts = [] ∨ d + qax ts <= 200)) := by
     rw [<- Bool.decide_and, decide_eq_decide]
     constructor
     . rintro (h | h)
       . cases h
       . exact ⟨by omega, .inr (by omega)⟩
     . rintro ⟨h1, rfl | h2⟩
       . right; rw [qax]; omega
       . right; omega
   rw [e1]
   cases decide (d + t.depth <= 200) <;> cases qbH t <;> cases decide (ts = [] ∨ d + qax ts <= 200) <;> rfl
end
theorem qgx (t : Go.Tm.T) : qai t = (decide (t.size <= 10000) && (decide (t.depth <= 200) && qbH t)) := by
 unfold qai qao
 rw [qeq, qnS t (rootT t) 0 0 rfl, Nat.zero_add]
end Go.Proofs.YtjnfhebbphdchaaGreatDoor
