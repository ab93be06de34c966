/-
  Two terms gone through side by side: of the second one the way down to the place is kept as a list. No condition.
  Whether two nodes are alike but for their Kids.
  The way down on the other side, as Same keeps it:
  Same.
  The statements' own small functions:
-/
import Derived.Test.YtjnfhebbphdchaaGreatDoorTmRun
import Derived.Test.YtjnfhebbphdchaaGreatDoorTmRight
import Derived.Deep.QuietTactic
import Derived.BigQuiet
import Derived.Maps.OwnIn
import Derived.Maps.AppendAt
set_option maxHeartbeats 4000000
set_option maxRecDepth 100000
open Go.Lib (hid)
namespace Go.Tm
def qbh (a b : T) : Bool := (a.kind == b.kind) && ((a.name.toList == b.name.toList) && ((a.num == b.num) && ((a.kids.length : Int) == (b.kids.length : Int))))
theorem qmL {a b : T} (h : qbh a b = true) : a.kids.length = b.kids.length := by
 unfold qbh at h
 rw [Bool.and_eq_true, Bool.and_eq_true, Bool.and_eq_true, beq_iff_eq, beq_iff_eq, beq_iff_eq, beq_iff_eq] at h
 omega
mutual
def eqT : T -> T -> Bool
 | .node k s n ks, u => qbh (.node k s n ks) u && eqTs ks u.kids
def eqTs : List T -> List T -> Bool
 | [], _ => true
 | t :: ts, us => eqT t (us.getD 0 default) && eqTs ts (us.drop 1)
end
def p3T (p : P3) : T := p.1.kids.getD p.2.1 default
def oth (P : List T) (p : P3) : T := (P.getD (p.2.2 - 1) default).kids.getD p.2.1 default
def nxt (P : List T) (p : P3) : List T := P.take p.2.2 ++ [oth P p]
def goT (P : List T) : List P3 -> Option (List T)
 | [] => some P
 | p :: r => if qbh (p3T p) (oth P p) = true then goT (nxt P p) r else none
def OkP (P : List T) (p : P3) : Prop := 1 <= p.2.2 /\ p.2.2 <= P.length /\ p.2.1 < (P.getD (p.2.2 - 1) default).kids.length
theorem qdG : ∀ (a b : List P3) (P : List T), goT P (a ++ b) = (goT P a).bind fun P' => goT P' b
 | [], _, _ => rfl
 | p :: a, b, P => by
   show (if qbh (p3T p) (oth P p) = true then goT (nxt P p) (a ++ b) else none) = Option.bind (if qbh (p3T p) (oth P p) = true then goT (nxt P p) a else none) _
   by_cases h : qbh (p3T p) (oth P p) = true
   . rw [if_pos h, if_pos h, qdG a b]
   . rw [if_neg h, if_neg h]; rfl
structure GoOk (P : List T) (d : Nat) (L : List P3) (b : Bool) : Prop where
 yes : b = true -> ∃ P', goT P L = some P' /\ d <= P'.length /\ P'.take d = P.take d
 no : b = false -> goT P L = none
 ok : ∀ q y r, L = q ++ y :: r -> ∀ P1, goT P q = some P1 -> OkP P1 y
theorem GoOk.app {P : List T} {d : Nat} {A B : List P3} {b c : Bool} (h : GoOk P d A b) (k : b = true -> ∀ P', goT P A = some P' -> d <= P'.length -> P'.take d = P.take d -> GoOk P' d B c) : GoOk P d (A ++ B) (b && c) := by
 cases hb : b with
 | false =>
   have hn := h.no hb
   refine ⟨fun e => (by cases e), fun _ => by rw [qdG, hn]; rfl, fun q y r e P1 h1 => ?_⟩
   rcases List.append_eq_append_iff.1 e with ⟨z, hz1, hz2⟩ | ⟨z, hz1, hz2⟩
   . subst hz1
     rw [qdG, hn] at h1; cases h1
   . cases z with
     | nil =>
       rw [List.append_nil] at hz1; subst hz1
       rw [hn] at h1; cases h1
     | cons y2 z =>
       cases hz2
       exact h.ok q y z hz1 P1 h1
 | true =>
   obtain ⟨P', h1, h2, h3⟩ := h.yes hb
   obtain ⟨k1, k2, k3⟩ := k hb P' h1 h2 h3
   refine ⟨fun e => ?_, fun e => ?_, fun q y r e P1 hq => ?_⟩
   . obtain ⟨P2, j1, j2, j3⟩ := k1 e
     exact ⟨P2, by rw [qdG, h1]; exact j1, j2, j3.trans h3⟩
   . rw [qdG, h1]; exact k2 e
   . rcases List.append_eq_append_iff.1 e with ⟨z, hz1, hz2⟩ | ⟨z, hz1, hz2⟩
     . subst hz1
       rw [qdG, h1] at hq
       exact k3 z y r hz2 P1 hq
     . cases z with
       | nil =>
         rw [List.append_nil] at hz1; subst hz1
         rw [h1] at hq; cases hq
         exact k3 [] y r hz2.symm P' rfl
       | cons y2 z =>
         cases hz2
         exact h.ok q y z hz1 P1 hq
theorem qol {P P' : List T} {d : Nat} (hd : 1 <= d) (h : P'.take d = P.take d) : P'.getD (d - 1) default = P.getD (d - 1) default := by
 have e : ∀ Q : List T, (Q.take d)[d - 1]? = Q[d - 1]? := fun Q => by rw [List.getElem?_take]; exact if_pos (by omega)
 rw [List.getD_eq_getElem?_getD, List.getD_eq_getElem?_getD, <- e, <- e P, h]
mutual
theorem qom : ∀ (t par : T) (kid d : Nat) (P : List T), 1 <= d -> d <= P.length -> kid < (P.getD (d - 1) default).kids.length -> par.kids.getD kid default = t -> GoOk P d (walk par kid d t) (eqT t (oth P (par, kid, d)))
 | .node k s n ks, par, kid, d, P, h1, h2, h3, h4 => by
   rw [walk, eqT]
   have hp : p3T (par, kid, d) = .node k s n ks := h4
   have hok : OkP P (par, kid, d) := ⟨h1, h2, h3⟩
   cases ha : qbh (.node k s n ks) (oth P (par, kid, d)) with
   | false =>
     have hg : ∀ L, goT P ((par, kid, d) :: L) = none := fun L => by
       show (if qbh (p3T (par, kid, d)) _ = true then _ else _) = _
       rw [hp, ha]; rfl
     refine ⟨fun e => (by cases e), fun _ => hg _, fun q y r e P1 hq => ?_⟩
     cases q with
     | nil => cases hq; cases e; exact hok
     | cons p q =>
       injection e with e1 e2
       subst e1
       rw [hg] at hq; cases hq
   | true =>
     have hg : ∀ L, goT P ((par, kid, d) :: L) = goT (nxt P (par, kid, d)) L := fun L => by
       show (if qbh (p3T (par, kid, d)) _ = true then _ else _) = _
       rw [hp, ha]; rfl
     have hlen : (nxt P (par, kid, d)).length = d + 1 := by
       show (P.take d ++ [_]).length = _
       rw [List.length_append, List.length_take]; simp; omega
     have hlast : (nxt P (par, kid, d)).getD (d + 1 - 1) default = oth P (par, kid, d) := by
       show (P.take d ++ [_]).getD d default = _
       have : (P.take d).length = d := by rw [List.length_take]; omega
       rw [List.getD_eq_getElem?_getD, List.getElem?_append_right (by omega), this]; simp
     have hl := qmL ha
     have hw := qlH ks (.node k s n ks) 0 (d + 1) (nxt P (par, kid, d)) (by omega) (by omega) (by rw [hlast, <- hl]; show 0 + ks.length <= ks.length; omega) (fun j _ => by rw [Nat.zero_add]; rfl)
     rw [hlast, List.drop_zero] at hw
     refine ⟨fun e => ?_, fun e => ?_, fun q y r e P1 hq => ?_⟩
     . obtain ⟨P', j1, j2, j3⟩ := hw.yes e
       refine ⟨P', by rw [hg]; exact j1, by omega, ?_⟩
       have := congrArg (List.take d) j3
       rw [List.take_take, List.take_take, Nat.min_eq_left (by omega)] at this
       rw [this]
       show (P.take d ++ [_]).take d = _
       rw [List.take_left' (by rw [List.length_take]; omega)]
     . rw [hg]; exact hw.no e
     . cases q with
       | nil => cases hq; cases e; exact hok
       | cons p q =>
         injection e with e1 e2
         subst e1
         rw [hg] at hq
         exact hw.ok q y r e2 P1 hq
theorem qlH : ∀ (ts : List T) (par : T) (i d : Nat) (P : List T), 1 <= d -> d <= P.length -> i + ts.length <= (P.getD (d - 1) default).kids.length -> (∀ j, j < ts.length -> par.kids.getD (i + j) default = ts.getD j default) -> GoOk P d (walks par i d ts) (eqTs ts ((P.getD (d - 1) default).kids.drop i))
 | [], par, i, d, P, _, h2, _, _ => by
   rw [walks, eqTs]
   exact ⟨fun _ => ⟨P, rfl, h2, rfl⟩, fun e => (by cases e), fun q y r e => by cases q <;> cases e⟩
 | t :: ts, par, i, d, P, h1, h2, h3, h4 => by
   rw [walks, eqTs]
   rw [List.length_cons] at h3
   have ho : ((P.getD (d - 1) default).kids.drop i).getD 0 default = oth P (par, i, d) := by
     show _ = (P.getD (d - 1) default).kids.getD i default
     generalize (P.getD (d - 1) default).kids = K
     rw [List.getD_eq_getElem?_getD, List.getD_eq_getElem?_getD, List.getElem?_drop, Nat.add_zero]
   rw [ho, List.drop_drop]
   refine (qom t par i d P h1 h2 (by omega) (by have := h4 0 (by simp); simpa using this)).app fun _ P' _ hl ht => ?_
   have hg := qol h1 ht
   have := qlH ts par (i + 1) d P' h1 hl (by rw [hg]; omega) (fun j hj => by
     have := h4 (j + 1) (by simpa using hj)
     rw [show i + 1 + j = i + (j + 1) by omega]
     exact this)
   rw [hg] at this
   exact this
end
theorem qkH (a b ra rb : T) (ha : ra.kids = [a]) (hb : rb.kids = [b]) : GoOk [rb] 1 (walk ra 0 1 a) (eqT a b) := by
 have h := qom a ra 0 1 [rb] (Nat.le_refl _) (Nat.le_refl _) (by show 0 < rb.kids.length; rw [hb]; simp) (by rw [ha]; rfl)
 have e : oth [rb] (ra, 0, 1) = b := by show rb.kids.getD 0 default = b; rw [hb]; rfl
 rwa [e] at h
theorem qrO {P : List T} {d : Nat} {L : List P3} {b : Bool} (h : GoOk P d L b) {pre : List P3} {x : P3} (hp : pre ++ [x] <+: L) {P1 : List T} (hg : goT P pre = some P1) : OkP P1 x /\ goT P (pre ++ [x]) = if qbh (p3T x) (oth P1 x) = true then some (nxt P1 x) else none := by
 obtain ⟨r, hr⟩ := hp
 refine ⟨h.ok pre x r (by rw [<- hr]; simp) P1 hg, ?_⟩
 rw [qdG, hg]; rfl
theorem qsH {P : List T} {d : Nat} {L : List P3} {b : Bool} (h : GoOk P d L b) {pre : List P3} (hp : pre <+: L) (hg : goT P pre = none) : b = false := by
 cases b with
 | false => rfl
 | true =>
   obtain ⟨P', h1, _⟩ := h.yes rfl
   obtain ⟨r, rfl⟩ := hp
   rw [qdG, hg] at h1; cases h1
end Go.Tm
namespace Go.Proofs.YtjnfhebbphdchaaGreatDoor
open Go.RowKit Go.Shelf Go.Tm
attribute [local go_sem] Oper.semAt_some
theorem qon (b1 o1 b2 o2 : Nat) (t1 t2 : Go.Tm.T) (A1 A2 : Option Addr) (c1 c2 : Nat) (w : World) (hh : Hdr w anyB b1 o1 t1 A1 c1) (gg : Hdr w anyB b2 o2 t2 A2 c2) :
   Calls Tryz.prog 48 #[.pointer (some ⟨b1, o1, none⟩), .pointer (some ⟨b2, o2, none⟩)] w fun e w' => e = .returned (.bool (qbh t1 t2)) /\ Below w.heap.size w w' := by
 have h0 := hh.kind
 have h1 := hh.name
 have h2 := hh.num
 have h3 := hh.kids
 have g0 := gg.kind
 have g1 := gg.name
 have g2 := gg.num
 have g3 := gg.kids
 clear hh gg
 cases e1 : (t1.kind == t2.kind) with
 | false =>
   have hE : Hid (qbh t1 t2 = false) := by show _ = _; unfold qbh; rw [e1]; rfl
   have d1 : decide (t1.kind = t2.kind) = false := by rw [decide_eq_false_iff_not]; exact fun h => by rw [h, beq_self_eq_true] at e1; cases e1
   have n1 : ¬ t1.kind = t2.kind := of_decide_eq_false d1
   go_enter Tryz.func48, Tryz.ntmps48
   go_wp2_with fail
   go_quiet (fail)
   all_goals go_wp2
   all_goals go_ret
   all_goals exact ⟨qae hE.out.symm, qap (Below.refl _ _) _⟩
 | true =>
 cases e2 : (t1.name.toList == t2.name.toList) with
 | false =>
   have hE : Hid (qbh t1 t2 = false) := by show _ = _; unfold qbh; rw [e1, e2]; rfl
   have d2 : decide (t1.name.toList = t2.name.toList) = false := by rw [decide_eq_false_iff_not]; exact fun h => by rw [h, beq_self_eq_true] at e2; cases e2
   have n2 : ¬ t1.name.toList = t2.name.toList := of_decide_eq_false d2
   go_enter Tryz.func48, Tryz.ntmps48
   go_wp2_with fail
   go_quiet (fail)
   all_goals go_wp2
   all_goals go_ret
   all_goals exact ⟨qae hE.out.symm, qap (Below.refl _ _) _⟩
 | true =>
 cases e3 : (t1.num == t2.num) with
 | false =>
   have hE : Hid (qbh t1 t2 = false) := by show _ = _; unfold qbh; rw [e1, e2, e3]; rfl
   have d3 : decide (t1.num = t2.num) = false := by rw [decide_eq_false_iff_not]; exact fun h => by rw [h, beq_self_eq_true] at e3; cases e3
   have n3 : ¬ t1.num = t2.num := of_decide_eq_false d3
   go_enter Tryz.func48, Tryz.ntmps48
   go_wp2_with fail
   go_quiet (fail)
   all_goals go_wp2
   all_goals go_ret
   all_goals exact ⟨qae hE.out.symm, qap (Below.refl _ _) _⟩
 | true =>
   have hE : Hid (((t1.kids.length : Int) == (t2.kids.length : Int)) = qbh t1 t2) := by show _ = _; unfold qbh; rw [e1, e2, e3]; rfl
   go_enter Tryz.func48, Tryz.ntmps48
   go_wp2_with fail
   go_quiet (fail)
   all_goals go_wp2
   all_goals go_ret
   all_goals exact ⟨qae hE.out, qap (Below.refl _ _) _⟩
end Go.Proofs.YtjnfhebbphdchaaGreatDoor
namespace Go.Proofs.YtjnfhebbphdchaaGreatDoor
open Go.RowKit Go.Shelf Go.Tm
def ptrV (e : Nat × Nat) : Value := .pointer (some ⟨e.1, e.2, none⟩)
structure Way (W : World) (base pc : Nat) (T : List Nat) (P : List Go.Tm.T) (g cap : Nat) (es : List (Nat × Nat)) : Prop where
 var : W.heap[pc]? = some (.cells #[.slice (some ⟨g, 0, none⟩) P.length cap] 108 (0, 0))
 own : W.ownsRow base 107 1 (.slice (some ⟨g, 0, none⟩) P.length cap) P.length (es.map ptrV)
 gT : g ∉ T
 gp : g ≠ pc
 gb : base <= g
 len : es.length = P.length
 node : ∀ i, i < P.length -> qan W (· < base) (es.getD i (0, 0)).1 (es.getD i (0, 0)).2 (P.getD i default)
section
variable {W W' : World} {base pc : Nat} {T T' : List Nat} {P : List Go.Tm.T} {g cap : Nat} {es : List (Nat × Nat)}
theorem Way.cells (h : Way W base pc T P g cap es) : ∃ cur t f, W.heap[g]? = some (.cells cur t f) /\ P.length <= cap := by
 obtain ⟨_, h2 | ⟨g', cp, cur, hv, _, hg, r1, _⟩⟩ := h.own
 . obtain ⟨h2, _⟩ := h2; cases h2
 . cases hv; exact ⟨cur, _, _, hg, r1⟩
theorem Way.g_lt (h : Way W base pc T P g cap es) : g < W.heap.size := qaU h.own
theorem Way.kept (h : Way W base pc T P g cap es) (h1 : W'.heap[pc]? = W.heap[pc]?) (h2 : W'.heap[g]? = W.heap[g]?) (h3 : ∀ k, k < base -> W'.heap[k]? = W.heap[k]?) (h4 : g ∉ T') : Way W' base pc T' P g cap es :=
 ⟨h1.trans h.var, qfY h.own (W1 := W) h2 rfl, h4, h.gp, h.gb, h.len, fun i hi => qan.kept (fun _ h => h) (fun k hk => h3 k hk) (h.node i hi)⟩
theorem Way.calm {B : Nat} (h : Way W base pc T P g cap es) (hc : CalmV B T T' W W') (hlo : ∀ k, k ∈ T -> B <= k) (hb : base <= pc) (hp : pc < B) (hB : B <= W.heap.size) : Way W' base pc T' P g cap es := by
 have low : ∀ k, k < B -> k < W.heap.size -> W'.heap[k]? = W.heap[k]? := fun k hk hs => by
   obtain ⟨o, ho⟩ : ∃ o, W.heap[k]? = some o := ⟨_, Array.getElem?_eq_getElem hs⟩
   exact (hc.same k o ho (fun e => by have := hlo k e; omega) (.inl hk)).trans ho.symm
 obtain ⟨cur, ty, f, hg, _⟩ := h.cells
 refine h.kept (low pc hp (by omega)) ((hc.same g _ hg h.gT (.inr rfl)).trans hg.symm) (fun k hk => low k (by omega) (by omega)) fun e => ?_
 rcases hc.fresh g e with e | e
 . exact h.gT e
 . have := h.g_lt; omega
theorem Way.later (h : Way W base pc T P g cap es) (hb : Below W.heap.size W W') (hbs : base <= pc) : Way W' base pc T P g cap es := by
 have hp := World.lt_of_get h.var
 exact h.kept (hb.block pc hp) (hb.block g h.g_lt) (fun k hk => hb.block k (by omega)) h.gT
theorem Way.get (h : Way W base pc T P g cap es) {i : Nat} (hi : i < P.length) : W.cell? ⟨g, i, none⟩ = some (ptrV (es.getD i (0, 0))) := by
 have hc := h.own.cells (g := g) rfl i (ptrV (es.getD i (0, 0))) (by
   have hl : i < es.length := by rw [h.len]; exact hi
   rw [List.getElem?_map, List.getElem?_eq_getElem hl, List.getD_eq_getElem?_getD, List.getElem?_eq_getElem hl]; rfl)
 have hadd : (⟨g, 0, none⟩ : Addr).add i = ⟨g, i, none⟩ := by unfold Addr.add; split <;> simp_all
 rwa [hadd] at hc
theorem Way.cut (h : Way W base pc T P g cap es) {d : Nat} (hd : d <= P.length) (hbs : base <= pc) : Way (W.setCell ⟨pc, 0, none⟩ (.slice (some ⟨g, 0, none⟩) d cap)) base pc T (P.take d) g cap (es.take d) := by
 have hl : (P.take d).length = d := by rw [List.length_take]; omega
 have hk : ∀ k, k ≠ pc -> (W.setCell ⟨pc, 0, none⟩ (.slice (some ⟨g, 0, none⟩) d cap)).heap[k]? = W.heap[k]? := fun k hk => Below.heap_setCell _ _ _ _ hk
 refine ⟨?_, ?_, h.gT, h.gp, h.gb, by rw [List.length_take, List.length_take, h.len], fun i hi => ?_⟩
 . rw [hl]; exact heap_setCell_same W pc 0 _ _ (.slice (some ⟨g, 0, none⟩) d cap) h.var
 . rw [hl]
   obtain ⟨h1, h2 | ⟨g', cp, cur, hv, hbg, hg, r1, r2, r3, r4⟩⟩ := h.own
   . obtain ⟨h2, _⟩ := h2; cases h2
   . cases hv
     refine ⟨by rw [List.length_map, List.length_take, h.len]; omega, .inr ⟨_, _, cur, rfl, hbg, (hk _ h.gp).trans hg, by omega, r2, r3, ?_⟩⟩
     have := congrArg (List.take d) r4
     rw [List.take_take, <- List.map_take] at this
     rw [<- this]
     congr 1
     omega
 . rw [hl] at hi
   have e1 : (es.take d).getD i (0, 0) = es.getD i (0, 0) := by rw [List.getD_eq_getElem?_getD, List.getD_eq_getElem?_getD, List.getElem?_take, if_pos hi]
   have e2 : (P.take d).getD i default = P.getD i default := by rw [List.getD_eq_getElem?_getD, List.getD_eq_getElem?_getD, List.getElem?_take, if_pos hi]
   rw [e1, e2]
   exact qan.kept (fun _ h => h) (fun k hk2 => hk k (by omega)) (h.node i (by omega))
theorem Way.push (h : Way W base pc T P g cap es) (e : Nat × Nat) (o : Go.Tm.T) (hn : qan W (· < base) e.1 e.2 o) {v' : Value} {w' : World} {n : Nat} (hnl : n = P.length)
   (hown' : w'.ownsRow base 107 1 v' (n + 1) (es.map ptrV ++ [ptrV e])) (hgrow : W.grownBy w' (Value.ownBlock (.slice (some ⟨g, 0, none⟩) n cap))) (hat : v'.ownBlock = Value.ownBlock (.slice (some ⟨g, 0, none⟩) n cap) ∨ v'.ownBlock = some W.heap.size)
   (hT : ∀ k, k ∈ T -> k < W.heap.size) (hbs : base <= pc) :
   ∃ g' cap', v' = .slice (some ⟨g', 0, none⟩) (n + 1) cap' /\ (g' = g ∨ g' = W.heap.size) /\ Way (w'.setCell ⟨pc, 0, none⟩ v') base pc T (P ++ [o]) g' cap' (es ++ [e]) := by
 subst hnl
 have hown2 := hown'
 obtain ⟨g0, g1 | ⟨g', cp, cur, hv, hbg, hg, r⟩⟩ := hown'
 . exact absurd g1.2 (by omega)
 . subst hv
   have hpl := World.lt_of_get h.var
   have hgl := h.g_lt
   have hgg : g' = g ∨ g' = W.heap.size := by simpa [Value.ownBlock] using hat
   have hlen : (P ++ [o]).length = P.length + 1 := by simp
   have hgp : g' ≠ pc := by
     rcases hgg with e1 | e1
     . rw [e1]; exact h.gp
     . omega
   have hk : ∀ k, k ≠ pc -> (w'.setCell ⟨pc, 0, none⟩ (.slice (some ⟨g', 0, none⟩) (P.length + 1) cp)).heap[k]? = w'.heap[k]? := fun k hk => Below.heap_setCell _ _ _ _ hk
   have hvar : w'.heap[pc]? = some (.cells #[.slice (some ⟨g, 0, none⟩) P.length cap] 108 (0, 0)) := (hgrow.block _ hpl (by simp [Value.ownBlock]; exact fun e => h.gp e.symm)).trans h.var
   have hlow : ∀ k, k < base -> (w'.setCell ⟨pc, 0, none⟩ (.slice (some ⟨g', 0, none⟩) (P.length + 1) cp)).heap[k]? = W.heap[k]? := fun k hkb => (hk k (by omega)).trans (hgrow.block k (by omega) (by have := h.gb; simp [Value.ownBlock]; omega))
   refine ⟨g', cp, rfl, hgg, ⟨?_, ?_, ?_, hgp, hbg, by simp [h.len], fun i hi => ?_⟩⟩
   . rw [hlen]; exact heap_setCell_same w' pc 0 _ _ (.slice (some ⟨g', 0, none⟩) (P.length + 1) cp) hvar
   . rw [hlen, List.map_append]
     exact qfY (W1 := w') hown2 (hk g' hgp) rfl
   . intro e
     rcases hgg with e1 | e1
     . exact h.gT (e1 ▸ e)
     . have := hT _ e; omega
   . rw [hlen] at hi
     by_cases hi2 : i < P.length
     . have e1 : (es ++ [e]).getD i (0, 0) = es.getD i (0, 0) := by rw [List.getD_eq_getElem?_getD, List.getD_eq_getElem?_getD, List.getElem?_append_left (by rw [h.len]; exact hi2)]
       have e2 : (P ++ [o]).getD i default = P.getD i default := by rw [List.getD_eq_getElem?_getD, List.getD_eq_getElem?_getD, List.getElem?_append_left hi2]
       rw [e1, e2]
       exact qan.kept (fun _ h => h) (fun k hk2 => hlow k hk2) (h.node i hi2)
     . obtain rfl : i = P.length := by omega
       have e1 : (es ++ [e]).getD P.length (0, 0) = e := by rw [List.getD_eq_getElem?_getD, <- h.len, List.getElem?_append_right (Nat.le_refl _)]; simp
       have e2 : (P ++ [o]).getD P.length default = o := by rw [List.getD_eq_getElem?_getD, List.getElem?_append_right (Nat.le_refl _)]; simp
       rw [e1, e2]
       exact qan.kept (fun _ h => h) (fun k hk2 => hlow k hk2) hn
end
end Go.Proofs.YtjnfhebbphdchaaGreatDoor
namespace Go.Proofs.YtjnfhebbphdchaaGreatDoor
open Go.RowKit Go.Shelf Go.Tm
attribute [local go_sem] Oper.semAt_some
theorem qoo : ∀ (L : List P3) (P P' : List Go.Tm.T), goT P L = some P' -> P'.length <= P.length + L.length
 | [], P, P', h => by cases h; exact Nat.le_refl _
 | p :: L, P, P', h => by
   have h' : (if qbh (p3T p) (oth P p) = true then goT (nxt P p) L else none) = some P' := h
   by_cases ha : qbh (p3T p) (oth P p) = true
   . rw [if_pos ha] at h'
     have h1 := qoo L _ _ h'
     have h2 : (nxt P p).length <= P.length + 1 := by
       show (P.take p.2.2 ++ [_]).length <= _
       rw [List.length_append, List.length_take, List.length_singleton]; omega
     rw [List.length_cons]; omega
   . rw [if_neg ha] at h'; cases h'
theorem qpZ : (Tryz.prog.info? 107).map (fun i => (i.zero, i.size, i.bytes)) = some (some (.pointer none), 1, 8) := by kernel_rfl
theorem qlI (t u : Go.Tm.T) (A B : Option Addr) (c d : Nat) (w : World) (hsz : t.size <= 4194304) (hT : TmV w (· < w.heap.size) t A c) (hU : TmV w (· < w.heap.size) u B d) :
   Calls Tryz.prog 25 #[tmV t A c, tmV u B d] w fun e w' => e = .returned (.bool (eqT t u)) /\ Below w.heap.size w w' := by
 unfold tmV
 refine (callsIn_wide (n := 6)).1 ?_
 refine callsIn_of_wp_marks Tryz.func25 rfl trivial ?_ rfl
 simp only [Tryz.ntmps25, List.size_toArray, List.length_cons, List.length_nil, Nat.reduceAdd, Nat.reduceSub, Array.replicate_succ, Array.replicate_zero, List.push_toArray, List.append_toArray, List.nil_append, List.cons_append]
 gi_wp2
 refine ⟨trivial, ?_⟩
 refine (callsIn_wide.2 (qfl t A c _)).mono ?_
 rintro e w' ⟨rfl, rfl⟩
 obtain ⟨W3, hW3⟩ : ∃ W3, ((((((((w.alloc (.cells #[.int .i64 t.kind, .string t.name, .int .i64 t.num, .slice A t.kids.length c] 26)).alloc (.cells #[.int .i64 u.kind, .string u.name, .int .i64 u.num, .slice B u.kids.length d] 26)).alloc (.cells #[.bool false] 4)).alloc (.cells #[.int .i64 u.kind, .string u.name, .int .i64 u.num, .slice B u.kids.length d] 26)).alloc (.cells #[.int .i64 0, .string ⟨#[]⟩, .int .i64 0, .slice (some ⟨w.heap.size + 1 + 1 + 1, 0, none⟩) 1 1] 26)).alloc (.cells #[.pointer (some ⟨w.heap.size + 1 + 1 + 1 + 1, 0, none⟩)] 107)).alloc (.cells #[.slice (some ⟨w.heap.size + 1 + 1 + 1 + 1 + 1, 0, none⟩) 1 1] 108)).alloc (.cells #[.int .i64 t.kind, .string t.name, .int .i64 t.num, .slice A t.kids.length c] 26)) = W3 := ⟨_, rfl⟩
 have hfold : [(.cells #[.int .i64 t.kind, .string t.name, .int .i64 t.num, .slice A t.kids.length c] 26), (.cells #[.int .i64 u.kind, .string u.name, .int .i64 u.num, .slice B u.kids.length d] 26), (.cells #[.bool false] 4), (.cells #[.int .i64 u.kind, .string u.name, .int .i64 u.num, .slice B u.kids.length d] 26), (.cells #[.int .i64 0, .string ⟨#[]⟩, .int .i64 0, .slice (some ⟨w.heap.size + 1 + 1 + 1, 0, none⟩) 1 1] 26), (.cells #[.pointer (some ⟨w.heap.size + 1 + 1 + 1 + 1, 0, none⟩)] 107), (.cells #[.slice (some ⟨w.heap.size + 1 + 1 + 1 + 1 + 1, 0, none⟩) 1 1] 108), (.cells #[.int .i64 t.kind, .string t.name, .int .i64 t.num, .slice A t.kids.length c] 26)].foldl World.alloc w = W3 := hW3
 have hb3 : Below w.heap.size w W3 := by rw [<- hfold]; exact (qgw w _).1
 have hsz3 : W3.heap.size = w.heap.size + 8 := by rw [<- hfold]; exact (qgw w _).2
 have hg : ∀ i o, [(.cells #[.int .i64 t.kind, .string t.name, .int .i64 t.num, .slice A t.kids.length c] 26), (.cells #[.int .i64 u.kind, .string u.name, .int .i64 u.num, .slice B u.kids.length d] 26), (.cells #[.bool false] 4), (.cells #[.int .i64 u.kind, .string u.name, .int .i64 u.num, .slice B u.kids.length d] 26), (.cells #[.int .i64 0, .string ⟨#[]⟩, .int .i64 0, .slice (some ⟨w.heap.size + 1 + 1 + 1, 0, none⟩) 1 1] 26), (.cells #[.pointer (some ⟨w.heap.size + 1 + 1 + 1 + 1, 0, none⟩)] 107), (.cells #[.slice (some ⟨w.heap.size + 1 + 1 + 1 + 1 + 1, 0, none⟩) 1 1] 108), (.cells #[.int .i64 t.kind, .string t.name, .int .i64 t.num, .slice A t.kids.length c] 26)][i]? = some o -> W3.heap[w.heap.size + i]? = some o := fun i o h => by rw [<- hfold]; exact qjf w _ i o h
 have htb := hg 7 _ rfl
 have hbr := hg 2 _ rfl
 have hub := hg 3 _ rfl
 have hrb := hg 4 _ rfl
 have hpb := hg 5 _ rfl
 have hvb := hg 6 _ rfl
 have hT3 := hT.below hb3
 have hU3 := hU.below hb3
 have hnode : qan W3 (· < w.heap.size + 5) (w.heap.size + 4) 0 (rootT u) := by
   unfold rootT
   rw [qan]
   refine ⟨by show _ < _; omega, by decide, qaa _ _ 0 _ _ _ hrb, qaa _ _ 1 _ _ _ hrb, qaa _ _ 2 _ _ _ hrb, _, 1, qaa _ _ 3 _ _ _ hrb, .inr ⟨w.heap.size + 3, 0, rfl, ?_⟩⟩
   rw [RowAt, RowAt]
   exact ⟨(hU3.kept (q := (· < w.heap.size + 5)) (fun b hb => by show b < _; have : b < w.heap.size := hb; omega) (fun _ _ => rfl)).box (by show _ < _; omega) hub, trivial⟩
 have hway : Way W3 (w.heap.size + 5) (w.heap.size + 6) [] [rootT u] (w.heap.size + 5) 1 [(w.heap.size + 4, 0)] :=
   ⟨hvb, ⟨rfl, .inr ⟨_, _, _, rfl, Nat.le_refl _, hpb, Nat.le_refl _, by decide, rfl, rfl⟩⟩, by simp, by omega, Nat.le_refl _, rfl, fun i hi => by
     obtain rfl : i = 0 := by simpa using hi
     exact hnode⟩
 simp only [World.size_alloc]
 rw [hW3]
 clear hW3 hT hU hfold hg
 gi_wp2
 refine qei (n₀ := w.heap.size) (gf := 77) (lb := #[.pointer (some ⟨w.heap.size + 7, 0, none⟩)]) rfl (enters_of Tryz.func77 (by kernel_rfl) rfl)
   (qfm 5 w.heap.size (w.heap.size + 7) t A c W3 hsz (by omega) htb hT3) (Below.refl _ _) (fun _ => rfl) (by omega) PlOk.cells
   (fun pre T W => Fr w.heap.size W3.heap.size w T W /\ W.heap[w.heap.size + 2]? = some (.cells #[.bool false] 4 (0, 0)) /\ ∃ P g cap es, goT [rootT u] (pre.map Pl.p3) = some P /\ Way W (w.heap.size + 5) (w.heap.size + 6) T P g cap es)
   (fun cc pre W => cc = .ret /\ Below w.heap.size w W /\ W3.heap.size <= W.heap.size /\ W.heap[w.heap.size + 2]? = some (.cells #[.bool false] 4 (0, 0)) /\ goT [rootT u] (pre.map Pl.p3) = none)
   (fun pre T T' W W' h hc => ⟨h.1.calm hc, h.1.mine hc (by omega) h.2.1, by
     obtain ⟨P, g, cap, es, h1, h2⟩ := h.2.2
     exact ⟨P, g, cap, es, h1, h2.calm hc h.1.lo (by omega) (by omega) h.1.sz⟩⟩)
   (fun cc pre W l o o' h hl ho hc => ⟨h.1, h.2.1.trans ((Below.refl _ W).grown (grownBy_putObj' W l o') (by omega) (fun k e => by cases e; omega)), by simpa using h.2.2.1, (World.putObj_heap_other (by omega)).trans h.2.2.2.1, h.2.2.2.2⟩)
   ⟨Fr.start _ hb3 (by omega), hbr, _, _, _, _, rfl, hway⟩
   (fun x a' W => ∃ b, PBox x b W /\ W3.heap.size <= b /\ a' = { tmps := #[.agg #[.int .i64 t.kind, .string t.name, .int .i64 t.num, .slice A t.kids.length c], .agg #[.int .i64 u.kind, .string u.name, .int .i64 u.num, .slice B u.kids.length d], .pointer (some ⟨w.heap.size, 0, none⟩), .pointer (some ⟨w.heap.size + 1, 0, none⟩), .pointer (some ⟨w.heap.size + 1 + 1, 0, none⟩), .pointer (some ⟨w.heap.size + 1 + 1 + 1 + 1 + 1 + 1, 0, none⟩), .pointer (some ⟨b, 0, none⟩), undef, .agg #[.int .i64 u.kind, .string u.name, .int .i64 u.num, .slice B u.kids.length d], .slice (some ⟨w.heap.size + 1 + 1 + 1, 0, none⟩) 1 1, .agg #[.int .i64 0, .string ⟨#[]⟩, .int .i64 0, .slice (some ⟨w.heap.size + 1 + 1 + 1, 0, none⟩) 1 1], .pointer (some ⟨w.heap.size + 1 + 1 + 1 + 1, 0, none⟩), .slice (some ⟨w.heap.size + 1 + 1 + 1 + 1 + 1, 0, none⟩) 1 1, .agg #[.int .i64 t.kind, .string t.name, .int .i64 t.num, .slice A t.kids.length c], .func (.func 77) #[] #[.pointer (some ⟨w.heap.size + 1 + 1 + 1 + 1 + 1 + 1 + 1, 0, none⟩)], plV x, undef, undef, undef, undef, undef, undef, undef, undef, undef, undef, undef, undef, undef, undef, undef, undef, undef, undef, undef, undef, undef, undef, undef, undef, undef], defers := [] }) (fun x a' W l o o' ⟨b, h, h2, e⟩ _ hl ho => ⟨b, h.putObj hl ho, h2, e⟩) ?assign ?body ?done ?stop
 case assign =>
   intro l pre T x W K hI hV hK
   unfold plV
   gi_wp2
   refine hK _ _ (qab W _) ⟨hI.1.grow _, (Below.heap_alloc W _ _ (World.lt_of_get hI.2.1)).trans hI.2.1, ?_⟩ ⟨W.heap.size, World.alloc_heap_new W _, hI.1.sz, ?_⟩
   . obtain ⟨P, g, cap, es, h1, h2⟩ := hI.2.2
     exact ⟨P, g, cap, es, h1, h2.later (qab W _) (by omega)⟩
   . simp [plV]
 case done =>
   rintro D xs T W hD hS ⟨hF, hbr, P, g, cap, es, hP, _⟩ hK
   rw [hS] at hP
   have hE9 : Hid (eqT t u = true) := by
     show _ = _
     cases he : eqT t u with
     | true => rfl
     | false => have := (qkH t u (rootT t) (rootT u) rfl rfl).no he; rw [hP] at this; cases this
   have c0 := qaa W (w.heap.size + 2) 0 _ _ _ hbr
   have f0 : W.frozen? ⟨w.heap.size + 2, 0, none⟩ = false := qac hbr 0
   obtain ⟨k1, k2, k3, k4⟩ := hF.set (i := 0) (v := .bool true) (show w.heap.size + 2 < W3.heap.size by omega) (by omega) hbr
   have c9 := qaa _ (w.heap.size + 2) 0 _ _ _ (heap_setCell_same W (w.heap.size + 2) 0 _ _ (.bool true) hbr)
   gi_wp2
   refine ⟨by simp, .inl ⟨_, _, rfl, run_takeDeferred ((KeepsOthers.setCell _ _ _).same D _ hK rfl), ?_⟩⟩
   have c8 : ((W.setCell ⟨w.heap.size + 2, 0, none⟩ (.bool true)).putObj D (.deferred none)).cell? ⟨w.heap.size + 2, 0, none⟩ = some (.bool true) := by
     have e : ((W.setCell ⟨w.heap.size + 2, 0, none⟩ (.bool true)).putObj D (.deferred none)).heap[w.heap.size + 2]? = _ := World.putObj_heap_other (by omega)
     unfold World.cell?
     rw [e]
     exact c9
   refine ⟨.bool true, ?_, by rw [hE9.out], k4.mark hD _⟩
   simp [results, go_sem, c8]
 case stop =>
   rintro D cc pre W hD hS ⟨rfl, hB, hs, hbr, hP⟩ hK
   have hE9 : Hid (eqT t u = false) := qsH (qkH t u (rootT t) (rootT u) rfl rfl) hS hP
   have c0 := qaa W (w.heap.size + 2) 0 _ _ _ hbr
   gi_wp2
   refine ⟨by simp, .inl ⟨_, _, rfl, run_takeDeferred hK, ?_⟩⟩
   have c8 : (W.putObj D (.deferred none)).cell? ⟨w.heap.size + 2, 0, none⟩ = some (.bool false) := by
     have e : (W.putObj D (.deferred none)).heap[w.heap.size + 2]? = _ := World.putObj_heap_other (by omega)
     unfold World.cell?
     rw [e]
     exact c0
   refine ⟨.bool false, ?_, by rw [hE9.out], hB.trans ((Below.refl _ W).grown (grownBy_putObj' W D _) (by omega) (fun k e => by cases e; omega))⟩
   simp [results, go_sem, c8]
 case body =>
   rintro l pre T ⟨xb, xo, xp, xk, xd⟩ a' W ⟨hF, hbr, P, g, cap, es, hP, hW⟩ hok ⟨b, hb, hbB, rfl⟩ hTl hsp
   have hroot := qkH t u (rootT t) (rootT u) rfl rfl
   obtain ⟨hokP, hnext⟩ := qrO hroot (by simpa using hsp) hP
   obtain ⟨q1, q2, q3⟩ := hokP
   simp only [Pl.p3] at q1 q2 q3
   obtain ⟨d', rfl⟩ : ∃ d', xd = d' + 1 := ⟨xd - 1, by omega⟩
   rw [Nat.add_sub_cancel] at q3
   have c0 := qaa W (w.heap.size + 6) 0 _ _ _ hW.var
   have f0 : W.frozen? ⟨w.heap.size + 6, 0, none⟩ = false := qac hW.var 0
   have b2 := qaa W b 2 _ _ _ hb
   have hcap : P.length <= cap := by obtain ⟨_, _, _, _, h⟩ := hW.cells; exact h
   have hcap2 : d' + 1 <= cap := by omega
   have hd9 : d' <= 4194304 := by
     have h1 := qoo _ _ _ hP
     have h2 := hsp.length_le
     rw [qeq, List.length_map, List.length_append, List.length_singleton] at h2
     rw [List.length_map, List.length_singleton] at h1
     omega
   have hwr : wrap64 (d' : Int) = (d' : Int) := by
     have h : wrap64 (d' : Int) = ((d' : Int) + 9223372036854775808) % 18446744073709551616 - 9223372036854775808 := by unfold wrap64; rfl
     rw [h]; omega
   have hW5 := hW.cut q2 (by omega)
   have hl5 : (P.take (d' + 1)).length = d' + 1 := by rw [List.length_take]; omega
   obtain ⟨k1, k2, k3, k4⟩ := hF.set (i := 0) (v := .slice (some ⟨g, 0, none⟩) (d' + 1) cap) (show w.heap.size + 6 < W3.heap.size by omega) (by omega) hW.var
   have hnt := qnQ hW.var (by intro i s e; match i, e with | 0, e => cases e | i + 1, e => simp at e)
   have hok5 : qan (W.setCell ⟨w.heap.size + 6, 0, none⟩ (.slice (some ⟨g, 0, none⟩) (d' + 1) cap)) anyB xb xo xp := qan.set hnt hok.1
   have hkk : xk < xp.kids.length := hok.2
   have hb5 := (Below.heap_setCell W ⟨w.heap.size + 6, 0, none⟩ (.slice (some ⟨g, 0, none⟩) (d' + 1) cap) b (by simp; omega)).trans hb
   have hr5 := (Below.heap_setCell W ⟨w.heap.size + 6, 0, none⟩ (.slice (some ⟨g, 0, none⟩) (d' + 1) cap) (w.heap.size + 2) (by simp)).trans hbr
   have hs5 : (W.setCell ⟨w.heap.size + 6, 0, none⟩ (.slice (some ⟨g, 0, none⟩) (d' + 1) cap)).heap.size = W.heap.size := by simp
   obtain ⟨W5, hE5⟩ : ∃ W5, W.setCell ⟨w.heap.size + 6, 0, none⟩ (.slice (some ⟨g, 0, none⟩) (d' + 1) cap) = W5 := ⟨_, rfl⟩
   rw [hE5] at hW5 k1 k2 k3 k4 hok5 hb5 hr5 hs5
   have e0 := hW5.get (i := d') (by omega)
   have en := hW5.node d' (by omega)
   have hgd : (P.take (d' + 1)).getD d' default = P.getD d' default := by rw [List.getD_eq_getElem?_getD, List.getD_eq_getElem?_getD, List.getElem?_take, if_pos (by omega)]
   rw [hgd] at en
   clear hgd
   obtain ⟨O, hO⟩ : ∃ O, P.getD d' default = O := ⟨_, rfl⟩
   rw [hO] at en q3
   have hoth : oth P (xp, xk, d' + 1) = O.kids.getD xk default := by
     show (P.getD (d' + 1 - 1) default).kids.getD xk default = _
     rw [Nat.add_sub_cancel, hO]
   replace hO := hid hO
   replace hoth := hid hoth
   obtain ⟨eb, eo, hes⟩ : ∃ eb eo, (es.take (d' + 1)).getD d' (0, 0) = (eb, eo) := ⟨_, _, rfl⟩
   rw [hes] at e0 en
   simp only [ptrV] at e0 en
   obtain ⟨A9, c9, eh⟩ := en.hdr
   obtain ⟨ob, oo, rfl, on⟩ := eh.row xk q3
   have e3 := eh.kids
   have d0 := qaa W5 (w.heap.size + 6) 0 _ _ _ hW5.var
   rw [hl5] at d0
   have b1 := qaa W5 b 1 _ _ _ hb5
   have b25 := qaa W5 b 2 _ _ _ hb5
   have b05 := qaa W5 b 0 _ _ _ hb5
   obtain ⟨A8, c8, hh⟩ := hok5.hdr
   obtain ⟨kb, ko, rfl, hn⟩ := hh.row xk hkk
   have call1 : Hid (∀ nq, Calls Tryz.prog 49 #[.agg #[.pointer (some ⟨xb, xo, none⟩), .int .i64 xk, .int .i64 ((d' : Int) + 1)]] (W5.drewN nq) fun e w' => e = .returned (.pointer (some ⟨kb, ko + xk * 4, none⟩)) /\ Below W5.heap.size W5 w') := fun nq =>
     (qdd xb xo xk (d' + 1) xp.kids.length kb ko c8 (W5.drewN nq) hh.kids hkk).mono fun e w' h => ⟨h.1, (qap (Below.refl _ W5) nq).trans h.2⟩
   have call2 : Hid (∀ W', Below W5.heap.size W5 W' -> Calls Tryz.prog 48 #[.pointer (some ⟨kb, ko + xk * 4, none⟩), .pointer (some ⟨ob, oo + xk * 4, none⟩)] W' fun e w' => e = .returned (.bool (qbh (xp.kids.getD xk default) (O.kids.getD xk default))) /\ Below W5.heap.size W5 w') := fun W' hb' => by
     obtain ⟨_, _, h1⟩ := (qan.after hb' hn).hdr
     obtain ⟨_, _, h2⟩ := (qan.after hb' (on.wide fun _ _ => trivial)).hdr
     exact (qon _ _ _ _ _ _ _ _ _ _ W' h1 h2).mono fun e w' h => ⟨h.1, hb'.trans (h.2.mono hb'.size)⟩
   have hg1 : Hid (goT [rootT u] ((pre ++ [(⟨xb, xo, xp, xk, d' + 1⟩ : Pl)]).map Pl.p3) = if qbh (xp.kids.getD xk default) (O.kids.getD xk default) = true then some (P.take (d' + 1) ++ [O.kids.getD xk default]) else none) := by
     show _ = _
     rw [List.map_append, List.map_singleton]
     refine hnext.trans ?_
     show (if qbh (xp.kids.getD xk default) (oth P (xp, xk, d' + 1)) = true then some (P.take (d' + 1) ++ [oth P (xp, xk, d' + 1)]) else none) = _
     rw [hoth.out]
   have hTl5 : ∀ k, k ∈ T -> k < W5.heap.size := fun k hk => by rw [hs5]; exact hTl k hk
   have hout : Hid (∀ W', Below W5.heap.size W5 W' -> goT [rootT u] ((pre ++ [(⟨xb, xo, xp, xk, d' + 1⟩ : Pl)]).map Pl.p3) = none -> W'.cell? ⟨w.heap.size + 2, 0, none⟩ = some (.bool false) /\ W'.frozen? ⟨w.heap.size + 2, 0, none⟩ = false /\ KeepsFrom W3.heap.size W (W'.setCell ⟨w.heap.size + 2, 0, none⟩ (.bool false)) /\ Below w.heap.size w (W'.setCell ⟨w.heap.size + 2, 0, none⟩ (.bool false)) /\ W3.heap.size <= (W'.setCell ⟨w.heap.size + 2, 0, none⟩ (.bool false)).heap.size /\ (W'.setCell ⟨w.heap.size + 2, 0, none⟩ (.bool false)).heap[w.heap.size + 2]? = some (.cells #[.bool false] 4 (0, 0)) /\ goT [rootT u] ((pre ++ [(⟨xb, xo, xp, xk, d' + 1⟩ : Pl)]).map Pl.p3) = none) := fun W' hb' hf => by
     obtain ⟨j1, j2, j3, j4⟩ := k4.call hTl5 hb'
     have hr' := (hb'.block _ (World.lt_of_get hr5)).trans hr5
     obtain ⟨i1, i2, i3, i4⟩ := j4.set (i := 0) (v := .bool false) (show w.heap.size + 2 < W3.heap.size by omega) (by omega) hr'
     exact ⟨qaa W' (w.heap.size + 2) 0 _ _ _ hr', qac hr' 0, (k1.trans j1).trans i1, i4.below, i4.sz, heap_setCell_same W' (w.heap.size + 2) 0 _ _ (.bool false) hr', hf⟩
   clear hh hn
   replace hF := hid hF
   replace hbr := hid hbr
   replace hP := hid hP
   replace hW := hid hW
   replace hok := hid hok
   replace hb := hid hb
   replace hnext := hid hnext
   replace hsp := hid hsp
   replace hW5 := hid hW5
   replace k1 := hid k1
   replace k2 := hid k2
   replace k3 := hid k3
   replace k4 := hid k4
   replace hok5 := hid hok5
   replace hb5 := hid hb5
   replace hr5 := hid hr5
   replace hs5 := hid hs5
   replace on := hid on
   replace eh := hid eh
   replace en := hid en
   replace hl5 := hid hl5
   replace hes := hid hes
   clear hroot hnt
   gi_wp2
   refine qbL (by kernel_rfl) (by kernel_rfl) (by kernel_rfl) ?_
   repeat (gi_big_quiet_step (fail))
   refine wpQuietIn_nil ?_
   rintro _ ⟨nq, rfl⟩
   gi_wp2
   refine ⟨trivial, ?_⟩
   refine CallsIn.inRound l ((callsIn_wide.2 (call1.out nq)).mono ?_)
   rintro e6 W6 ⟨rfl, hb6⟩
   replace hb6 := hid hb6
   gi_wp2
   refine ⟨trivial, ?_⟩
   refine CallsIn.inRound l ((callsIn_wide.2 (call2.out W6 hb6.out)).mono ?_)
   rintro e7 W7 ⟨rfl, hb7⟩
   cases ha : qbh (xp.kids.getD xk default) (O.kids.getD xk default) with
   | false =>
     have hf := hg1.out
     rw [ha, if_neg (by decide)] at hf
     have hfin := hout.out W7 hb7 hf
     have r0 := hfin.1
     have r1 := hfin.2.1
     replace hb7 := hid hb7
     replace hfin := hid hfin
     replace hf := hid hf
     replace ha := hid ha
     clear e0 e3 d0 b1 b25 b05 c0 f0 b2
     gi_wp2
     exact ⟨hfin.out.2.2.1, rfl, hfin.out.2.2.2⟩
   | true =>
     have hgo := hg1.out
     rw [ha, if_pos rfl] at hgo
     obtain ⟨i0, hi, hi2⟩ := Option.map_eq_some_iff.1 qpZ
     obtain ⟨hz0, hz1, hz2⟩ : i0.zero = some (.pointer none) /\ i0.size = 1 /\ i0.bytes = 8 := by
       injection hi2 with h1 h2; injection h2 with h2 h3; exact ⟨h1, h2, h3⟩
     clear hi2
     obtain ⟨W8, hE8⟩ : ∃ W8, W7.alloc (.cells #[.pointer (some ⟨ob, oo + xk * 4, none⟩)] 107) = W8 := ⟨_, rfl⟩
     have hb8 : Below W5.heap.size W5 W8 := by rw [<- hE8]; exact hb7.trans ((qab W7 _).mono hb7.size)
     have hW7 := hW5.out.later hb7 (by omega)
     have hW8 := hW5.out.later hb8 (by omega)
     have d7 := qaa W7 (w.heap.size + 6) 0 _ _ _ hW7.var
     rw [hl5.out] at d7
     have own8 := hW8.own
     rw [hl5.out] at own8
     obtain ⟨j1, j2, j3, j4⟩ := k4.out.call hTl5 hb8
     have hT8 : ∀ k, k ∈ T -> k < W8.heap.size := fun k hk => Nat.lt_of_lt_of_le (hTl5 k hk) hb8.size
     have hr8 := (hb8.block _ (World.lt_of_get hr5.out)).trans hr5.out
     have hn8 : qan W8 (· < w.heap.size + 5) ob (oo + xk * 4) (O.kids.getD xk default) := qan.kept (fun _ h => h) (fun k hk => hb8.block k (by have := World.lt_of_get hW5.out.var; omega)) on.out
     have hsz8 : w.heap.size + 5 <= W8.heap.size := by have := World.lt_of_get hW8.var; omega
     have hnew := qmB W7 (.pointer (some ⟨ob, oo + xk * 4, none⟩)) 107
     rw [hE8] at hnew
     -- what stands behind the append
     have hend : Hid (∀ v5 w5, w5.ownsRow (w.heap.size + 5) 107 1 v5 (d' + 1 + 1) ((es.take (d' + 1)).map ptrV ++ [.pointer (some ⟨ob, oo + xk * 4, none⟩)]) -> W8.grownBy w5 (Value.ownBlock (.slice (some ⟨g, 0, none⟩) (d' + 1) cap)) -> (v5.ownBlock = Value.ownBlock (.slice (some ⟨g, 0, none⟩) (d' + 1) cap) ∨ v5.ownBlock = some W8.heap.size) →
         ∃ g' cap', v5 = .slice (some ⟨g', 0, none⟩) (d' + 1 + 1) cap' /\ (w5.cell? ⟨w.heap.size + 6, 0, none⟩ = some (.slice (some ⟨g, 0, none⟩) (d' + 1) cap) /\ w5.frozen? ⟨w.heap.size + 6, 0, none⟩ = false) ∧
         Hid (KeepsFrom W3.heap.size W (w5.setCell ⟨w.heap.size + 6, 0, none⟩ v5) /\ KeepT T W (w5.setCell ⟨w.heap.size + 6, 0, none⟩ v5) /\ Below w.heap.size W (w5.setCell ⟨w.heap.size + 6, 0, none⟩ v5) /\ (Fr w.heap.size W3.heap.size w T (w5.setCell ⟨w.heap.size + 6, 0, none⟩ v5) /\ (w5.setCell ⟨w.heap.size + 6, 0, none⟩ v5).heap[w.heap.size + 2]? = some (.cells #[.bool false] 4 (0, 0)) /\ ∃ P g cap es, goT [rootT u] ((pre ++ [(⟨xb, xo, xp, xk, d' + 1⟩ : Pl)]).map Pl.p3) = some P /\ Way (w5.setCell ⟨w.heap.size + 6, 0, none⟩ v5) (w.heap.size + 5) (w.heap.size + 6) T P g cap es))) := fun v5 w5 hown5 hgrow5 hat5 => by
       have hrow : Value.ownBlock (.slice (some ⟨g, 0, none⟩) (d' + 1) cap) = some g := rfl
       obtain ⟨cur, ty, f, hcg, _⟩ := hW8.cells
       obtain ⟨m1, m2, m3, m4⟩ := j4.grown (W' := w5) (g := g) (by rw [<- hrow]; exact hgrow5) hW8.gT (by have := hW8.gb; omega) ⟨cur, ty, f, hcg⟩ hT8
       have hv5 : w5.heap[w.heap.size + 6]? = some (.cells #[.slice (some ⟨g, 0, none⟩) (d' + 1) cap] 108 (0, 0)) := by
         have := hW8.var
         rw [hl5.out] at this
         exact (hgrow5.block _ (World.lt_of_get this) (by rw [hrow]; exact fun e => hW8.gp (by cases e; rfl))).trans this
       obtain ⟨g', cap', hv9, _, hW9⟩ := hW8.push (ob, oo + xk * 4) (O.kids.getD xk default) hn8 hl5.out.symm hown5 hgrow5 hat5 hT8 (by omega)
       obtain ⟨i1, i2, i3, i4⟩ := m4.set (i := 0) (v := v5) (show w.heap.size + 6 < W3.heap.size by omega) (by omega) hv5
       have hr9 : (w5.setCell ⟨w.heap.size + 6, 0, none⟩ v5).heap[w.heap.size + 2]? = some (.cells #[.bool false] 4 (0, 0)) :=
         (Below.heap_setCell _ _ _ _ (by simp)).trans ((hgrow5.block _ (World.lt_of_get hr8) (by rw [hrow]; exact fun e => by have := hW8.gb; cases e; omega)).trans hr8)
       exact ⟨g', cap', hv9, ⟨qaa _ _ 0 _ _ _ hv5, qac hv5 0⟩, ((k1.out.trans j1).trans m1).trans i1, fun k hk => (i2 k hk).trans ((m2 k hk).trans ((j2 k hk).trans (k2.out k hk))), ((k3.out.trans j3).trans m3).trans i3, i4, hr9, _, g', cap', _, hgo, hW9⟩
     replace hi := hid hi
     replace hz0 := hid hz0
     replace hz1 := hid hz1
     replace hz2 := hid hz2
     replace own8 := hid own8
     replace hb7 := hid hb7
     replace hb8 := hid hb8
     replace hW7 := hid hW7
     replace hW8 := hid hW8
     replace hgo := hid hgo
     replace hr8 := hid hr8
     replace hn8 := hid hn8
     replace hnew := hid hnew
     replace ha := hid ha
     replace hE8 := hid hE8
     clear e0 e3 d0 b1 b25 b05 c0 f0 b2 j1 j2 j3 j4
     gi_wp2_with (gi_at_builtin; rw [hE8.out]; refine wpListIn_append_own_at _ rfl _ _ 108 rfl (w.heap.size + 5) 107 i0 (.pointer none) 1 8 Tryz.underlying108 hi.out hz0.out hz1.out hz2.out rfl (by decide) _ _ _ rfl own8.out ⟨W7.heap.size, 0, none⟩ 1 1 [.pointer (some ⟨ob, oo + xk * 4, none⟩)] rfl rfl hnew.out (one1 _) (by unfold maxLen; omega) (by omega) hsz8 ?_; intro v5 w5 hown5 hgrow5 _ hat5; obtain ⟨g', cap', rfl, ⟨u1, u2⟩, u3⟩ := hend.out v5 w5 hown5 hgrow5 hat5; clear hown5 hgrow5 hat5)
     all_goals exact u3.out
end Go.Proofs.YtjnfhebbphdchaaGreatDoor
namespace Go.Proofs.YtjnfhebbphdchaaGreatDoor
open Go.RowKit Go.Shelf Go.Tm Go.Maps
attribute [local go_sem] Oper.semAt_some
theorem TmV.later {W W' : World} {t : Go.Tm.T} {A : Option Addr} {c : Nat} (h : TmV W (· < W.heap.size) t A c) (hb : Below W.heap.size W W') : TmV W' (· < W'.heap.size) t A c :=
 h.kept (fun b hb2 => by have := hb.size; have h3 : b < W.heap.size := hb2; show b < _; omega) (fun b hb2 => hb.block b hb2)
theorem TmV.leaf (W : World) (p : Nat -> Prop) {k n : Int} {s : ByteArray} (hs : s.size <= 9223372036854775807) : TmV W p (.node k s n []) none 0 := ⟨hs, .inl rfl⟩
def tmC (x : Go.Tm.T × Option Addr × Nat) : List Value := [.int .i64 x.1.kind, .string x.1.name, .int .i64 x.1.num, .slice x.2.1 x.1.kids.length x.2.2]
theorem qop {W : World} {p : Nat -> Prop} {b : Nat} (hb : p b) : ∀ (xs : List (Go.Tm.T × Option Addr × Nat)) (o : Nat), (∀ x ∈ xs, TmV W p x.1 x.2.1 x.2.2) -> (∀ i v, (xs.flatMap tmC)[i]? = some v -> W.cell? ⟨b, o + i, none⟩ = some v) -> RowAt W p b o (xs.map (·.1))
 | [], o, _, _ => by rw [List.map_nil, RowAt]; trivial
 | x :: xs, o, hT, hc => by
   rw [List.map_cons, RowAt]
   have hx := hT x (by simp)
   refine ⟨?_, qop hb xs (o + 4) (fun y hy => hT y (by simp [hy])) fun i v hv => ?_⟩
   . have h0 := hc 0 _ rfl
     have h1 := hc 1 _ rfl
     have h2 := hc 2 _ rfl
     have h3 := hc 3 _ rfl
     rw [T.eta x.1, qan]
     exact ⟨hb, hx.nsz, h0, h1, h2, x.2.1, x.2.2, h3, hx.row⟩
   . have := hc (4 + i) v (by rw [List.flatMap_cons, List.getElem?_append_right (by simp [tmC])]; simpa [tmC] using hv)
     rwa [<- Nat.add_assoc] at this
theorem qqa {a b : ByteArray} : (a.toList == b.toList) = true ↔ a = b := by
 rw [beq_iff_eq, ByteArray.toList_eq, ByteArray.toList_eq]
 constructor
 . intro h
   have h3 : a.data = b.data := Array.toList_inj.1 h
   cases a; cases b; cases h3; rfl
 . rintro rfl; rfl
end Go.Proofs.YtjnfhebbphdchaaGreatDoor
