/-
  The names that are free in a term: as a question of its tree, and by a walk with a list of the binders that stand round. No condition.
  What Free keeps while it goes through a term: two maps, a list of binders. No condition.
-/
import Derived.Test.YthmchdpinobbgaaGreatDoorTmMath
import Derived.Test.YthmchdpinobbgaaGreatDoorTmDepth
import Derived.Test.YthmchdpinobbgaaGreatDoorTmFr
import Derived.Maps.OwnIn
import Derived.Sort.KeysCollected
namespace Go.Tm

/-- the kinds that bind -/
def bindK (k : Int) : Bool := k == 3 || k == 5 || k == 9
mutual
/-- is a name free in a term? -/
def T.free (s : ByteArray) : T → Bool
  | .node k nm _ ks => (k == 2 && decide (nm = s)) || frees s (bindK k && decide (nm = s)) ks
def frees (s : ByteArray) (b : Bool) : List T → Bool
  | [] => false
  | t :: ts => (t.free s && !(b && ts.isEmpty)) || frees s b ts
end

/-- a binder on the list: its name, and how deep its last kid stands -/
abbrev B2 := ByteArray × Nat
/-- what is left of the list where a place of that depth comes -/
def popR (d : Nat) : List B2 → List B2
  | [] => []
  | b :: l => if d ≤ b.2 then popR d l else b :: l
def pop (d : Nat) (l : List B2) : List B2 := (popR d l.reverse).reverse
theorem pop_nil (d : Nat) : pop d [] = [] := rfl
theorem pop_snoc (d : Nat) (l : List B2) (b : B2) : pop d (l ++ [b]) = if d ≤ b.2 then pop d l else l ++ [b] := by
  unfold pop
  rw [List.reverse_append]
  show (popR d (b :: l.reverse)).reverse = _
  rw [popR]
  split
  · rfl
  · simp
theorem popR_popR {d e : Nat} (h : d ≤ e) : ∀ l, popR d (popR e l) = popR d l
  | [] => rfl
  | b :: l => by
    rw [popR]
    split
    · rename_i h1
      rw [popR_popR h l, popR, if_pos (by omega)]
    · rfl
theorem pop_pop {d e : Nat} (h : d ≤ e) (l : List B2) : pop d (pop e l) = pop d l := by
  unfold pop; rw [List.reverse_reverse, popR_popR h]
theorem popR_idem {d e : Nat} (h : d ≤ e) : ∀ l, popR e (popR d l) = popR d l
  | [] => rfl
  | b :: l => by
    rw [popR]
    split
    · exact popR_idem h l
    · rename_i h1
      rw [popR, if_neg (by omega)]
theorem pop_idem {d e : Nat} (h : d ≤ e) (l : List B2) : pop e (pop d l) = pop d l := by
  unfold pop; rw [List.reverse_reverse, popR_idem h]
theorem pop_len (d : Nat) (l : List B2) : (pop d l).length ≤ l.length := by
  have : ∀ l : List B2, (popR d l).length ≤ l.length := fun l => by
    induction l with
    | nil => exact Nat.le_refl _
    | cons b l ih => rw [popR]; split <;> simp; omega
  unfold pop
  have := this l.reverse
  simpa using this

/-- the place of a binder's last kid -/
def lastB (p : P3) : Bool := (p.2.1 + 1 == p.1.kids.length) && bindK p.1.kind
def p3k (p : P3) : T := p.1.kids.getD p.2.1 default
/-- how many binders of a name stand on the list -/
def cnt (s : ByteArray) (l : List B2) : Nat := l.countP (fun b => decide (b.1 = s))
theorem cnt_snoc (s : ByteArray) (l : List B2) (b : B2) : cnt s (l ++ [b]) = cnt s l + if decide (b.1 = s) then 1 else 0 := by
  unfold cnt
  rw [List.countP_append, List.countP_singleton]
theorem cnt_le (s : ByteArray) (l : List B2) : cnt s l ≤ l.length := List.countP_le_length

/-- what is kept between two places: the binders that stand round, the names that were met free -/
abbrev St := List B2 × List ByteArray
def stack (S : List B2) (p : P3) : List B2 := pop p.2.2 S ++ if lastB p then [(p.1.name, p.2.2)] else []
def step (st : St) (p : P3) : St :=
  let S := stack st.1 p
  (S, if (p3k p).kind == 2 && cnt (p3k p).name S == 0 then st.2 ++ [(p3k p).name] else st.2)
def runS (st : St) (L : List P3) : St := L.foldl step st
theorem runS_app (st : St) (a b : List P3) : runS st (a ++ b) = runS (runS st a) b := List.foldl_append
theorem runS_snoc (st : St) (a : List P3) (p : P3) : runS st (a ++ [p]) = step (runS st a) p := by rw [runS_app]; rfl
theorem runS_len : ∀ (L : List P3) (st : St), (runS st L).1.length ≤ st.1.length + L.length ∧ (runS st L).2.length ≤ st.2.length + L.length
  | [], st => ⟨Nat.le_refl _, Nat.le_refl _⟩
  | p :: L, st => by
    have h := runS_len L (step st p)
    have h1 : (step st p).1.length ≤ st.1.length + 1 := by
      show (stack st.1 p).length ≤ _
      unfold stack
      rw [List.length_append]
      have := pop_len p.2.2 st.1
      split <;> simp <;> omega
    have h2 : (step st p).2.length ≤ st.2.length + 1 := by
      show (if _ then _ else _ : List ByteArray).length ≤ _
      split <;> simp
    show (runS (step st p) L).1.length ≤ _ ∧ _
    rw [List.length_cons]
    exact ⟨Nat.le_trans h.1 (by omega), Nat.le_trans h.2 (by omega)⟩

/-- WHAT A WALK DOES: what stood round at a depth up to its own stands round again; the names that it adds. -/
structure Did (d : Nat) (st st' : St) (fr : ByteArray → Bool) : Prop where
  pops : ∀ e, e ≤ d → pop e st'.1 = pop e st.1
  names : ∀ s, s ∈ st'.2 ↔ s ∈ st.2 ∨ fr s = true

theorem free_eq (s : ByteArray) (t : T) : t.free s = ((t.kind == 2 && decide (t.name = s)) || frees s (bindK t.kind && decide (t.name = s)) t.kids) := by cases t; rfl
mutual
theorem did_walk : ∀ (t : T) (par : T) (i d : Nat) (st : St), i < par.kids.length → par.kids.getD i default = t → Did d st (runS st (walk par i d t)) (fun s => t.free s && !(lastB (par, i, d) && decide (par.name = s)) && cnt s (pop d st.1) == 0)
  | .node k nm n ks, par, i, d, st, hi, ht => by
    rw [walk]
    show Did d st (runS (step st (par, i, d)) (walks (.node k nm n ks) 0 (d + 1) ks)) _
    have hk : p3k (par, i, d) = .node k nm n ks := ht
    have hS : (step st (par, i, d)).1 = pop d st.1 ++ if lastB (par, i, d) then [(par.name, d)] else [] := rfl
    have hp1 : pop (d + 1) (step st (par, i, d)).1 = (step st (par, i, d)).1 := by
      rw [hS]
      split
      · rw [pop_snoc, if_neg (by show ¬ d + 1 ≤ d; omega)]
      · rw [List.append_nil, pop_idem (Nat.le_succ d)]
    have hp2 : ∀ e, e ≤ d → pop e (step st (par, i, d)).1 = pop e st.1 := fun e he => by
      rw [hS]
      split
      · rw [pop_snoc, if_pos (by show e ≤ d; exact he), pop_pop he]
      · rw [List.append_nil, pop_pop he]
    have hc : ∀ s, (cnt s (step st (par, i, d)).1 == 0) = (!(lastB (par, i, d) && decide (par.name = s)) && cnt s (pop d st.1) == 0) := fun s => by
      rw [hS]
      cases hl : lastB (par, i, d) with
      | false => simp
      | true =>
        rw [if_pos rfl, cnt_snoc]
        cases hn : decide (par.name = s) <;> simp
    have hw := did_walks ks (.node k nm n ks) 0 (d + 1) (step st (par, i, d)) (by simp [T.kids]) (fun j _ => by rw [Nat.zero_add]; rfl)
    rw [hp1] at hw
    refine ⟨fun e he => (hw.pops e (by omega)).trans (hp2 e he), fun s => ?_⟩
    rw [hw.names s, hc s]
    have h2 : (step st (par, i, d)).2 = if k == 2 && cnt nm (step st (par, i, d)).1 == 0 then st.2 ++ [nm] else st.2 := by
      show (if (p3k (par, i, d)).kind == 2 && cnt (p3k (par, i, d)).name _ == 0 then _ else _) = _
      rw [hk]; rfl
    rw [h2, free_eq]
    show _ ∨ (frees s (bindK k && decide (nm = s)) ks && (!(lastB (par, i, d) && decide (par.name = s)) && cnt s (pop d st.1) == 0)) = true ↔ _ ∨ (((k == 2 && decide (nm = s)) || frees s (bindK k && decide (nm = s)) ks) && !(lastB (par, i, d) && decide (par.name = s)) && cnt s (pop d st.1) == 0) = true
    cases hk2 : k == 2 with
    | false =>
      rw [Bool.false_and, if_neg (by decide)]
      simp [Bool.and_assoc]
    | true =>
      rw [Bool.true_and, hc nm]
      rw [Bool.and_assoc (_ || _)]
      by_cases hnm : nm = s
      · subst hnm
        rw [show (decide (nm = nm)) = true by simp]
        generalize (!(lastB (par, i, d) && decide (par.name = nm)) && cnt nm (pop d st.1) == 0) = c
        generalize frees nm (bindK k && true) ks = y
        cases c <;> cases y <;> simp
      · rw [show (decide (nm = s)) = false by simpa using hnm]
        generalize (!(lastB (par, i, d) && decide (par.name = s)) && cnt s (pop d st.1) == 0) = c
        generalize frees s (bindK k && false) ks = y
        have h5 : ¬ s = nm := fun h => hnm h.symm
        cases c <;> cases y <;> split <;> simp [h5]
theorem did_walks : ∀ (ts : List T) (par : T) (i d : Nat) (st : St), i + ts.length = par.kids.length → (∀ j, j < ts.length → par.kids.getD (i + j) default = ts.getD j default) → Did d st (runS st (walks par i d ts)) (fun s => frees s (bindK par.kind && decide (par.name = s)) ts && cnt s (pop d st.1) == 0)
  | [], par, i, d, st, _, _ => by
    rw [walks]
    exact ⟨fun _ _ => rfl, fun s => by simp [frees, runS]⟩
  | t :: ts, par, i, d, st, hl, hg => by
    rw [walks, runS_app]
    rw [List.length_cons] at hl
    have h1 := did_walk t par i d st (by omega) (by have := hg 0 (by simp); simpa using this)
    have h2 := did_walks ts par (i + 1) d (runS st (walk par i d t)) (by omega) (fun j hj => by
      have := hg (j + 1) (by simpa using hj)
      rw [show i + 1 + j = i + (j + 1) by omega]
      exact this)
    rw [h1.pops d (Nat.le_refl _)] at h2
    refine ⟨fun e he => (h2.pops e he).trans (h1.pops e he), fun s => ?_⟩
    rw [h2.names s, h1.names s]
    have hlast : lastB (par, i, d) = (bindK par.kind && ts.isEmpty) := by
      show ((i + 1 == par.kids.length) && _) = _
      rw [Bool.and_comm]
      congr 1
      cases ts with
      | nil => rw [← hl]; simp
      | cons a b =>
        rw [List.length_cons] at hl
        show _ = false
        rw [beq_eq_false_iff_ne]; omega
    show (_ ∨ (t.free s && !(lastB (par, i, d) && decide (par.name = s)) && cnt s (pop d st.1) == 0) = true) ∨ (frees s _ ts && cnt s (pop d st.1) == 0) = true ↔ _ ∨ (((t.free s && !((bindK par.kind && decide (par.name = s)) && ts.isEmpty)) || frees s _ ts) && cnt s (pop d st.1) == 0) = true
    rw [hlast, show ((bindK par.kind && ts.isEmpty) && decide (par.name = s)) = ((bindK par.kind && decide (par.name = s)) && ts.isEmpty) by cases bindK par.kind <;> cases ts.isEmpty <;> cases (decide (par.name = s)) <;> rfl]
    generalize (cnt s (pop d st.1) == 0) = c
    generalize (t.free s && !((bindK par.kind && decide (par.name = s)) && ts.isEmpty)) = x
    generalize frees s (bindK par.kind && decide (par.name = s)) ts = y
    cases c <;> cases x <;> cases y <;> simp
end
/-- THE WHOLE. -/
theorem run_root (t r : T) (hr : r.kids = [t]) (hk : bindK r.kind = false) (s : ByteArray) : s ∈ (runS ([], []) (walk r 0 1 t)).2 ↔ t.free s = true := by
  have h := (did_walk t r 0 1 ([], []) (by rw [hr]; simp) (by rw [hr]; rfl)).names s
  rw [h]
  have : lastB (r, 0, 1) = false := by unfold lastB; rw [hk]; simp
  simp [this, pop, popR, cnt]
/-! what holds a place is the first holder, or one of the terms gone through -/
mutual
theorem walk_par : ∀ (t : T) (par : T) (i d : Nat) (p : P3), p ∈ walk par i d t → p.1 = par ∨ p.1.size ≤ t.size
  | .node k nm n ks, par, i, d, p, hp => by
    rw [walk] at hp
    rcases List.mem_cons.1 hp with rfl | hp
    · exact .inl rfl
    · right
      rcases walks_par ks (.node k nm n ks) 0 (d + 1) p hp with h | h
      · rw [h]; exact Nat.le_refl _
      · rw [T.size]; omega
theorem walks_par : ∀ (ts : List T) (par : T) (i d : Nat) (p : P3), p ∈ walks par i d ts → p.1 = par ∨ p.1.size ≤ sizes ts
  | [], _, _, _, p, hp => by rw [walks] at hp; cases hp
  | t :: ts, par, i, d, p, hp => by
    rw [walks] at hp
    rw [sizes]
    rcases List.mem_append.1 hp with hp | hp
    · rcases walk_par t par i d p hp with h | h
      · exact .inl h
      · exact .inr (by omega)
    · rcases walks_par ts par (i + 1) d p hp with h | h
      · exact .inl h
      · exact .inr (by omega)
end
end Go.Tm
namespace Go.Proofs.YthmchdpinobbgaaGreatDoor
open Go.RowKit Go.Shelf Go.Tm Go.Maps

def keyL (s : ByteArray) : Lit := .string s.data.toList
theorem keyL_inj {s s' : ByteArray} (h : keyL s = keyL s') : s = s' := by
  have h2 : s.data.toList = s'.data.toList := by injection h
  have h3 : s.data = s'.data := Array.toList_inj.1 h2
  cases s; cases s'; cases h3; rfl
theorem keyL_ne {s s' : ByteArray} (h : s ≠ s') : keyL s ≠ keyL s' := fun e => h (keyL_inj e)
theorem keyL_key (s : ByteArray) : WideAt.IsKeyLit (keyL s) := trivial
theorem lawS : Keyed Tryz.prog 9 := string_keyed Tryz.underlying9
theorem keyS {s : ByteArray} (h : s.size ≤ 9223372036854775807) : keyOf Tryz.prog 9 (.string s) = some (keyL s) := WideMaps.keyOf_string_mk Tryz.underlying9 (by unfold maxLen; omega)
theorem zeroI (w : World) : (zeroValue 3).run Tryz.prog w = .ok (.int .i64 0) w := by kernel_rfl

def uB : DataW Unit := .lit (.bool true)
def zI : DataW Unit := .lit (.int .i64 0)
/-- a map of counts reads as the list of binders -/
def Counts (D : DataW Unit) (S : List B2) : Prop := ∀ s : ByteArray, D.atKey (keyL s) zI = .lit (.int .i64 (cnt s S : Nat))
theorem Counts.put {D : DataW Unit} (hD : IsMap D) {S S' : List B2} {s : ByteArray} (h : Counts D S) {v : Int} (hv : v = (cnt s S' : Nat)) (ho : ∀ s', s' ≠ s → cnt s' S' = cnt s' S) : Counts (D.put (keyL s) (.lit (.int .i64 v))) S' := fun s' => by
  by_cases e : s' = s
  · subst e
    rw [atKey_put_same hD (keyL_key s'), hv]
  · rw [atKey_put_other (keyL_ne e), h s', ho s' e]
def b2 (x : Pl) : B2 := (x.par.name, x.depth)

/-- the state: w: the world ahead of the call; T: the iterator's blocks; k: how many places have come; S: the binders that stand round; F: the names met -/
structure FI (w : World) (B : Nat) (T : List Nat) (k : Nat) (S : List Pl) (F : List ByteArray) (W : World) : Prop where
  fr : Fr w.heap.size B w T W
  hB : B = w.heap.size + 7
  fv : W.heap[w.heap.size + 2]? = some (.cells #[.map (some (w.heap.size + 1))] 63 (0, 0))
  bv : W.heap[w.heap.size + 4]? = some (.cells #[.map (some (w.heap.size + 3))] 64 (0, 0))
  sv : ∃ a cap, W.heap[w.heap.size + 5]? = some (.cells #[.slice a S.length cap] 65 (0, 0)) ∧ W.ownsRow B 60 3 (.slice a S.length cap) S.length (cellsP S) ∧ ∀ g, (Value.slice a S.length cap).ownBlock = some g → g ∉ T
  fm : W.ownsMap Tryz.prog 9 (plainElem Tryz.prog 4) (w.heap.size + 1) F.length (setOf uB (F.map keyL))
  bm : ∃ n D, n + S.length ≤ 2 * k ∧ W.ownsMap Tryz.prog 9 (plainElem Tryz.prog 3) (w.heap.size + 3) n D ∧ Counts D (S.map b2)
  nd : ∀ x, x ∈ S → NodeAt W (PS w.heap.size W) x.blk x.off x.par ∧ x.kid < x.par.kids.length
/-- what a round may turn -/
structure Turn (w : World) (B : Nat) (T : List Nat) (W W' : World) : Prop where
  keeps : KeepsFrom B W W'
  keepT : KeepT T W W'
  below : Below w.heap.size W W'
  node : ∀ b, TyB W b → W'.heap[b]? = W.heap[b]?
theorem Turn.refl (w : World) (B : Nat) (T : List Nat) (W : World) : Turn w B T W W := ⟨KeepsFrom.refl _ _, fun _ _ => rfl, Below.refl _ _, fun _ _ => rfl⟩
theorem Turn.trans {w : World} {B : Nat} {T : List Nat} {W W' W'' : World} (h : Turn w B T W W') (k : Turn w B T W' W'') : Turn w B T W W'' := ⟨h.keeps.trans k.keeps, fun i hi => (k.keepT i hi).trans (h.keepT i hi), h.below.trans k.below, fun b hb => (k.node b (hb.same (h.node b hb))).trans (h.node b hb)⟩

section
variable {w : World} {B : Nat} {T T' : List Nat} {k : Nat} {S : List Pl} {F : List ByteArray} {W W' : World}
theorem ownsMap_same {P : Program} {kt : TypeId} {R : Value → Option (DataW Unit × List MemPlace)} {b n : Nat} {D : DataW Unit} (h : W.ownsMap P kt R b n D) (e : W'.heap[b]? = W.heap[b]?) : W'.ownsMap P kt R b n D := by
  obtain ⟨es, clock, hb, r⟩ := h
  exact ⟨es, clock, e.trans hb, r⟩
theorem ownsRow_same {base : Nat} {e : TypeId} {size n : Nat} {v : Value} {xs : List Value} (h : W.ownsRow base e size v n xs) (he : ∀ g, v.ownBlock = some g → W'.heap[g]? = W.heap[g]?) : W'.ownsRow base e size v n xs := by
  obtain ⟨h1, h2 | ⟨g, cap, cur, rfl, hb, hg, r⟩⟩ := h
  · exact ⟨h1, .inl h2⟩
  · exact ⟨h1, .inr ⟨g, cap, cur, rfl, hb, (he g rfl).trans hg, r⟩⟩
theorem ownsRow_at {base : Nat} {e : TypeId} {size n : Nat} {v : Value} {xs : List Value} (h : W.ownsRow base e size v n xs) {g : Nat} (hg : v.ownBlock = some g) : ∃ cur, W.heap[g]? = some (.cells cur e (0, 0)) ∧ base ≤ g := by
  obtain ⟨h1, h2 | ⟨g', cap, cur, rfl, hb, hg', r⟩⟩ := h
  · rw [h2.1] at hg; cases hg
  · cases hg; exact ⟨cur, hg', hb⟩

/-- all of it lies as it lay -/
theorem FI.move (h : FI w B T k S F W) (hfr : Fr w.heap.size B w T' W') (hl : ∀ b, w.heap.size ≤ b → b < B → W'.heap[b]? = W.heap[b]?)
    (hr : ∀ g cur, B ≤ g → g ∉ T → W.heap[g]? = some (.cells cur 60 (0, 0)) → W'.heap[g]? = W.heap[g]? ∧ g ∉ T') (hn : ∀ b, TyB W b → W'.heap[b]? = W.heap[b]?) : FI w B T' k S F W' := by
  have hB := h.hB
  obtain ⟨a, cap, s1, s2, s3⟩ := h.sv
  obtain ⟨n, D, m1, m2, m3⟩ := h.bm
  refine ⟨hfr, hB, (hl _ (by omega) (by omega)).trans h.fv, (hl _ (by omega) (by omega)).trans h.bv, ⟨a, cap, (hl _ (by omega) (by omega)).trans s1, ownsRow_same s2 fun g hg => ?_, fun g hg => ?_⟩, ownsMap_same h.fm (hl _ (by omega) (by omega)), ⟨n, D, m1, ownsMap_same m2 (hl _ (by omega) (by omega)), m3⟩, fun x hx => ⟨NodeAt.stay (fun b hb => (hfr.below.block b hb).trans (h.fr.below.block b hb).symm) hn (h.nd x hx).1, (h.nd x hx).2⟩⟩
  · obtain ⟨cur, hc, hb⟩ := ownsRow_at s2 hg
    exact (hr g cur hb (s3 g hg) hc).1
  · obtain ⟨cur, hc, hb⟩ := ownsRow_at s2 hg
    exact (hr g cur hb (s3 g hg) hc).2
theorem FI.calm (h : FI w B T k S F W) (hc : CalmV B T T' W W') : FI w B T' k S F W' := by
  have hsz := h.fr.sz
  refine h.move (h.fr.calm hc) (fun b _ hb => ?_) (fun g cur hb hT hg => ⟨(hc.same g _ hg hT (.inr rfl)).trans hg.symm, fun e => ?_⟩) hc.node
  · obtain ⟨o, ho⟩ : ∃ o, W.heap[b]? = some o := ⟨_, Array.getElem?_eq_getElem (by omega)⟩
    exact (hc.same b o ho (fun e => by have := h.fr.lo b e; omega) (.inl hb)).trans ho.symm
  · rcases hc.fresh g e with e | e
    · exact hT e
    · have := World.lt_of_get hg; omega
/-- a call that lays blocks alone -/
theorem FI.later (h : FI w B T k S F W) (hb : Below W.heap.size W W') : FI w B T k S F W' := by
  have hsz := h.fr.sz
  exact h.move (h.fr.later hb) (fun b _ h1 => hb.block b (by omega)) (fun g cur _ hT hg => ⟨hb.block g (World.lt_of_get hg), hT⟩) (fun b hb2 => by obtain ⟨_, _, hb2⟩ := hb2; exact hb.block b (World.lt_of_get hb2))
theorem Turn.call (h : Fr w.heap.size B w T W) (hT : ∀ b, b ∈ T → b < W.heap.size) (hb : Below W.heap.size W W') : Turn w B T W W' := by
  obtain ⟨h1, h2, h3, _⟩ := h.call hT hb
  exact ⟨h1, h2, h3, fun b ⟨_, _, h4⟩ => hb.block b (World.lt_of_get h4)⟩
/-- one of the frame's maps is turned -/
theorem Turn.map {b : Nat} (hfr : Fr w.heap.size B w T W) (hg : W.grownBy W' (some b)) (h1 : w.heap.size ≤ b) (h2 : b < B) (hT : ∀ k, k ∈ T → k < W.heap.size) (hm : ¬ TyB W b) : Turn w B T W W' ∧ Fr w.heap.size B w T W' := by
  have hb : Below w.heap.size W W' := (Below.refl w.heap.size W).grown hg (Nat.le_trans hfr.n0B hfr.sz) (fun k e => by cases e; exact h1)
  exact ⟨⟨KeepsFrom.of_grownBy hg (fun j e => by cases e; exact h2), fun k hk => hg.block k (hT k hk) (fun e => by cases e; have := hfr.lo b hk; omega), hb, fun b' hb' => hg.block b' (by obtain ⟨_, _, h4⟩ := hb'; exact World.lt_of_get h4) (fun e => by cases e; exact hm hb')⟩, ⟨hfr.below.trans hb, hfr.lo, hfr.n0B, Nat.le_trans hfr.sz hg.size⟩⟩
/-- one of the frame's variables is written -/
theorem Turn.set {b : Nat} {v : Value} {cs : Array Value} {t : TypeId} (hfr : Fr w.heap.size B w T W) (h1 : w.heap.size ≤ b) (h2 : b < B) (hb : W.heap[b]? = some (.cells cs t (0, 0))) (ht : t ≠ 24) : Turn w B T W (W.setCell ⟨b, 0, none⟩ v) ∧ Fr w.heap.size B w T (W.setCell ⟨b, 0, none⟩ v) := by
  obtain ⟨k1, k2, k3, k4⟩ := hfr.set (i := 0) (v := v) h2 h1 hb
  refine ⟨⟨k1, k2, k3, fun b' hb' => Below.heap_setCell _ _ _ _ fun e => ?_⟩, k4⟩
  obtain ⟨_, _, h4⟩ := hb'
  have e' : b' = b := e
  rw [e', hb] at h4
  injection h4 with h4
  injection h4 with _ h5
  exact ht h5
end
theorem made_of {W : World} {b : Nat} {P : Program} {kt : TypeId} {R : Value → Option (DataW Unit × List MemPlace)} (h : W.heap[b]? = some (.map #[] 0)) : W.ownsMap P kt R b 0 (.map []) :=
  ⟨#[], 0, h, ⟨by simp, MapKept.stamped_empty 0, by simp⟩, Nat.le_refl _, rfl⟩

mutual
/-- a node lies in blocks of cells -/
theorem NodeAt.celled {W : World} {p : Nat → Prop} : ∀ {b o : Nat} {t : Go.Tm.T}, NodeAt W p b o t → NodeAt W (fun k => p k ∧ ∃ ob : Obj, W.heap[k]? = some ob ∧ ob.isCells = true) b o t
  | b, o, .node k s n ks, h => by
    rw [NodeAt] at h ⊢
    obtain ⟨hb, hz, h0, h1, h2, A, c, h3, h4⟩ := h
    refine ⟨⟨hb, isCells_of_cell h0⟩, hz, h0, h1, h2, A, c, h3, ?_⟩
    rcases h4 with h4 | ⟨kb, ko, h4, h5⟩
    · exact .inl h4
    · exact .inr ⟨kb, ko, h4, RowAt.celled h5⟩
theorem RowAt.celled {W : World} {p : Nat → Prop} : ∀ {b o : Nat} {ts : List Go.Tm.T}, RowAt W p b o ts → RowAt W (fun k => p k ∧ ∃ ob : Obj, W.heap[k]? = some ob ∧ ob.isCells = true) b o ts
  | _, _, [], _ => by rw [RowAt]; trivial
  | b, o, t :: ts, h => by
    rw [RowAt] at h ⊢
    exact ⟨NodeAt.celled h.1, RowAt.celled h.2⟩
end
theorem PlIn.cells (n₀ : Nat) (x : Pl) (W W' : World) (h : PlIn n₀ x W) (_ : Below 0 W W') (hk : KeepC W W') : PlIn n₀ x W' := by
  have hs : ∀ k, (∃ ob : Obj, W.heap[k]? = some ob ∧ ob.isCells = true) → W'.heap[k]? = W.heap[k]? := fun k ⟨ob, h1, h2⟩ => (hk k ob h1 h2).trans h1.symm
  exact ⟨NodeAt.kept (fun b hb => hb.1.imp id fun h => h.same (hs b hb.2)) (fun b hb => hs b hb.2) h.1.celled, h.2⟩

section
variable {w : World} {B : Nat} {T : List Nat} {k : Nat} {S : List Pl} {F : List ByteArray} {W : World}
theorem FI.core (h : FI w B T k S F W) {W' : World} {S' : List Pl} {F' : List ByteArray} {k' n cap : Nat} {a : Option Addr} {D : DataW Unit} (hfr : Fr w.heap.size B w T W')
    (hsame : ∀ b, b < W.heap.size → b ≠ w.heap.size + 1 → b ≠ w.heap.size + 3 → b ≠ w.heap.size + 5 → (∀ cur, W.heap[b]? ≠ some (.cells cur 60 (0, 0))) → W'.heap[b]? = W.heap[b]?)
    (hv : W'.heap[w.heap.size + 5]? = some (.cells #[.slice a S'.length cap] 65 (0, 0))) (hrow : W'.ownsRow B 60 3 (.slice a S'.length cap) S'.length (cellsP S')) (hT : ∀ g, (Value.slice a S'.length cap).ownBlock = some g → g ∉ T)
    (hf : W'.ownsMap Tryz.prog 9 (plainElem Tryz.prog 4) (w.heap.size + 1) F'.length (setOf uB (F'.map keyL))) (hb : W'.ownsMap Tryz.prog 9 (plainElem Tryz.prog 3) (w.heap.size + 3) n D) (hn : n + S'.length ≤ 2 * k') (hc : Counts D (S'.map b2))
    (hnd : ∀ x, x ∈ S' → NodeAt W (PS w.heap.size W) x.blk x.off x.par ∧ x.kid < x.par.kids.length) : FI w B T k' S' F' W' := by
  refine ⟨hfr, h.hB, (hsame _ (World.lt_of_get h.fv) (by omega) (by omega) (by omega) (fun cur e => by rw [h.fv] at e; cases e)).trans h.fv, (hsame _ (World.lt_of_get h.bv) (by omega) (by omega) (by omega) (fun cur e => by rw [h.bv] at e; cases e)).trans h.bv, ⟨a, cap, hv, hrow, hT⟩, hf, ⟨n, D, hn, hb, hc⟩, fun x hx => ⟨NodeAt.stay (fun b hb => (hfr.below.block b hb).trans (h.fr.below.block b hb).symm) (fun b hb => ?_) (hnd x hx).1, (hnd x hx).2⟩⟩
  obtain ⟨cs, f, hb⟩ := hb
  obtain ⟨_, _, s1, _⟩ := h.sv
  refine hsame b (World.lt_of_get hb) (fun e => ?_) (fun e => ?_) (fun e => ?_) (fun cur e => by rw [hb] at e; cases e)
  · obtain ⟨_, _, h2, _⟩ := h.fm
    rw [e, h2] at hb; cases hb
  · obtain ⟨_, _, _, ⟨_, _, h2, _⟩, _⟩ := h.bm
    rw [e, h2] at hb; cases hb
  · rw [e, s1] at hb; cases hb

theorem ownsMap_noTy {P : Program} {kt : TypeId} {R : Value → Option (DataW Unit × List MemPlace)} {b n : Nat} {D : DataW Unit} (h : W.ownsMap P kt R b n D) : ¬ TyB W b := by
  obtain ⟨_, _, h2, _⟩ := h
  rintro ⟨_, _, h3⟩
  rw [h2] at h3; cases h3
/-- a binder is taken off: its count, then the list -/
theorem FI.popped {e : Pl} (h : FI w B T k (S ++ [e]) F W) (hT : ∀ k, k ∈ T → k < W.heap.size) {g cap n : Nat} {D : DataW Unit} {w1 : World} (hr : W.heap[w.heap.size + 5]? = some (.cells #[.slice (some ⟨g, 0, none⟩) (S ++ [e]).length cap] 65 (0, 0)))
    (hg : W.grownBy w1 (some (w.heap.size + 3))) (hm : w1.ownsMap Tryz.prog 9 (plainElem Tryz.prog 3) (w.heap.size + 3) n D) (hn : n + S.length ≤ 2 * k) (hc : Counts D (S.map b2)) :
    FI w B T k S F (w1.setCell ⟨w.heap.size + 5, 0, none⟩ (.slice (some ⟨g, 0, none⟩) S.length cap)) ∧ Turn w B T W (w1.setCell ⟨w.heap.size + 5, 0, none⟩ (.slice (some ⟨g, 0, none⟩) S.length cap)) := by
  have hB := h.hB
  have hsz := h.fr.sz
  have hnm : ¬ TyB W (w.heap.size + 3) := by obtain ⟨_, _, _, h2, _⟩ := h.bm; exact ownsMap_noTy h2
  have hnm2 : ¬ TyB W (w.heap.size + 1) := ownsMap_noTy h.fm
  obtain ⟨t1, f1⟩ := Turn.map h.fr hg (by omega) (by omega) hT (by assumption)
  have v5 := (hg.block _ (World.lt_of_get hr) (by simp)).trans hr
  obtain ⟨t2, f2⟩ := Turn.set (v := .slice (some ⟨g, 0, none⟩) S.length cap) f1 (by omega) (by omega) v5 (by decide)
  have hset : ∀ b, b ≠ w.heap.size + 5 → (w1.setCell ⟨w.heap.size + 5, 0, none⟩ (.slice (some ⟨g, 0, none⟩) S.length cap)).heap[b]? = w1.heap[b]? := fun b hb => Below.heap_setCell _ _ _ _ hb
  obtain ⟨a, cap', s1, s2, s3⟩ := h.sv
  rw [hr] at s1
  obtain ⟨rfl, rfl⟩ : some ⟨g, 0, none⟩ = a ∧ cap = cap' := by simpa using s1
  obtain ⟨cur, hcur, hBg⟩ := ownsRow_at (g := g) s2 rfl
  have hgs := World.lt_of_get hcur
  have s4 : w1.ownsRow B 60 3 (.slice (some ⟨g, 0, none⟩) (S ++ [e]).length cap) (S ++ [e]).length (cellsP (S ++ [e])) := ownsRow_same s2 fun g' hg' => by cases hg'; exact hg.block g hgs (by simp; omega)
  refine ⟨h.core f2 (fun b hb h1 h3 h5 _ => (hset b h5).trans (hg.block b hb (by simp; omega))) (heap_setCell_same w1 (w.heap.size + 5) 0 _ _ _ v5) (ownsRow_same (own_pop s4) fun g' hg' => ?_) (fun g' hg' => ?_) (ownsMap_same h.fm ((hset _ (by omega)).trans (hg.block _ h.fm.lt (by simp)))) (ownsMap_same hm (hset _ (by omega))) hn hc (fun x hx => h.nd x (by simp [hx])), t1.trans t2⟩
  · cases hg'; exact hset g (by omega)
  · cases hg'; exact s3 g rfl
/-- a name is met -/
theorem FI.met (h : FI w B T k S F W) (hT : ∀ k, k ∈ T → k < W.heap.size) {s : ByteArray} {w1 : World} (hg : W.grownBy w1 (some (w.heap.size + 1))) (hm : w1.ownsMap Tryz.prog 9 (plainElem Tryz.prog 4) (w.heap.size + 1) (F.length + 1) ((setOf uB (F.map keyL)).put (keyL s) uB)) :
    FI w B T k S (F ++ [s]) w1 ∧ Turn w B T W w1 := by
  have hB := h.hB
  have hsz := h.fr.sz
  have hnm : ¬ TyB W (w.heap.size + 3) := by obtain ⟨_, _, _, h2, _⟩ := h.bm; exact ownsMap_noTy h2
  have hnm2 : ¬ TyB W (w.heap.size + 1) := ownsMap_noTy h.fm
  obtain ⟨t1, f1⟩ := Turn.map h.fr hg (by omega) (by omega) hT (by assumption)
  obtain ⟨a, cap, s1, s2, s3⟩ := h.sv
  obtain ⟨n, D, m1, m2, m3⟩ := h.bm
  have hk : ∀ b, b < W.heap.size → b ≠ w.heap.size + 1 → w1.heap[b]? = W.heap[b]? := fun b hb hne => hg.block b hb (by simp; omega)
  refine ⟨h.core f1 (fun b hb h1 _ _ _ => hk b hb h1) ((hk _ (World.lt_of_get s1) (by omega)).trans s1) (ownsRow_same s2 fun g hg => ?_) s3 (by rw [List.map_append, List.map_singleton, setOf_snoc, List.length_append]; exact hm) (ownsMap_same m2 (hk _ m2.lt (by omega))) m1 m3 h.nd, t1⟩
  obtain ⟨cur, hcur, hBg⟩ := ownsRow_at s2 hg
  exact hk g (World.lt_of_get hcur) (by omega)
/-- the list grows -/
theorem Turn.row {v : Value} {n : Nat} {xs : List Value} {W' : World} (hfr : Fr w.heap.size B w T W) (hg : W.grownBy W' v.ownBlock) (hown : W.ownsRow B 60 3 v n xs) (hgT : ∀ g, v.ownBlock = some g → g ∉ T) (hT : ∀ k, k ∈ T → k < W.heap.size) : Turn w B T W W' ∧ Fr w.heap.size B w T W' := by
  cases hv : v.ownBlock with
  | none =>
    rw [hv] at hg
    have hb : Below W.heap.size W W' := ⟨hg.os, hg.tape, hg.output, hg.size, fun k hk => hg.block k hk (by simp)⟩
    exact ⟨Turn.call hfr hT hb, hfr.later hb⟩
  | some g =>
    rw [hv] at hg
    obtain ⟨cur, hc, hB⟩ := ownsRow_at hown hv
    obtain ⟨h1, h2, h3, h4⟩ := hfr.grown hg (hgT g hv) (Nat.le_trans hfr.n0B hB) ⟨cur, _, _, hc⟩ hT
    refine ⟨⟨h1, h2, h3, fun b hb => ?_⟩, h4⟩
    obtain ⟨_, _, hb⟩ := hb
    refine hg.block b (World.lt_of_get hb) fun e => ?_
    cases e
    rw [hc] at hb; cases hb
/-- a binder is put on: its count, its place in a block of its own, the list -/
theorem FI.pushed {x : Pl} (h : FI w B T k S F W) (hT : ∀ k, k ∈ T → k < W.heap.size) (hx : NodeAt W (PS w.heap.size W) x.blk x.off x.par ∧ x.kid < x.par.kids.length) {a : Option Addr} {cap n N : Nat} {D : DataW Unit} {w1 w5 : World} {v5 : Value} {cs : Array Value} (hN : N = S.length)
    (hr : W.heap[w.heap.size + 5]? = some (.cells #[.slice a S.length cap] 65 (0, 0))) (hg : W.grownBy w1 (some (w.heap.size + 3))) (hm : w1.ownsMap Tryz.prog 9 (plainElem Tryz.prog 3) (w.heap.size + 3) n D) (hn : n + S.length + 1 ≤ 2 * (k + 1)) (hc : Counts D ((S ++ [x]).map b2))
    (hown5 : w5.ownsRow B 60 3 v5 (N + 1) (cellsP S ++ plC x)) (hg5 : (w1.alloc (.cells cs 60)).grownBy w5 (Value.ownBlock (.slice a N cap))) (hat : v5.ownBlock = Value.ownBlock (.slice a N cap) ∨ v5.ownBlock = some (w1.alloc (.cells cs 60)).heap.size) :
    w5.heap[w.heap.size + 5]? = some (.cells #[.slice a N cap] 65 (0, 0)) ∧ FI w B T (k + 1) (S ++ [x]) F (w5.setCell ⟨w.heap.size + 5, 0, none⟩ v5) ∧ Turn w B T W (w5.setCell ⟨w.heap.size + 5, 0, none⟩ v5) := by
  subst hN
  have hB := h.hB
  have hsz := h.fr.sz
  have hnm : ¬ TyB W (w.heap.size + 3) := by obtain ⟨_, _, _, h2, _⟩ := h.bm; exact ownsMap_noTy h2
  obtain ⟨t1, f1⟩ := Turn.map h.fr hg (by omega) (by omega) hT hnm
  have hT1 : ∀ k, k ∈ T → k < w1.heap.size := fun k hk => Nat.lt_of_lt_of_le (hT k hk) hg.size
  obtain ⟨W8, hW8⟩ : ∃ W8, w1.alloc (.cells cs 60) = W8 := ⟨_, rfl⟩
  have hb8 : Below w1.heap.size w1 W8 := by rw [← hW8]; exact later_alloc w1 _
  rw [hW8] at hg5 hat
  have t8 := Turn.call f1 hT1 hb8
  have f8 := f1.later hb8
  have hT8 : ∀ k, k ∈ T → k < W8.heap.size := fun k hk => Nat.lt_of_lt_of_le (hT1 k hk) hb8.size
  obtain ⟨a', cap', s1, s2, s3⟩ := h.sv
  rw [hr] at s1
  obtain ⟨rfl, rfl⟩ : a = a' ∧ cap = cap' := by simpa using s1
  have hrow : ∀ g, (Value.slice a S.length cap).ownBlock = some g → B ≤ g ∧ g < W.heap.size := fun g hg' => by
    obtain ⟨cur, hcur, hBg⟩ := ownsRow_at s2 hg'
    exact ⟨hBg, World.lt_of_get hcur⟩
  have k18 : ∀ b, b < W.heap.size → b ≠ w.heap.size + 3 → W8.heap[b]? = W.heap[b]? := fun b hb hne => (hb8.block b (Nat.lt_of_lt_of_le hb hg.size)).trans (hg.block b hb (by simp; omega))
  have s8 : W8.ownsRow B 60 3 (.slice a S.length cap) S.length (cellsP S) := ownsRow_same s2 fun g hg' => k18 g (hrow g hg').2 (by have := (hrow g hg').1; omega)
  obtain ⟨t5, f5⟩ := Turn.row f8 hg5 s8 s3 hT8
  have k15 : ∀ b, b < W.heap.size → b ≠ w.heap.size + 3 → (∀ g, (Value.slice a S.length cap).ownBlock = some g → b ≠ g) → w5.heap[b]? = W.heap[b]? := fun b hb hne hr' => (hg5.block b (Nat.lt_of_lt_of_le hb (Nat.le_trans hg.size hb8.size)) (fun e => hr' b e.symm rfl)).trans (k18 b hb hne)
  have hlow : ∀ b, b < B → ∀ g, (Value.slice a S.length cap).ownBlock = some g → b ≠ g := fun b hb g hg' => by have := (hrow g hg').1; omega
  have v5' : w5.heap[w.heap.size + 5]? = some (.cells #[.slice a S.length cap] 65 (0, 0)) := (k15 _ (World.lt_of_get hr) (by omega) (hlow _ (by omega))).trans hr
  obtain ⟨t6, f6⟩ := Turn.set (v := v5) f5 (by omega) (by omega) v5' (by decide)
  have hset : ∀ b, b ≠ w.heap.size + 5 → (w5.setCell ⟨w.heap.size + 5, 0, none⟩ v5).heap[b]? = w5.heap[b]? := fun b hb => Below.heap_setCell _ _ _ _ hb
  obtain ⟨a5, cap5, hv5, hT5⟩ : ∃ a5 cap5, v5 = .slice a5 (S.length + 1) cap5 ∧ ∀ g, v5.ownBlock = some g → B ≤ g ∧ g ∉ T := by
    have h5 := hown5
    obtain ⟨_, h2 | ⟨g, cp, cur, hv, hbg, _, _⟩⟩ := h5
    · exact absurd h2.2 (by omega)
    · refine ⟨_, _, hv, fun g' hg' => ?_⟩
      rw [hv] at hg'
      cases hg'
      refine ⟨hbg, fun e => ?_⟩
      rw [hv] at hat
      rcases hat with hat | hat
      · exact s3 g hat.symm e
      · have h9 : g = W8.heap.size := by simpa [Value.ownBlock] using hat
        have := hT8 g e
        omega
  have hm5 : w5.heap[w.heap.size + 3]? = w1.heap[w.heap.size + 3]? := (hg5.block _ (Nat.lt_of_lt_of_le hm.lt hb8.size) (fun e => by have := (hrow _ e.symm).1; omega)).trans (hb8.block _ hm.lt)
  have hlen : (S ++ [x]).length = S.length + 1 := by simp
  refine ⟨v5', h.core f6 (fun b hb h1 h3 h5 hnr => (hset b h5).trans (k15 b hb h3 fun g hg' e => ?_)) (a := a5) (cap := cap5) ?_ ?_ (fun g hg' => (hT5 g (by rw [hv5, ← hlen]; exact hg')).2) (ownsMap_same h.fm ((hset _ (by omega)).trans (k15 _ h.fm.lt (by omega) (hlow _ (by omega))))) (ownsMap_same hm ((hset _ (by omega)).trans hm5)) (by rw [hlen]; omega) hc (fun y hy => ?_), ((t1.trans t8).trans t5).trans t6⟩
  · obtain ⟨cur, hcur, _⟩ := ownsRow_at s2 hg'
    subst e
    exact hnr cur hcur
  · rw [hlen, ← hv5]; exact heap_setCell_same w5 (w.heap.size + 5) 0 _ _ v5 v5'
  · rw [hlen, cellsP_snoc]
    have : w5.ownsRow B 60 3 (.slice a5 (S.length + 1) cap5) (S.length + 1) (cellsP S ++ plC x) := by rw [← hv5]; exact hown5
    exact ownsRow_same this fun g hg' => hset g (by have := (hT5 g (by rw [hv5]; exact hg')).1; omega)
  · rcases List.mem_append.1 hy with hy | hy
    · exact h.nd y hy
    · obtain rfl := List.mem_singleton.1 hy
      exact hx
theorem FI.next (h : FI w B T k S F W) : FI w B T (k + 1) S F W := by
  obtain ⟨n, D, m1, m2, m3⟩ := h.bm
  exact ⟨h.fr, h.hB, h.fv, h.bv, h.sv, h.fm, ⟨n, D, by omega, m2, m3⟩, h.nd⟩
end
theorem cells_newL (W : World) (cs : List Value) (t : TypeId) : ∀ (j : Nat) (u : Value), cs[j]? = some u → (W.alloc (.cells cs.toArray t)).cell? ((⟨W.heap.size, 0, none⟩ : Addr).add j) = some u := by
  intro j u hu
  have hadd : (⟨W.heap.size, 0, none⟩ : Addr).add j = ⟨W.heap.size, j, none⟩ := by unfold Addr.add; split <;> simp_all
  rw [hadd, cell_of_row _ W.heap.size j _ _ _ (World.alloc_heap_new W _), List.getElem?_toArray]
  exact hu
theorem plC_one (x : Pl) : ∀ u ∈ plC x, u.oneCell' = true := by
  intro u hu
  simp only [plC, List.mem_cons, List.not_mem_nil, or_false] at hu
  rcases hu with rfl | rfl | rfl <;> rfl
/-- the list does not lie in block b -/
def NotIn (w : World) (b : Nat) (W : World) : Prop := ∀ a n cap, W.heap[w.heap.size + 5]? = some (.cells #[.slice a n cap] 65 (0, 0)) → (Value.slice a n cap).ownBlock ≠ some b
theorem NotIn.same {w : World} {b : Nat} {W W' : World} (h : NotIn w b W) (e : W'.heap[w.heap.size + 5]? = W.heap[w.heap.size + 5]?) : NotIn w b W' := fun a n cap h1 => h a n cap (e.symm.trans h1)
/-- the keys of a set of names -/
theorem free_keys {W : World} {b n : Nat} {R : Value → Option (DataW Unit × List MemPlace)} {F : List ByteArray} (h : W.ownsMap Tryz.prog 9 R b n (setOf uB (F.map keyL))) :
    (strKeys (setOf uB (F.map keyL))).Nodup ∧ ∀ x, x ∈ strKeys (setOf uB (F.map keyL)) ↔ ∃ s, s ∈ F ∧ s.data.toList = x := by
  have hkey : ∀ x ∈ F.map keyL, WideAt.IsKeyLit x := fun x hx => by
    obtain ⟨s, _, rfl⟩ := List.mem_map.1 hx
    exact keyL_key s
  obtain ⟨es, hes, hks⟩ := h.keysOf
  obtain ⟨es', hes', hp⟩ := h.tidy lawS
  have hk : ∀ p ∈ es, ∃ x, p.1 = .string x := fun p hp => by
    obtain ⟨v, hv⟩ := hks p hp
    obtain ⟨x, _, hx, _⟩ := keyOf_str Tryz.underlying9 hv
    exact ⟨x, hx⟩
  have hse : es' = es := by rw [hes] at hes'; injection hes' with h1; exact h1.symm
  subst hse
  have hhas : ∀ x, has (setOf uB (F.map keyL)) (.string x) = true ↔ ∃ s, s ∈ F ∧ s.data.toList = x := fun x => by
    rw [has_setOf uB _ _ hkey, List.any_eq_true]
    constructor
    · rintro ⟨l, hl, h2⟩
      obtain ⟨s, hs, rfl⟩ := List.mem_map.1 hl
      have h3 := WideAt.sameKey_eq h2
      injection h3 with h3
      exact ⟨s, hs, h3⟩
    · rintro ⟨s, hs, rfl⟩
      exact ⟨keyL s, List.mem_map.2 ⟨s, hs, rfl⟩, WideAt.sameKey_self (keyL_key s)⟩
  rw [hes] at hhas ⊢
  refine ⟨?_, fun x => ?_⟩
  · show (es'.map fun p => strOf p.1).Nodup
    refine List.pairwise_map.2 (hp.imp_of_mem fun {p q} hp' hq' hne e => hne ?_)
    obtain ⟨a, ha⟩ := hk p hp'
    obtain ⟨b, hb⟩ := hk q hq'
    rw [ha, hb] at e ⊢
    exact congrArg _ e
  · rw [← hhas x, has_eq, List.any_eq_true]
    show x ∈ es'.map (fun p => strOf p.1) ↔ _
    rw [List.mem_map]
    constructor
    · rintro ⟨p, hp', rfl⟩
      obtain ⟨a, ha⟩ := hk p hp'
      refine ⟨p, hp', ?_⟩
      rw [ha]
      exact WideAt.sameKey_self (a := .string a) trivial
    · rintro ⟨p, hp', h2⟩
      have h3 := WideAt.sameKey_eq h2
      exact ⟨p, hp', by rw [h3]; rfl⟩
theorem ownsRow_base {W : World} {base base' : Nat} {e : TypeId} {size n : Nat} {v : Value} {xs : List Value} (h : W.ownsRow base e size v n xs) (hb : base' ≤ base) : W.ownsRow base' e size v n xs := by
  obtain ⟨h1, h2 | ⟨g, cap, cur, rfl, h3, r⟩⟩ := h
  · exact ⟨h1, .inl h2⟩
  · exact ⟨h1, .inr ⟨g, cap, cur, rfl, Nat.le_trans hb h3, r⟩⟩
/-- the names that are free in a term, as they are told -/
structure Names (t : Go.Tm.T) (L : List ByteArray) : Prop where
  sorted : L.Pairwise (fun a b => a.data.toList ≤ b.data.toList)
  nodup : L.Nodup
  mem : ∀ s, s ∈ L ↔ t.free s = true
theorem names_of {t : Go.Tm.T} {F : List ByteArray} {ss : List (List UInt8)} (hF : ∀ s, s ∈ F ↔ t.free s = true) {D : DataW Unit} (hn : (strKeys D).Nodup) (hm : ∀ x, x ∈ strKeys D ↔ ∃ s, s ∈ F ∧ s.data.toList = x) (hp : ss.Perm (strKeys D)) :
    Names t ((ss.mergeSort (fun x y => decide (x ≤ y))).map fun x => (⟨x.toArray⟩ : ByteArray)) := by
  have tr : ∀ a b c : List UInt8, leB a b = true → leB b c = true → leB a c = true := fun a b c h1 h2 => by simp only [leB, decide_eq_true_eq] at *; exact List.le_trans h1 h2
  have to : ∀ a b : List UInt8, (leB a b || leB b a) = true := fun a b => by simp only [leB, Bool.or_eq_true, decide_eq_true_eq]; exact List.le_total a b
  have hperm : (ss.mergeSort (fun x y => decide (x ≤ y))).Perm ss := List.mergeSort_perm ss leB
  refine ⟨?_, ?_, fun s => ?_⟩
  · refine List.pairwise_map.2 ((List.pairwise_mergeSort tr to ss).imp fun {a b} h => ?_)
    simpa [leB] using h
  · refine List.pairwise_map.2 (((hperm.trans hp).nodup_iff.2 hn).imp fun {a b} hne e => hne ?_)
    injection e with e
    have := congrArg Array.toList e
    simpa using this
  · rw [← hF s, List.mem_map]
    constructor
    · rintro ⟨x, hx, rfl⟩
      obtain ⟨s, hs, h2⟩ := (hm x).1 ((hperm.trans hp).mem_iff.1 hx)
      have : s = ⟨x.toArray⟩ := by
        cases s
        subst h2; simp
      rw [← this]; exact hs
    · intro hs
      exact ⟨s.data.toList, (hperm.trans hp).mem_iff.2 ((hm _).2 ⟨s, hs, rfl⟩), by cases s; simp⟩
end Go.Proofs.YthmchdpinobbgaaGreatDoor
