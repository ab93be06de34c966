/-
  The names that are free in a term: as a question of its tree, and by a walk with a list of the binders that stand round. No condition.
-/
import Derived.Test.YtmomdehilfnpcaaDoorTmMath
namespace Go.Tm

/-- the kinds that bind -/
def bindK (k : Int) : Bool := k == 3 || k == 5 || k == 9
mutual
/-- is a name free in a term? -/
def T.free (s : ByteArray) : T → Bool
  | .node k nm _ ks => (k == 2 && decide (nm = s)) || frees s (bindK k && decide (nm = s)) ks
def frees (s : ByteArray) (b : Bool) : List T → Bool
  | [] => false
  | t :: ts => (t.free s && !(b && ts.isEmpty)) || frees s b ts
end

/-- a binder on the list: its name, and how deep its last kid stands -/
abbrev B2 := ByteArray × Nat
/-- what is left of the list where a place of that depth comes -/
def popR (d : Nat) : List B2 → List B2
  | [] => []
  | b :: l => if d ≤ b.2 then popR d l else b :: l
def pop (d : Nat) (l : List B2) : List B2 := (popR d l.reverse).reverse
theorem pop_nil (d : Nat) : pop d [] = [] := rfl
theorem pop_snoc (d : Nat) (l : List B2) (b : B2) : pop d (l ++ [b]) = if d ≤ b.2 then pop d l else l ++ [b] := by
  unfold pop
  rw [List.reverse_append]
  show (popR d (b :: l.reverse)).reverse = _
  rw [popR]
  split
  · rfl
  · simp
theorem popR_popR {d e : Nat} (h : d ≤ e) : ∀ l, popR d (popR e l) = popR d l
  | [] => rfl
  | b :: l => by
    rw [popR]
    split
    · rename_i h1
      rw [popR_popR h l, popR, if_pos (by omega)]
    · rfl
theorem pop_pop {d e : Nat} (h : d ≤ e) (l : List B2) : pop d (pop e l) = pop d l := by
  unfold pop; rw [List.reverse_reverse, popR_popR h]
theorem popR_idem {d e : Nat} (h : d ≤ e) : ∀ l, popR e (popR d l) = popR d l
  | [] => rfl
  | b :: l => by
    rw [popR]
    split
    · exact popR_idem h l
    · rename_i h1
      rw [popR, if_neg (by omega)]
theorem pop_idem {d e : Nat} (h : d ≤ e) (l : List B2) : pop e (pop d l) = pop d l := by
  unfold pop; rw [List.reverse_reverse, popR_idem h]
theorem pop_len (d : Nat) (l : List B2) : (pop d l).length ≤ l.length := by
  have : ∀ l : List B2, (popR d l).length ≤ l.length := fun l => by
    induction l with
    | nil => exact Nat.le_refl _
    | cons b l ih => rw [popR]; split <;> simp; omega
  unfold pop
  have := this l.reverse
  simpa using this

/-- the place of a binder's last kid -/
def lastB (p : P3) : Bool := (p.2.1 + 1 == p.1.kids.length) && bindK p.1.kind
def p3k (p : P3) : T := p.1.kids.getD p.2.1 default
/-- how many binders of a name stand on the list -/
def cnt (s : ByteArray) (l : List B2) : Nat := l.countP (fun b => decide (b.1 = s))
theorem cnt_snoc (s : ByteArray) (l : List B2) (b : B2) : cnt s (l ++ [b]) = cnt s l + if decide (b.1 = s) then 1 else 0 := by
  unfold cnt
  rw [List.countP_append, List.countP_singleton]
theorem cnt_le (s : ByteArray) (l : List B2) : cnt s l ≤ l.length := List.countP_le_length

/-- what is kept between two places: the binders that stand round, the names that were met free -/
abbrev St := List B2 × List ByteArray
def stack (S : List B2) (p : P3) : List B2 := pop p.2.2 S ++ if lastB p then [(p.1.name, p.2.2)] else []
def step (st : St) (p : P3) : St :=
  let S := stack st.1 p
  (S, if (p3k p).kind == 2 && cnt (p3k p).name S == 0 then st.2 ++ [(p3k p).name] else st.2)
def runS (st : St) (L : List P3) : St := L.foldl step st
theorem runS_app (st : St) (a b : List P3) : runS st (a ++ b) = runS (runS st a) b := List.foldl_append
theorem runS_snoc (st : St) (a : List P3) (p : P3) : runS st (a ++ [p]) = step (runS st a) p := by rw [runS_app]; rfl
theorem runS_len : ∀ (L : List P3) (st : St), (runS st L).1.length ≤ st.1.length + L.length ∧ (runS st L).2.length ≤ st.2.length + L.length
  | [], st => ⟨Nat.le_refl _, Nat.le_refl _⟩
  | p :: L, st => by
    have h := runS_len L (step st p)
    have h1 : (step st p).1.length ≤ st.1.length + 1 := by
      show (stack st.1 p).length ≤ _
      unfold stack
      rw [List.length_append]
      have := pop_len p.2.2 st.1
      split <;> simp <;> omega
    have h2 : (step st p).2.length ≤ st.2.length + 1 := by
      show (if _ then _ else _ : List ByteArray).length ≤ _
      split <;> simp
    show (runS (step st p) L).1.length ≤ _ ∧ _
    rw [List.length_cons]
    exact ⟨Nat.le_trans h.1 (by omega), Nat.le_trans h.2 (by omega)⟩

/-- WHAT A WALK DOES: what stood round at a depth up to its own stands round again; the names that it adds. -/
structure Did (d : Nat) (st st' : St) (fr : ByteArray → Bool) : Prop where
  pops : ∀ e, e ≤ d → pop e st'.1 = pop e st.1
  names : ∀ s, s ∈ st'.2 ↔ s ∈ st.2 ∨ fr s = true

theorem free_eq (s : ByteArray) (t : T) : t.free s = ((t.kind == 2 && decide (t.name = s)) || frees s (bindK t.kind && decide (t.name = s)) t.kids) := by cases t; rfl
mutual
theorem did_walk : ∀ (t : T) (par : T) (i d : Nat) (st : St), i < par.kids.length → par.kids.getD i default = t → Did d st (runS st (walk par i d t)) (fun s => t.free s && !(lastB (par, i, d) && decide (par.name = s)) && cnt s (pop d st.1) == 0)
  | .node k nm n ks, par, i, d, st, hi, ht => by
    rw [walk]
    show Did d st (runS (step st (par, i, d)) (walks (.node k nm n ks) 0 (d + 1) ks)) _
    have hk : p3k (par, i, d) = .node k nm n ks := ht
    have hS : (step st (par, i, d)).1 = pop d st.1 ++ if lastB (par, i, d) then [(par.name, d)] else [] := rfl
    have hp1 : pop (d + 1) (step st (par, i, d)).1 = (step st (par, i, d)).1 := by
      rw [hS]
      split
      · rw [pop_snoc, if_neg (by show ¬ d + 1 ≤ d; omega)]
      · rw [List.append_nil, pop_idem (Nat.le_succ d)]
    have hp2 : ∀ e, e ≤ d → pop e (step st (par, i, d)).1 = pop e st.1 := fun e he => by
      rw [hS]
      split
      · rw [pop_snoc, if_pos (by show e ≤ d; exact he), pop_pop he]
      · rw [List.append_nil, pop_pop he]
    have hc : ∀ s, (cnt s (step st (par, i, d)).1 == 0) = (!(lastB (par, i, d) && decide (par.name = s)) && cnt s (pop d st.1) == 0) := fun s => by
      rw [hS]
      cases hl : lastB (par, i, d) with
      | false => simp
      | true =>
        rw [if_pos rfl, cnt_snoc]
        cases hn : decide (par.name = s) <;> simp
    have hw := did_walks ks (.node k nm n ks) 0 (d + 1) (step st (par, i, d)) (by simp [T.kids]) (fun j _ => by rw [Nat.zero_add]; rfl)
    rw [hp1] at hw
    refine ⟨fun e he => (hw.pops e (by omega)).trans (hp2 e he), fun s => ?_⟩
    rw [hw.names s, hc s]
    have h2 : (step st (par, i, d)).2 = if k == 2 && cnt nm (step st (par, i, d)).1 == 0 then st.2 ++ [nm] else st.2 := by
      show (if (p3k (par, i, d)).kind == 2 && cnt (p3k (par, i, d)).name _ == 0 then _ else _) = _
      rw [hk]; rfl
    rw [h2, free_eq]
    show _ ∨ (frees s (bindK k && decide (nm = s)) ks && (!(lastB (par, i, d) && decide (par.name = s)) && cnt s (pop d st.1) == 0)) = true ↔ _ ∨ (((k == 2 && decide (nm = s)) || frees s (bindK k && decide (nm = s)) ks) && !(lastB (par, i, d) && decide (par.name = s)) && cnt s (pop d st.1) == 0) = true
    cases hk2 : k == 2 with
    | false =>
      rw [Bool.false_and, if_neg (by decide)]
      simp [Bool.and_assoc]
    | true =>
      rw [Bool.true_and, hc nm]
      rw [Bool.and_assoc (_ || _)]
      by_cases hnm : nm = s
      · subst hnm
        rw [show (decide (nm = nm)) = true by simp]
        generalize (!(lastB (par, i, d) && decide (par.name = nm)) && cnt nm (pop d st.1) == 0) = c
        generalize frees nm (bindK k && true) ks = y
        cases c <;> cases y <;> simp
      · rw [show (decide (nm = s)) = false by simpa using hnm]
        generalize (!(lastB (par, i, d) && decide (par.name = s)) && cnt s (pop d st.1) == 0) = c
        generalize frees s (bindK k && false) ks = y
        have h5 : ¬ s = nm := fun h => hnm h.symm
        cases c <;> cases y <;> split <;> simp [h5]
theorem did_walks : ∀ (ts : List T) (par : T) (i d : Nat) (st : St), i + ts.length = par.kids.length → (∀ j, j < ts.length → par.kids.getD (i + j) default = ts.getD j default) → Did d st (runS st (walks par i d ts)) (fun s => frees s (bindK par.kind && decide (par.name = s)) ts && cnt s (pop d st.1) == 0)
  | [], par, i, d, st, _, _ => by
    rw [walks]
    exact ⟨fun _ _ => rfl, fun s => by simp [frees, runS]⟩
  | t :: ts, par, i, d, st, hl, hg => by
    rw [walks, runS_app]
    rw [List.length_cons] at hl
    have h1 := did_walk t par i d st (by omega) (by have := hg 0 (by simp); simpa using this)
    have h2 := did_walks ts par (i + 1) d (runS st (walk par i d t)) (by omega) (fun j hj => by
      have := hg (j + 1) (by simpa using hj)
      rw [show i + 1 + j = i + (j + 1) by omega]
      exact this)
    rw [h1.pops d (Nat.le_refl _)] at h2
    refine ⟨fun e he => (h2.pops e he).trans (h1.pops e he), fun s => ?_⟩
    rw [h2.names s, h1.names s]
    have hlast : lastB (par, i, d) = (bindK par.kind && ts.isEmpty) := by
      show ((i + 1 == par.kids.length) && _) = _
      rw [Bool.and_comm]
      congr 1
      cases ts with
      | nil => rw [← hl]; simp
      | cons a b =>
        rw [List.length_cons] at hl
        show _ = false
        rw [beq_eq_false_iff_ne]; omega
    show (_ ∨ (t.free s && !(lastB (par, i, d) && decide (par.name = s)) && cnt s (pop d st.1) == 0) = true) ∨ (frees s _ ts && cnt s (pop d st.1) == 0) = true ↔ _ ∨ (((t.free s && !((bindK par.kind && decide (par.name = s)) && ts.isEmpty)) || frees s _ ts) && cnt s (pop d st.1) == 0) = true
    rw [hlast, show ((bindK par.kind && ts.isEmpty) && decide (par.name = s)) = ((bindK par.kind && decide (par.name = s)) && ts.isEmpty) by cases bindK par.kind <;> cases ts.isEmpty <;> cases (decide (par.name = s)) <;> rfl]
    generalize (cnt s (pop d st.1) == 0) = c
    generalize (t.free s && !((bindK par.kind && decide (par.name = s)) && ts.isEmpty)) = x
    generalize frees s (bindK par.kind && decide (par.name = s)) ts = y
    cases c <;> cases x <;> cases y <;> simp
end
/-- THE WHOLE. -/
theorem run_root (t r : T) (hr : r.kids = [t]) (hk : bindK r.kind = false) (s : ByteArray) : s ∈ (runS ([], []) (walk r 0 1 t)).2 ↔ t.free s = true := by
  have h := (did_walk t r 0 1 ([], []) (by rw [hr]; simp) (by rw [hr]; rfl)).names s
  rw [h]
  have : lastB (r, 0, 1) = false := by unfold lastB; rw [hk]; simp
  simp [this, pop, popR, cnt]
/-! what holds a place is the first holder, or one of the terms gone through -/
mutual
theorem walk_par : ∀ (t : T) (par : T) (i d : Nat) (p : P3), p ∈ walk par i d t → p.1 = par ∨ p.1.size ≤ t.size
  | .node k nm n ks, par, i, d, p, hp => by
    rw [walk] at hp
    rcases List.mem_cons.1 hp with rfl | hp
    · exact .inl rfl
    · right
      rcases walks_par ks (.node k nm n ks) 0 (d + 1) p hp with h | h
      · rw [h]; exact Nat.le_refl _
      · rw [T.size]; omega
theorem walks_par : ∀ (ts : List T) (par : T) (i d : Nat) (p : P3), p ∈ walks par i d ts → p.1 = par ∨ p.1.size ≤ sizes ts
  | [], _, _, _, p, hp => by rw [walks] at hp; cases hp
  | t :: ts, par, i, d, p, hp => by
    rw [walks] at hp
    rw [sizes]
    rcases List.mem_append.1 hp with hp | hp
    · rcases walk_par t par i d p hp with h | h
      · exact .inl h
      · exact .inr (by omega)
    · rcases walks_par ts par (i + 1) d p hp with h | h
      · exact .inl h
      · exact .inr (by omega)
end
end Go.Tm
