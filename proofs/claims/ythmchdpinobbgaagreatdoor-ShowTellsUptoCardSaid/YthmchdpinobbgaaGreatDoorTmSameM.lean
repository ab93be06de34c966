/-
  Two terms gone through side by side: of the second one the way down to the place is kept as a list. No condition.
-/
import Derived.Test.YthmchdpinobbgaaGreatDoorTmMath
namespace Go.Tm

/-- the fields, and how many Kids -/
def alikeB (a b : T) : Bool := (a.kind == b.kind) && ((a.name.toList == b.name.toList) && ((a.num == b.num) && ((a.kids.length : Int) == (b.kids.length : Int))))
theorem alikeB_len {a b : T} (h : alikeB a b = true) : a.kids.length = b.kids.length := by
  unfold alikeB at h
  rw [Bool.and_eq_true, Bool.and_eq_true, Bool.and_eq_true, beq_iff_eq, beq_iff_eq, beq_iff_eq, beq_iff_eq] at h
  omega
mutual
/-- whether two terms have all fields and all Kids alike -/
def eqT : T → T → Bool
  | .node k s n ks, u => alikeB (.node k s n ks) u && eqTs ks u.kids
def eqTs : List T → List T → Bool
  | [], _ => true
  | t :: ts, us => eqT t (us.getD 0 default) && eqTs ts (us.drop 1)
end
def p3T (p : P3) : T := p.1.kids.getD p.2.1 default
/-- what stands on the other side, of the way down to it -/
def oth (P : List T) (p : P3) : T := (P.getD (p.2.2 - 1) default).kids.getD p.2.1 default
def nxt (P : List T) (p : P3) : List T := P.take p.2.2 ++ [oth P p]
def goT (P : List T) : List P3 → Option (List T)
  | [] => some P
  | p :: r => if alikeB (p3T p) (oth P p) = true then goT (nxt P p) r else none
/-- the place has one that stands on the other side -/
def OkP (P : List T) (p : P3) : Prop := 1 ≤ p.2.2 ∧ p.2.2 ≤ P.length ∧ p.2.1 < (P.getD (p.2.2 - 1) default).kids.length

theorem goT_app : ∀ (a b : List P3) (P : List T), goT P (a ++ b) = (goT P a).bind fun P' => goT P' b
  | [], _, _ => rfl
  | p :: a, b, P => by
    show (if alikeB (p3T p) (oth P p) = true then goT (nxt P p) (a ++ b) else none) = Option.bind (if alikeB (p3T p) (oth P p) = true then goT (nxt P p) a else none) _
    by_cases h : alikeB (p3T p) (oth P p) = true
    · rw [if_pos h, if_pos h, goT_app a b]
    · rw [if_neg h, if_neg h]; rfl

structure GoOk (P : List T) (d : Nat) (L : List P3) (b : Bool) : Prop where
  yes : b = true → ∃ P', goT P L = some P' ∧ d ≤ P'.length ∧ P'.take d = P.take d
  no : b = false → goT P L = none
  ok : ∀ q y r, L = q ++ y :: r → ∀ P1, goT P q = some P1 → OkP P1 y

theorem GoOk.app {P : List T} {d : Nat} {A B : List P3} {b c : Bool} (h : GoOk P d A b) (k : b = true → ∀ P', goT P A = some P' → d ≤ P'.length → P'.take d = P.take d → GoOk P' d B c) : GoOk P d (A ++ B) (b && c) := by
  cases hb : b with
  | false =>
    have hn := h.no hb
    refine ⟨fun e => (by cases e), fun _ => by rw [goT_app, hn]; rfl, fun q y r e P1 h1 => ?_⟩
    rcases List.append_eq_append_iff.1 e with ⟨z, hz1, hz2⟩ | ⟨z, hz1, hz2⟩
    · subst hz1
      rw [goT_app, hn] at h1; cases h1
    · cases z with
      | nil =>
        rw [List.append_nil] at hz1; subst hz1
        rw [hn] at h1; cases h1
      | cons y2 z =>
        cases hz2
        exact h.ok q y z hz1 P1 h1
  | true =>
    obtain ⟨P', h1, h2, h3⟩ := h.yes hb
    obtain ⟨k1, k2, k3⟩ := k hb P' h1 h2 h3
    refine ⟨fun e => ?_, fun e => ?_, fun q y r e P1 hq => ?_⟩
    · obtain ⟨P2, j1, j2, j3⟩ := k1 e
      exact ⟨P2, by rw [goT_app, h1]; exact j1, j2, j3.trans h3⟩
    · rw [goT_app, h1]; exact k2 e
    · rcases List.append_eq_append_iff.1 e with ⟨z, hz1, hz2⟩ | ⟨z, hz1, hz2⟩
      · subst hz1
        rw [goT_app, h1] at hq
        exact k3 z y r hz2 P1 hq
      · cases z with
        | nil =>
          rw [List.append_nil] at hz1; subst hz1
          rw [h1] at hq; cases hq
          exact k3 [] y r hz2.symm P' rfl
        | cons y2 z =>
          cases hz2
          exact h.ok q y z hz1 P1 hq

theorem getD_take {P P' : List T} {d : Nat} (hd : 1 ≤ d) (h : P'.take d = P.take d) : P'.getD (d - 1) default = P.getD (d - 1) default := by
  have e : ∀ Q : List T, (Q.take d)[d - 1]? = Q[d - 1]? := fun Q => by rw [List.getElem?_take]; exact if_pos (by omega)
  rw [List.getD_eq_getElem?_getD, List.getD_eq_getElem?_getD, ← e, ← e P, h]

mutual
theorem go_walk : ∀ (t par : T) (kid d : Nat) (P : List T), 1 ≤ d → d ≤ P.length → kid < (P.getD (d - 1) default).kids.length → par.kids.getD kid default = t → GoOk P d (walk par kid d t) (eqT t (oth P (par, kid, d)))
  | .node k s n ks, par, kid, d, P, h1, h2, h3, h4 => by
    rw [walk, eqT]
    have hp : p3T (par, kid, d) = .node k s n ks := h4
    have hok : OkP P (par, kid, d) := ⟨h1, h2, h3⟩
    cases ha : alikeB (.node k s n ks) (oth P (par, kid, d)) with
    | false =>
      have hg : ∀ L, goT P ((par, kid, d) :: L) = none := fun L => by
        show (if alikeB (p3T (par, kid, d)) _ = true then _ else _) = _
        rw [hp, ha]; rfl
      refine ⟨fun e => (by cases e), fun _ => hg _, fun q y r e P1 hq => ?_⟩
      cases q with
      | nil => cases hq; cases e; exact hok
      | cons p q =>
        injection e with e1 e2
        subst e1
        rw [hg] at hq; cases hq
    | true =>
      have hg : ∀ L, goT P ((par, kid, d) :: L) = goT (nxt P (par, kid, d)) L := fun L => by
        show (if alikeB (p3T (par, kid, d)) _ = true then _ else _) = _
        rw [hp, ha]; rfl
      have hlen : (nxt P (par, kid, d)).length = d + 1 := by
        show (P.take d ++ [_]).length = _
        rw [List.length_append, List.length_take]; simp; omega
      have hlast : (nxt P (par, kid, d)).getD (d + 1 - 1) default = oth P (par, kid, d) := by
        show (P.take d ++ [_]).getD d default = _
        have : (P.take d).length = d := by rw [List.length_take]; omega
        rw [List.getD_eq_getElem?_getD, List.getElem?_append_right (by omega), this]; simp
      have hl := alikeB_len ha
      have hw := go_walks ks (.node k s n ks) 0 (d + 1) (nxt P (par, kid, d)) (by omega) (by omega) (by rw [hlast, ← hl]; show 0 + ks.length ≤ ks.length; omega) (fun j _ => by rw [Nat.zero_add]; rfl)
      rw [hlast, List.drop_zero] at hw
      refine ⟨fun e => ?_, fun e => ?_, fun q y r e P1 hq => ?_⟩
      · obtain ⟨P', j1, j2, j3⟩ := hw.yes e
        refine ⟨P', by rw [hg]; exact j1, by omega, ?_⟩
        have := congrArg (List.take d) j3
        rw [List.take_take, List.take_take, Nat.min_eq_left (by omega)] at this
        rw [this]
        show (P.take d ++ [_]).take d = _
        rw [List.take_left' (by rw [List.length_take]; omega)]
      · rw [hg]; exact hw.no e
      · cases q with
        | nil => cases hq; cases e; exact hok
        | cons p q =>
          injection e with e1 e2
          subst e1
          rw [hg] at hq
          exact hw.ok q y r e2 P1 hq
theorem go_walks : ∀ (ts : List T) (par : T) (i d : Nat) (P : List T), 1 ≤ d → d ≤ P.length → i + ts.length ≤ (P.getD (d - 1) default).kids.length → (∀ j, j < ts.length → par.kids.getD (i + j) default = ts.getD j default) → GoOk P d (walks par i d ts) (eqTs ts ((P.getD (d - 1) default).kids.drop i))
  | [], par, i, d, P, _, h2, _, _ => by
    rw [walks, eqTs]
    exact ⟨fun _ => ⟨P, rfl, h2, rfl⟩, fun e => (by cases e), fun q y r e => by cases q <;> cases e⟩
  | t :: ts, par, i, d, P, h1, h2, h3, h4 => by
    rw [walks, eqTs]
    rw [List.length_cons] at h3
    have ho : ((P.getD (d - 1) default).kids.drop i).getD 0 default = oth P (par, i, d) := by
      show _ = (P.getD (d - 1) default).kids.getD i default
      generalize (P.getD (d - 1) default).kids = K
      rw [List.getD_eq_getElem?_getD, List.getD_eq_getElem?_getD, List.getElem?_drop, Nat.add_zero]
    rw [ho, List.drop_drop]
    refine (go_walk t par i d P h1 h2 (by omega) (by have := h4 0 (by simp); simpa using this)).app fun _ P' _ hl ht => ?_
    have hg := getD_take h1 ht
    have := go_walks ts par (i + 1) d P' h1 hl (by rw [hg]; omega) (fun j hj => by
      have := h4 (j + 1) (by simpa using hj)
      rw [show i + 1 + j = i + (j + 1) by omega]
      exact this)
    rw [hg] at this
    exact this
end

/-- THE WHOLE: side by side from two roots. -/
theorem go_root (a b ra rb : T) (ha : ra.kids = [a]) (hb : rb.kids = [b]) : GoOk [rb] 1 (walk ra 0 1 a) (eqT a b) := by
  have h := go_walk a ra 0 1 [rb] (Nat.le_refl _) (Nat.le_refl _) (by show 0 < rb.kids.length; rw [hb]; simp) (by rw [ha]; rfl)
  have e : oth [rb] (ra, 0, 1) = b := by show rb.kids.getD 0 default = b; rw [hb]; rfl
  rwa [e] at h
/-- so long as all that came is alike, what comes next has its like -/
theorem go_next {P : List T} {d : Nat} {L : List P3} {b : Bool} (h : GoOk P d L b) {pre : List P3} {x : P3} (hp : pre ++ [x] <+: L) {P1 : List T} (hg : goT P pre = some P1) : OkP P1 x ∧ goT P (pre ++ [x]) = if alikeB (p3T x) (oth P1 x) = true then some (nxt P1 x) else none := by
  obtain ⟨r, hr⟩ := hp
  refine ⟨h.ok pre x r (by rw [← hr]; simp) P1 hg, ?_⟩
  rw [goT_app, hg]; rfl
/-- a beginning that is not alike tells that the whole is not -/
theorem go_not {P : List T} {d : Nat} {L : List P3} {b : Bool} (h : GoOk P d L b) {pre : List P3} (hp : pre <+: L) (hg : goT P pre = none) : b = false := by
  cases b with
  | false => rfl
  | true =>
    obtain ⟨P', h1, _⟩ := h.yes rfl
    obtain ⟨r, rfl⟩ := hp
    rw [goT_app, hg] at h1; cases h1
end Go.Tm
