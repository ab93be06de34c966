/-
  More mathematics of chapter 11's laws: pairs said twice in the other order; the top for all. Condition: words of 64 bits.
-/
import Derived.Test.YtlhfdedjboanfaaDoorSvMath
namespace Go.Proofs.YtlhfdedjboanfaaDoor
open Go.At Go.Sv

/-- said twice, in the other order -/
def dupL (l : List Pr) : List Pr := l.foldl (fun d p => p :: p :: d) []
theorem dup_snoc (l : List Pr) (k : Nat) (hk : k < l.length) : dupL (l.take (k + 1)) = l.getD k (0, 0) :: l.getD k (0, 0) :: dupL (l.take k) := by
  unfold dupL
  rw [take_snoc l (0, 0) k hk, List.foldl_append]; rfl
theorem dup_fold : ∀ (l d : List Pr) (p : Pr), p ∈ l.foldl (fun d p => p :: p :: d) d ↔ p ∈ l ∨ p ∈ d
  | [], d, p => by simp
  | a :: l, d, p => by
    rw [List.foldl_cons, dup_fold l, List.mem_cons, List.mem_cons, List.mem_cons]
    constructor
    · rintro (h | h | h | h)
      · exact .inl (.inr h)
      · exact .inl (.inl h)
      · exact .inl (.inl h)
      · exact .inr h
    · rintro ((h | h) | h)
      · exact .inr (.inl h)
      · exact .inl h
      · exact .inr (.inr (.inr h))
theorem dup_mem (l : List Pr) (p : Pr) : p ∈ l ↔ p ∈ dupL l := by
  unfold dupL
  rw [dup_fold]; simp
theorem dup_len (l : List Pr) : (dupL l).length = 2 * l.length := by
  have : ∀ (l d : List Pr), (l.foldl (fun d p => p :: p :: d) d).length = 2 * l.length + d.length := fun l => by
    induction l with
    | nil => intro d; simp
    | cons a l ih => intro d; rw [List.foldl_cons, ih]; simp; omega
  unfold dupL
  rw [this]; simp
/-- each point at the right is the top -/
def topP (t : Int) (p : Pr) : Pr := (p.1, if p.2 < 0 then pointT t else p.2)
def topsL (t : Int) (l : List Pr) : List Pr := l.map (topP t)
section
variable {ns : List ByteArray} {us : List Nat} {J M : Nat → Nat → Nat} {z t : Nat}
theorem kn_pt (h : L.Told ns us J M z t) {k : Nat} (hk : k < us.length) : kn ns.length (pointT ((k : Nat) : Int)) = true := by
  rw [show pointT ((k : Nat) : Int) = -1 - ((k : Nat) : Int) from if_neg (by omega)]
  unfold kn
  rw [show -1 - (-1 - ((k : Nat) : Int)) = ((k : Nat) : Int) by omega, pnt_of (by rw [h.eqn]; exact hk), Bool.or_true]
theorem told_t (h : L.Told ns us J M z t) : t < us.length := (h.lat.ord.inn _ _ (h.isT 0 h.pos)).2
theorem tops_known (h : L.Told ns us J M z t) {l : List Pr} (hl : ∀ p ∈ l, kn ns.length p.1 = true ∧ kn ns.length p.2 = true) : ∀ p ∈ topsL (t : Int) l, kn ns.length p.1 = true ∧ kn ns.length p.2 = true := fun p hp => by
  obtain ⟨q, hq, rfl⟩ := List.mem_map.1 hp
  refine ⟨(hl q hq).1, ?_⟩
  show kn ns.length (if q.2 < 0 then pointT (t : Int) else q.2) = true
  by_cases h0 : q.2 < 0
  · rw [if_pos h0]; exact kn_pt h (told_t h)
  · rw [if_neg h0]; exact (hl q hq).2
/-- the top for all solves -/
theorem top_solves (h : L.Told ns us J M z t) (hR : L.rightB ns us = true) {l : List Pr} (hl : ∀ p ∈ l, kn ns.length p.1 = true ∧ kn ns.length p.2 = true) :
    solvesT ns us (topsL (t : Int) l) (solL (topsL (t : Int) l) fun _ => t) = true := by
  have ht := told_t h
  have hk := tops_known h hl
  have hp : (solL (topsL (t : Int) l) fun _ => t).all (fun y => pnt ns.length y.2) = true := sol_all h.eqn fun _ _ => ht
  refine solves_mk ?_ hp fun p hp' => ?_
  · unfold knownT
    rw [hR, Bool.true_and, List.all_eq_true]
    intro p hp
    rw [(hk p hp).1, (hk p hp).2]; rfl
  · obtain ⟨k, e1, hk1⟩ := value_nat (us := us) h hp (hk p hp').1
    have e2 : valueT ns us (solL (topsL (t : Int) l) fun _ => t) p.2 = (t : Int) := by
      by_cases h0 : p.2 < 0
      · obtain ⟨q, hq, rfl⟩ := List.mem_map.1 hp'
        have e3 : (topP (t : Int) q).2 = pointT (t : Int) := by
          show (if q.2 < 0 then pointT (t : Int) else q.2) = _
          by_cases h1 : q.2 < 0
          · rw [if_pos h1]
          · have h2 : (topP (t : Int) q).2 = q.2 := if_neg h1
            rw [h2] at h0
            exact absurd h0 h1
        rw [e3] at h0 ⊢
        have := (value_pt (us := us) (s := solL (topsL (t : Int) l) fun _ => t) h0 (kn_pt h ht)).1
        rw [this, show pointT ((t : Nat) : Int) = -1 - ((t : Nat) : Int) from if_neg (by omega)]
        omega
      · obtain ⟨i, hi, e⟩ := vars_at ((atoms_mem _ p.2).2 ⟨p, hp', .inr rfl⟩) (by omega)
        rw [← e]
        exact sol_value h.eqn (fun _ _ => ht) hi
    unfold holdsT
    rw [e1, e2, h.leq k t hk1 ht]
    exact h.isT k hk1
theorem least_top (h : L.Told ns us J M z t) (hR : L.rightB ns us = true) {l r : List Pr} {ok : Bool} (hl : ∀ p ∈ l, kn ns.length p.1 = true ∧ kn ns.length p.2 = true) (hL : LeastT ns us (topsL (t : Int) l) r ok) : ok = true := by
  cases ok with
  | true => rfl
  | false =>
    have := (hL.no rfl).2 (solL (topsL (t : Int) l) fun _ => t)
    rw [top_solves h hR hl] at this
    cases this
end
end Go.Proofs.YtlhfdedjboanfaaDoor
