/-
  What chapter 11 tells, as plain words: who is known, what a solution says, the least one. Condition: words of 64 bits.
-/
import Derived.Test.YtlhfdedjboanfaaDoorLtOrder
import Derived.Test.YtlhfdedjboanfaaDoorAtRenM
import Derived.Test.YtlhfdedjboanfaaDoorSvAbs
namespace Go.Proofs.YtlhfdedjboanfaaDoor
open Go.At Go.Sv

/-- a point of so many? -/
def pnt (n : Nat) (p : Int) : Bool := decide (0 ≤ p) && decide (p < n)
def kn (n : Nat) (a : Int) : Bool := !isP a || pnt n (-1 - a)
def knownT (ns : List ByteArray) (us : List Nat) (c : List Pr) : Bool := L.rightB ns us && c.all fun p => kn ns.length p.1 && kn ns.length p.2
def valueT (ns : List ByteArray) (us : List Nat) (s : List Pr) (a : Int) : Int :=
  if a < 0 then (if pnt ns.length (-1 - a) then -1 - a else -1) else
    match s.find? (fun x => x.1 == a) with
    | some x => if pnt ns.length x.2 then x.2 else -1
    | none => L.bottomI ns us
def holdsT (ns : List ByteArray) (us : List Nat) (s : List Pr) (p : Pr) : Bool := L.leqB ns.length us (valueT ns us s p.1) (valueT ns us s p.2)
def solvesT (ns : List ByteArray) (us : List Nat) (c s : List Pr) : Bool := knownT ns us c && s.all (fun x => pnt ns.length x.2) && c.all (holdsT ns us s)
/-- what Least tells -/
structure LeastT (ns : List ByteArray) (us : List Nat) (c r : List Pr) (ok : Bool) : Prop where
  yes : ok = true → r.map (·.1) = varsL c ∧ solvesT ns us c r = true ∧ ∀ s, solvesT ns us c s = true → ∀ x ∈ r, L.leqB ns.length us x.2 (valueT ns us s x.1) = true
  no : ok = false → r = [] ∧ ∀ s, solvesT ns us c s = false

/-- a way from a variable to another one -/
def EdgeOf (c : List Pr) (a b : Nat) : Prop := a < (varsL c).length ∧ b < (varsL c).length ∧ ((varsL c).getD a 0, (varsL c).getD b 0) ∈ c
/-- a point that a variable is above -/
def PtOf (c : List Pr) (q b : Nat) : Prop := b < (varsL c).length ∧ ∃ p, p ∈ c ∧ p.1 < 0 ∧ (q : Int) = -1 - p.1 ∧ p.2 = (varsL c).getD b 0
theorem vars_asc (c : List Pr) : Asc ltI (varsL c) := ord_asc linI _
theorem getD_get {l : List Int} {i : Nat} (h : i < l.length) : l.getD i 0 = l[i] := by rw [List.getD_eq_getElem?_getD, List.getElem?_eq_getElem h]; rfl
theorem vars_at {c : List Pr} {a : Int} (h : a ∈ atomsL c) (h0 : 0 ≤ a) : ∃ i, i < (varsL c).length ∧ (varsL c).getD i 0 = a := by
  obtain ⟨i, hi, e⟩ := List.mem_iff_getElem.1 ((vars_mem c a).2 ⟨h, h0⟩)
  exact ⟨i, hi, by rw [getD_get hi]; exact e⟩
theorem vars_pos {c : List Pr} {i : Nat} (hi : i < (varsL c).length) : 0 ≤ (varsL c).getD i 0 := by
  have : (varsL c).getD i 0 ∈ varsL c := by rw [getD_get hi]; exact List.getElem_mem _
  exact ((vars_mem c _).1 this).2
theorem vars_inj {c : List Pr} {i j : Nat} (hi : i < (varsL c).length) (hj : j < (varsL c).length) (e : (varsL c).getD i 0 = (varsL c).getD j 0) : i = j := by
  have h := List.pairwise_iff_getElem.1 (vars_asc c)
  rw [getD_get hi, getD_get hj] at e
  rcases Nat.lt_trichotomy i j with h1 | h1 | h1
  · have h2 := h i j hi hj h1
    have h3 := of_decide_eq_true h2
    omega
  · exact h1
  · have h2 := h j i hj hi h1
    have h3 := of_decide_eq_true h2
    omega
/-- a variable's points, by place -/
def solL (c : List Pr) (x : Nat → Nat) : List Pr := (List.range (varsL c).length).map fun i => ((varsL c).getD i 0, ((x i : Nat) : Int))
theorem sol_fst (c : List Pr) (x : Nat → Nat) : (solL c x).map (·.1) = varsL c := by
  unfold solL
  rw [List.map_map]
  refine List.ext_getElem (by simp) fun i h1 h2 => ?_
  simp only [List.getElem_map, List.getElem_range, Function.comp]
  exact getD_get h2
theorem sol_find (c : List Pr) (x : Nat → Nat) {i : Nat} (hi : i < (varsL c).length) : (solL c x).find? (fun y => y.1 == (varsL c).getD i 0) = some ((varsL c).getD i 0, ((x i : Nat) : Int)) := by
  unfold solL
  rw [List.find?_map]
  have : (List.range (varsL c).length).find? ((fun y : Pr => y.1 == (varsL c).getD i 0) ∘ fun i => ((varsL c).getD i 0, ((x i : Nat) : Int))) = some i := by
    rw [List.find?_range_eq_some]
    refine ⟨by simp, List.mem_range.2 hi, fun j hj => ?_⟩
    simp only [Function.comp, Bool.not_eq_true', beq_eq_false_iff_ne]
    intro e
    have := vars_inj (by omega) hi e
    omega
  rw [this]; rfl
section
variable {ns : List ByteArray} {us : List Nat} {J M : Nat → Nat → Nat} {z t : Nat} {c : List Pr}
theorem pnt_nat {n : Nat} {p : Int} (h : pnt n p = true) : ∃ k : Nat, p = (k : Int) ∧ k < n := by
  simp only [pnt, Bool.and_eq_true, decide_eq_true_eq] at h
  exact ⟨p.toNat, by omega, by omega⟩
theorem pnt_of {n k : Nat} (h : k < n) : pnt n (k : Int) = true := by simp only [pnt, Bool.and_eq_true, decide_eq_true_eq]; omega
theorem told_rows (h : L.Told ns us J M z t) : Sv.Rows us.length (Lt.row us) J := by
  refine ⟨h.lat.ord.refl, h.lat.ord.trans, h.lat.ord.anti, h.lat.ord.inn, fun a b ha hb => ?_⟩
  have hj := h.isJ a b ha hb
  refine ⟨(h.lat.ord.inn _ _ hj.left).2, Nat.eq_of_testBit_eq fun i => ?_⟩
  rw [Nat.testBit_and]
  cases h1 : (Lt.row us (J a b)).testBit i with
  | true =>
    have h2 : L.le us a i = true := h.lat.ord.trans _ _ _ hj.left h1
    have h3 : L.le us b i = true := h.lat.ord.trans _ _ _ hj.right h1
    unfold L.le at h2 h3
    rw [h2, h3]; rfl
  | false =>
    cases h2 : (Lt.row us a).testBit i with
    | false => rfl
    | true =>
      cases h3 : (Lt.row us b).testBit i with
      | false => rfl
      | true =>
        have h4 : L.le us (J a b) i = true := hj.least i h2 h3
        unfold L.le at h4
        rw [h1] at h4
        cases h4
theorem told_z (h : L.Told ns us J M z t) : z < us.length := L.le_left (h.isZ 0 h.pos)
/-- what a solution says of an atom that is known is a point -/
theorem value_nat (h : L.Told ns us J M z t) {s : List Pr} (hs : s.all (fun x => pnt ns.length x.2) = true) {a : Int} (ha : kn ns.length a = true) : ∃ k : Nat, valueT ns us s a = (k : Int) ∧ k < us.length := by
  unfold valueT
  by_cases h0 : a < 0
  · rw [if_pos h0]
    unfold kn isP at ha
    rw [decide_eq_true h0] at ha
    simp only [Bool.not_true, Bool.false_or] at ha
    rw [if_pos ha]
    obtain ⟨k, e, hk⟩ := pnt_nat ha
    exact ⟨k, e, by rw [← h.eqn]; exact hk⟩
  · rw [if_neg h0]
    split
    · rename_i x hx
      have hm := List.mem_of_find?_eq_some hx
      have hp := List.all_eq_true.1 hs x hm
      rw [if_pos hp]
      obtain ⟨k, e, hk⟩ := pnt_nat hp
      exact ⟨k, e, by rw [← h.eqn]; exact hk⟩
    · exact ⟨z, h.bottom, told_z h⟩
theorem known_parts (hk : knownT ns us c = true) : L.rightB ns us = true ∧ ∀ p, p ∈ c → kn ns.length p.1 = true ∧ kn ns.length p.2 = true := by
  unfold knownT at hk
  rw [Bool.and_eq_true, List.all_eq_true] at hk
  exact ⟨hk.1, fun p hp => by have := hk.2 p hp; rwa [Bool.and_eq_true] at this⟩
theorem solves_parts {s : List Pr} (h : solvesT ns us c s = true) : knownT ns us c = true ∧ s.all (fun x => pnt ns.length x.2) = true ∧ ∀ p, p ∈ c → holdsT ns us s p = true := by
  unfold solvesT at h
  rw [Bool.and_eq_true, Bool.and_eq_true, List.all_eq_true (l := c)] at h
  exact ⟨h.1.1, h.1.2, h.2⟩
theorem solves_mk {s : List Pr} (h1 : knownT ns us c = true) (h2 : s.all (fun x => pnt ns.length x.2) = true) (h3 : ∀ p, p ∈ c → holdsT ns us s p = true) : solvesT ns us c s = true := by
  unfold solvesT
  rw [Bool.and_eq_true, Bool.and_eq_true, List.all_eq_true (l := c)]
  exact ⟨⟨h1, h2⟩, h3⟩
theorem kn_var {n : Nat} {a : Int} (h : 0 ≤ a) : kn n a = true := by
  unfold kn isP
  rw [decide_eq_false (by omega)]; rfl
/-- a solution's points for the variables -/
def valOf (ns : List ByteArray) (us : List Nat) (c s : List Pr) (i : Nat) : Nat := (valueT ns us s ((varsL c).getD i 0)).toNat
theorem valOf_eq (h : L.Told ns us J M z t) {s : List Pr} (hs : s.all (fun x => pnt ns.length x.2) = true) {i : Nat} (hi : i < (varsL c).length) : valueT ns us s ((varsL c).getD i 0) = ((valOf ns us c s i : Nat) : Int) ∧ valOf ns us c s i < us.length := by
  obtain ⟨k, e, hk⟩ := value_nat h hs (kn_var (vars_pos hi))
  unfold valOf
  rw [e]
  exact ⟨by simp, by simpa using hk⟩
theorem value_pt {s : List Pr} {a : Int} (h0 : a < 0) (ha : kn ns.length a = true) : valueT ns us s a = -1 - a ∧ ∃ q : Nat, -1 - a = (q : Int) ∧ q < ns.length := by
  unfold kn isP at ha
  rw [decide_eq_true h0] at ha
  simp only [Bool.not_true, Bool.false_or] at ha
  unfold valueT
  rw [if_pos h0, if_pos ha]
  exact ⟨rfl, pnt_nat ha⟩
theorem ans_of (h : L.Told ns us J M z t) {s : List Pr} (hs : solvesT ns us c s = true) : Ans us.length (Lt.row us) (varsL c).length (EdgeOf c) (PtOf c) (valOf ns us c s) := by
  obtain ⟨hk, hp, hc⟩ := solves_parts hs
  refine ⟨fun i hi => (valOf_eq h hp hi).2, fun a b ⟨ha, hb, hab⟩ => ?_, fun q b ⟨hb, p, hpc, h0, hq, e⟩ => ?_⟩
  · have h1 := hc _ hab
    unfold holdsT at h1
    rw [(valOf_eq h hp ha).1, (valOf_eq h hp hb).1, h.leq _ _ (valOf_eq h hp ha).2 (valOf_eq h hp hb).2] at h1
    exact h1
  · have h1 := hc p hpc
    unfold holdsT at h1
    obtain ⟨e2, q2, e3, hq2⟩ := value_pt (us := us) (s := s) h0 ((known_parts hk).2 p hpc).1
    obtain rfl : q = q2 := by omega
    rw [e2, e3, e, (valOf_eq h hp hb).1, h.leq _ _ (by rw [← h.eqn]; exact hq2) (valOf_eq h hp hb).2] at h1
    exact h1
theorem sol_all (hn : ns.length = us.length) {x : Nat → Nat} (hx : ∀ i, i < (varsL c).length → x i < us.length) : (solL c x).all (fun y => pnt ns.length y.2) = true := by
  rw [List.all_eq_true]
  intro y hy
  obtain ⟨i, hi, rfl⟩ := List.mem_map.1 hy
  exact pnt_of (by rw [hn]; exact hx i (List.mem_range.1 hi))
theorem sol_value (hn : ns.length = us.length) {x : Nat → Nat} (hx : ∀ i, i < (varsL c).length → x i < us.length) {i : Nat} (hi : i < (varsL c).length) : valueT ns us (solL c x) ((varsL c).getD i 0) = ((x i : Nat) : Int) := by
  unfold valueT
  rw [if_neg (by have := vars_pos hi; omega), sol_find c x hi]
  simp only
  rw [if_pos (pnt_of (by rw [hn]; exact hx i hi))]
/-- WHAT IS REACHED IS THE LEAST ONE, OR THERE IS NONE. -/
theorem least_told (h : L.Told ns us J M z t) (hk : knownT ns us c = true) {x : Nat → Nat} (hA : Ans us.length (Lt.row us) (varsL c).length (EdgeOf c) (PtOf c) x)
    (hle : ∀ val, Ans us.length (Lt.row us) (varsL c).length (EdgeOf c) (PtOf c) val → ∀ i, i < (varsL c).length → (Lt.row us (x i)).testBit (val i) = true) :
    (solvesT ns us c (solL c x) = true → LeastT ns us c (solL c x) true) ∧ (solvesT ns us c (solL c x) = false → LeastT ns us c [] false) := by
  have below : ∀ s, solvesT ns us c s = true → ∀ i, i < (varsL c).length → L.le us (x i) (valOf ns us c s i) = true := fun s hs i hi => hle _ (ans_of h hs) i hi
  refine ⟨fun hs => ⟨fun _ => ⟨sol_fst c x, hs, fun s hs2 y hy => ?_⟩, fun k => (by cases k)⟩, fun hs => ⟨fun k => (by cases k), fun _ => ⟨rfl, fun s => ?_⟩⟩⟩
  · obtain ⟨i, hi, rfl⟩ := List.mem_map.1 hy
    have hi' := List.mem_range.1 hi
    obtain ⟨e, hv⟩ := valOf_eq (c := c) h (solves_parts hs2).2.1 hi'
    show L.leqB ns.length us ((x i : Nat) : Int) (valueT ns us s ((varsL c).getD i 0)) = true
    rw [e, h.leq _ _ (hA.1 i hi') hv]
    exact below s hs2 i hi'
  · cases hs2 : solvesT ns us c s with
    | false => rfl
    | true =>
      rw [← hs]
      obtain ⟨_, hp, hc⟩ := solves_parts hs2
      refine (solves_mk hk (sol_all h.eqn hA.1) fun p hpc => ?_).symm
      have hkp := (known_parts hk).2 p hpc
      have m1 : p.1 ∈ atomsL c := (atoms_mem c _).2 ⟨p, hpc, .inl rfl⟩
      have m2 : p.2 ∈ atomsL c := (atoms_mem c _).2 ⟨p, hpc, .inr rfl⟩
      have hold := hc p hpc
      unfold holdsT at hold ⊢
      by_cases h2 : p.2 < 0
      · obtain ⟨f2, q2, g2, hq2⟩ := value_pt (us := us) (s := s) h2 hkp.2
        rw [f2, g2] at hold
        rw [(value_pt (us := us) (s := solL c x) h2 hkp.2).1, g2]
        by_cases h1 : p.1 < 0
        · rw [(value_pt (us := us) (s := s) h1 hkp.1).1] at hold
          rw [(value_pt (us := us) (s := solL c x) h1 hkp.1).1]
          exact hold
        · obtain ⟨a, ha, ea⟩ := vars_at m1 (by omega)
          rw [← ea] at hold ⊢
          rw [(valOf_eq h hp ha).1, h.leq _ _ (valOf_eq h hp ha).2 (by rw [← h.eqn]; exact hq2)] at hold
          rw [sol_value h.eqn hA.1 ha, h.leq _ _ (hA.1 a ha) (by rw [← h.eqn]; exact hq2)]
          exact h.lat.ord.trans _ _ _ (below s hs2 a ha) hold
      · obtain ⟨b, hb, eb⟩ := vars_at m2 (by omega)
        rw [← eb, sol_value h.eqn hA.1 hb]
        by_cases h1 : p.1 < 0
        · obtain ⟨f1, q1, g1, hq1⟩ := value_pt (us := us) (s := solL c x) h1 hkp.1
          rw [f1, g1, h.leq _ _ (by rw [← h.eqn]; exact hq1) (hA.1 b hb)]
          exact hA.2.2 q1 b ⟨hb, p, hpc, h1, g1.symm, eb.symm⟩
        · obtain ⟨a, ha, ea⟩ := vars_at m1 (by omega)
          rw [← ea, sol_value h.eqn hA.1 ha, h.leq _ _ (hA.1 a ha) (hA.1 b hb)]
          refine hA.2.1 a b ⟨ha, hb, ?_⟩
          rw [ea, eb]
          exact hpc
end
end Go.Proofs.YtlhfdedjboanfaaDoor
