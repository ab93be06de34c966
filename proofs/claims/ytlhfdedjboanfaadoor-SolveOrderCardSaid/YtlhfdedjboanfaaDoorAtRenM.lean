/-
  What follows of renaming by new points, and back. No condition.
-/
import Derived.Test.YtlhfdedjboanfaaDoorAtLaws
namespace Go.At
/-- n new points' atoms -/
def newL (n : Int) (k : Nat) : List Int := (List.range k).map fun i : Nat => -1 - (1000000 + n + (i : Int))
theorem newL_len (n : Int) (k : Nat) : (newL n k).length = k := by simp [newL]
theorem newL_succ (n : Int) (k : Nat) : newL n (k + 1) = newL n k ++ [-1 - (1000000 + n + (k : Int))] := by simp [newL, List.range_succ]
theorem newL_get (n : Int) (k i : Nat) (h : i < k) : (newL n k).getD i 0 = -1 - (1000000 + n + (i : Int)) := by
  unfold newL
  rw [List.getD_eq_getElem?_getD, List.getElem?_map, List.getElem?_range h]; rfl
theorem newL_mem {n : Int} {k : Nat} {x : Int} (h : x ∈ newL n k) : ∃ i, i < k ∧ x = -1 - (1000000 + n + (i : Int)) := by
  unfold newL at h
  obtain ⟨i, hi, rfl⟩ := List.mem_map.1 h
  exact ⟨i, List.mem_range.1 hi, rfl⟩
/-- what stands nowhere stays -/
theorem ren_out : ∀ (zs : List (Int × Int)) (a : Int), (∀ p ∈ zs, p.1 ≠ a) → renT zs a = a
  | [], _, _ => rfl
  | (x, y) :: r, a, h => by
    unfold renT
    rw [if_neg (fun e => h (x, y) (List.mem_cons_self ..) e.symm)]
    exact ren_out r a fun p hp => h p (List.mem_cons_of_mem _ hp)
/-- what stands at a place stands for the other -/
theorem ren_at : ∀ (ft tt : List Int) (i : Nat), i < ft.length → i < tt.length → (∀ j, j < i → ft.getD j 0 ≠ ft.getD i 0) → renT (ft.zip tt) (ft.getD i 0) = tt.getD i 0
  | [], _, _, h, _, _ => absurd h (Nat.not_lt_zero _)
  | _ :: _, [], _, _, h, _ => absurd h (Nat.not_lt_zero _)
  | x :: fr, y :: tr, 0, _, _, _ => by
    show renT ((x, y) :: fr.zip tr) x = y
    unfold renT
    rw [if_pos rfl]
  | x :: fr, y :: tr, i + 1, h1, h2, hu => by
    show renT ((x, y) :: fr.zip tr) (fr.getD i 0) = tr.getD i 0
    have h0 := hu 0 (by omega)
    unfold renT
    rw [if_neg (fun e => h0 e.symm)]
    exact ren_at fr tr i (by simpa using h1) (by simpa using h2) fun j hj => hu (j + 1) (by omega)
theorem vars_mem (l : List Pr) (z : Int) : z ∈ varsL l ↔ z ∈ atomsL l ∧ 0 ≤ z := by
  unfold varsL
  rw [ord_mem linI, List.mem_flatMap]
  constructor
  · rintro ⟨a, ha, hz⟩
    unfold pickV isV at hz
    by_cases h : a < 0
    · simp [h] at hz
    · simp [h] at hz
      subst hz
      exact ⟨ha, by omega⟩
  · rintro ⟨ha, hz⟩
    refine ⟨z, ha, ?_⟩
    have h : ¬ z < 0 := by omega
    unfold pickV isV
    simp [h]
theorem points_mem (l : List Pr) (z : Int) : z ∈ pointsL l ↔ 0 ≤ z ∧ (-1 - z) ∈ atomsL l := by
  unfold pointsL
  rw [ord_mem linI, List.mem_flatMap]
  constructor
  · rintro ⟨a, ha, hz⟩
    unfold pickP isP at hz
    by_cases h : a < 0
    · simp [h] at hz
      subst hz
      exact ⟨by omega, by rwa [show -1 - (-1 - a) = a by omega]⟩
    · simp [h] at hz
  · rintro ⟨hz, ha⟩
    refine ⟨-1 - z, ha, ?_⟩
    have h : -1 - z < 0 := by omega
    unfold pickP isP
    simp [h]
    omega
/-- no element comes twice in what rises -/
theorem asc_ne {l : List Int} (h : Asc ltI l) {i j : Nat} (hi : i < l.length) (hj : j < l.length) (hij : i ≠ j) : l.getD i 0 ≠ l.getD j 0 := by
  have key : ∀ a b (ha : a < l.length) (hb : b < l.length), a < b → l.getD a 0 < l.getD b 0 := fun a b ha hb hab => by
    have := List.pairwise_iff_getElem.1 h a b ha hb hab
    rw [List.getD_eq_getElem?_getD, List.getD_eq_getElem?_getD, List.getElem?_eq_getElem ha, List.getElem?_eq_getElem hb]
    exact of_decide_eq_true this
  rcases Nat.lt_or_gt_of_ne hij with h1 | h1
  · have := key i j hi hj h1; omega
  · have := key j i hj hi h1; omega
theorem zip_fst {ft tt : List Int} {p : Int × Int} (h : p ∈ ft.zip tt) : p.1 ∈ ft := (List.of_mem_zip h).1
section
variable {l : List Pr} {n : Int}
/-- a variable stands for a new point, and back; a point stays -/
theorem ren_fwd {a : Int} (ha : a ∈ atomsL l) : (0 ≤ a → ∃ i, i < (varsL l).length ∧ renL (varsL l) (newL n (varsL l).length) a = -1 - (1000000 + n + (i : Int)) ∧ (varsL l).getD i 0 = a) ∧ (a < 0 → renL (varsL l) (newL n (varsL l).length) a = a) := by
  have hasc : Asc ltI (varsL l) := ord_asc linI _
  constructor
  · intro h0
    obtain ⟨i, hi, e⟩ := List.mem_iff_getElem.1 ((vars_mem l a).2 ⟨ha, h0⟩)
    have e2 : (varsL l).getD i 0 = a := by rw [List.getD_eq_getElem?_getD, List.getElem?_eq_getElem hi]; exact e
    refine ⟨i, hi, ?_, e2⟩
    have h1 := ren_at (varsL l) (newL n (varsL l).length) i hi (by rw [newL_len]; exact hi) (fun j hj => asc_ne hasc (by omega) hi (by omega))
    rw [e2, newL_get n _ i hi] at h1
    exact h1
  · intro h0
    refine ren_out _ a fun p hp e => ?_
    have := (vars_mem l p.1).1 (zip_fst hp)
    omega
theorem mem_atoms {p : Pr} (hp : p ∈ l) : p.1 ∈ atomsL l ∧ p.2 ∈ atomsL l := ⟨(atoms_mem l _).2 ⟨p, hp, .inl rfl⟩, (atoms_mem l _).2 ⟨p, hp, .inr rfl⟩⟩
theorem ren_back (hn : 0 ≤ n) (hlow : ∀ a ∈ atomsL l, -1000000 ≤ a) {a : Int} (ha : a ∈ atomsL l) : renL (newL n (varsL l).length) (varsL l) (renL (varsL l) (newL n (varsL l).length) a) = a := by
  obtain ⟨h1, h2⟩ := ren_fwd (n := n) ha
  by_cases h0 : 0 ≤ a
  · obtain ⟨i, hi, e, e2⟩ := h1 h0
    rw [e]
    have h3 := ren_at (newL n (varsL l).length) (varsL l) i (by rw [newL_len]; exact hi) hi (fun j hj => by
      rw [newL_get n _ j (by omega), newL_get n _ i hi]; omega)
    rw [newL_get n _ i hi, e2] at h3
    exact h3
  · rw [h2 (by omega)]
    refine ren_out _ a fun p hp e => ?_
    obtain ⟨i, hi, e1⟩ := newL_mem (zip_fst hp)
    have := hlow a ha
    omega
theorem ren_stay (hn : 0 ≤ n) (hlow : ∀ a ∈ atomsL l, -1000000 ≤ a) {a : Int} (ha : a ∈ atomsL l) : renL (newL n (varsL l).length) (varsL l) a = a := by
  refine ren_out _ a fun p hp e => ?_
  obtain ⟨i, hi, e1⟩ := newL_mem (zip_fst hp)
  have := hlow a ha
  omega
theorem map_renback (hn : 0 ≤ n) (hlow : ∀ a ∈ atomsL l, -1000000 ≤ a) : mapL (renL (newL n (varsL l).length) (varsL l)) (mapL (renL (varsL l) (newL n (varsL l).length)) l) = l := by
  unfold mapL
  rw [List.map_map]
  refine (List.map_congr_left fun p hp => ?_).trans (List.map_id l)
  obtain ⟨a1, a2⟩ := mem_atoms hp
  show (_, _) = p
  rw [ren_back hn hlow a1, ren_back hn hlow a2]
theorem map_renstay (hn : 0 ≤ n) (hlow : ∀ a ∈ atomsL l, -1000000 ≤ a) : mapL (renL (newL n (varsL l).length) (varsL l)) l = l := by
  unfold mapL
  refine (List.map_congr_left fun p hp => ?_).trans (List.map_id l)
  obtain ⟨a1, a2⟩ := mem_atoms hp
  show (_, _) = p
  rw [ren_stay hn hlow a1, ren_stay hn hlow a2]
theorem vars_none (hn : 0 ≤ n) : varsL (mapL (renL (varsL l) (newL n (varsL l).length)) l) = [] := by
  refine List.eq_nil_iff_forall_not_mem.2 fun z hz => ?_
  obtain ⟨h1, h2⟩ := (vars_mem _ z).1 hz
  obtain ⟨q, hq, h3⟩ := (atoms_mem _ z).1 h1
  simp only [mapL, List.mem_map] at hq
  obtain ⟨p, hp, rfl⟩ := hq
  obtain ⟨a1, a2⟩ := mem_atoms hp
  have key : ∀ a ∈ atomsL l, renL (varsL l) (newL n (varsL l).length) a < 0 := fun a ha => by
    obtain ⟨f1, f2⟩ := ren_fwd (n := n) ha
    by_cases h0 : 0 ≤ a
    · obtain ⟨i, _, e, _⟩ := f1 h0
      omega
    · rw [f2 (by omega)]; omega
  have k1 := key _ a1
  have k2 := key _ a2
  rcases h3 with h3 | h3 <;> (dsimp only at h3; omega)
end
theorem map_none (l : List Pr) : mapL (renL [] []) l = l := by
  unfold mapL
  exact (List.map_congr_left fun p _ => rfl).trans (List.map_id l)
theorem ren_i64 {ft tt : List Int} (ht : ∀ x ∈ tt, I64 x) {a : Int} (ha : I64 a) : I64 (renL ft tt a) := by
  have key : ∀ zs : List (Int × Int), (∀ p ∈ zs, I64 p.2) → I64 (renT zs a) := by
    intro zs
    induction zs with
    | nil => intro _; exact ha
    | cons p r ih =>
      intro h
      obtain ⟨x, y⟩ := p
      unfold renT
      split
      · exact h (x, y) (List.mem_cons_self ..)
      · exact ih fun q hq => h q (List.mem_cons_of_mem _ hq)
  exact key _ fun p hp => ht _ (List.of_mem_zip hp).2
end Go.At
