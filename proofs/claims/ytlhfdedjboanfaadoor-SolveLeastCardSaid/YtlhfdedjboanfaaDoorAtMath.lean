/-
  Labels, pairs of them, and what is told of them, as plain words: lists in order, each element once. No condition.
-/
import Derived.Lib.SlicesCompact
import Derived.Lib.SlKept
namespace Go.At
open Go.Lib

/-- a number of 64 bits -/
def I64 (n : Int) : Prop := -9223372036854775808 ≤ n ∧ n ≤ 9223372036854775807
abbrev Pr := Int × Int

/-! ### lists in order -/
/-- an order that parts whatever two that are not one -/
structure Lin {α : Type} (lt : α → α → Bool) : Prop where
  irrefl : ∀ x, lt x x = false
  trans : ∀ x y z, lt x y = true → lt y z = true → lt x z = true
  total : ∀ x y, lt x y = false → lt y x = false → x = y
section
variable {α : Type} {lt : α → α → Bool}
theorem Lin.anti (h : Lin lt) {x y : α} (a : lt x y = true) : lt y x = false := by
  cases e : lt y x with
  | false => rfl
  | true =>
    have h1 := h.trans x y x a e
    rw [h.irrefl] at h1
    cases h1
/-- rising, each once -/
def Asc (lt : α → α → Bool) (l : List α) : Prop := l.Pairwise fun a b => lt a b = true
/-- an element put in where it belongs, once -/
def ins (lt : α → α → Bool) (x : α) : List α → List α
  | [] => [x]
  | y :: r => if lt x y then x :: y :: r else if lt y x then y :: ins lt x r else y :: r
theorem mem_ins (h : Lin lt) (x z : α) : ∀ l : List α, z ∈ ins lt x l ↔ z = x ∨ z ∈ l
  | [] => by simp [ins]
  | y :: r => by
    unfold ins
    split
    · simp
    · rename_i h1
      split
      · simp only [List.mem_cons, mem_ins h x z r]
        constructor
        · rintro (a | a | a) <;> simp [a]
        · rintro (a | a | a) <;> simp [a]
      · rename_i h2
        have e : x = y := h.total x y (by simpa using h1) (by simpa using h2)
        subst e
        simp
theorem asc_ins (h : Lin lt) (x : α) : ∀ l : List α, Asc lt l → Asc lt (ins lt x l)
  | [], _ => List.pairwise_singleton _ _
  | y :: r, ha => by
    have h1 := List.pairwise_cons.1 ha
    unfold ins
    split
    · rename_i c
      refine List.pairwise_cons.2 ⟨fun z hz => ?_, ha⟩
      rcases List.mem_cons.1 hz with rfl | hz
      · exact c
      · exact h.trans _ _ _ c (h1.1 z hz)
    · split
      · rename_i c
        refine List.pairwise_cons.2 ⟨fun z hz => ?_, asc_ins h x r h1.2⟩
        rcases (mem_ins h x z r).1 hz with rfl | hz
        · exact c
        · exact h1.1 z hz
      · exact ha
/-- two lists in order with the same elements are one -/
theorem asc_one (h : Lin lt) : ∀ {l m : List α}, Asc lt l → Asc lt m → (∀ z, z ∈ l ↔ z ∈ m) → l = m
  | [], [], _, _, _ => rfl
  | [], y :: _, _, _, e => absurd ((e y).2 (List.mem_cons_self ..)) (by simp)
  | x :: _, [], _, _, e => absurd ((e x).1 (List.mem_cons_self ..)) (by simp)
  | x :: r, y :: s, ha, hb, e => by
    have h1 := List.pairwise_cons.1 ha
    have h2 := List.pairwise_cons.1 hb
    have hxy : x = y := by
      rcases List.mem_cons.1 ((e x).1 (List.mem_cons_self ..)) with a | a
      · exact a
      · rcases List.mem_cons.1 ((e y).2 (List.mem_cons_self ..)) with b | b
        · exact b.symm
        · have c1 := h2.1 x a
          have c2 := h1.1 y b
          rw [h.anti c1] at c2
          cases c2
    subst hxy
    congr 1
    refine asc_one h h1.2 h2.2 fun z => ?_
    constructor
    · intro hz
      rcases List.mem_cons.1 ((e z).1 (List.mem_cons_of_mem _ hz)) with rfl | a
      · have := h1.1 z hz
        rw [h.irrefl] at this
        cases this
      · exact a
    · intro hz
      rcases List.mem_cons.1 ((e z).2 (List.mem_cons_of_mem _ hz)) with rfl | a
      · have := h2.1 z hz
        rw [h.irrefl] at this
        cases this
      · exact a
/-- a list put in order, each element once -/
def ordL (lt : α → α → Bool) (l : List α) : List α := l.foldl (fun o x => ins lt x o) []
theorem fold_mem (h : Lin lt) (z : α) : ∀ (l o : List α), z ∈ l.foldl (fun o x => ins lt x o) o ↔ z ∈ l ∨ z ∈ o
  | [], o => by simp
  | x :: r, o => by
    rw [List.foldl_cons, fold_mem h z r, mem_ins h]
    simp only [List.mem_cons]
    constructor
    · rintro (a | a | a) <;> simp [a]
    · rintro ((a | a) | a) <;> simp [a]
theorem fold_asc (h : Lin lt) : ∀ (l o : List α), Asc lt o → Asc lt (l.foldl (fun o x => ins lt x o) o)
  | [], _, ho => ho
  | x :: r, o, ho => fold_asc h r _ (asc_ins h x o ho)
theorem ord_mem (h : Lin lt) (l : List α) (z : α) : z ∈ ordL lt l ↔ z ∈ l := by simp [ordL, fold_mem h]
theorem ord_asc (h : Lin lt) (l : List α) : Asc lt (ordL lt l) := fold_asc h l [] List.Pairwise.nil
theorem ord_of (h : Lin lt) {l m : List α} (ha : Asc lt m) (hm : ∀ z, z ∈ m ↔ z ∈ l) : m = ordL lt l :=
  asc_one h ha (ord_asc h l) fun z => (hm z).trans (ord_mem h l z).symm
theorem ord_one (h : Lin lt) {l m : List α} (hm : ∀ z, z ∈ m ↔ z ∈ l) : ordL lt m = ordL lt l :=
  ord_of h (ord_asc h m) fun z => (ord_mem h m z).trans (hm z)
theorem ord_self (h : Lin lt) {l : List α} (ha : Asc lt l) : ordL lt l = l := (ord_of h ha fun _ => Iff.rfl).symm
theorem ins_len (x : α) : ∀ l : List α, (ins lt x l).length ≤ l.length + 1
  | [] => by simp [ins]
  | y :: r => by
    have := ins_len x r
    unfold ins
    split
    · simp
    · split <;> simp <;> omega
theorem fold_len : ∀ (l o : List α), (l.foldl (fun o x => ins lt x o) o).length ≤ l.length + o.length
  | [], o => by simp
  | x :: r, o => by
    have h1 := fold_len r (ins lt x o)
    have h2 := ins_len (lt := lt) x o
    simp only [List.foldl_cons, List.length_cons]
    omega
theorem ord_len (l : List α) : (ordL lt l).length ≤ l.length := by
  have := fold_len (lt := lt) l []
  simpa [ordL] using this

/-! ### what is sorted, then made compact -/
variable [Inhabited α] [DecidableEq α]
theorem compact_asc (h : Lin lt) (d : Array α) (hs : ∀ i j, i < j → j < d.size → lt d[j]! d[i]! = false) : ∀ m, m ≤ d.size → Asc lt (compactUpTo d m) ∧ ∀ z, z ∈ compactUpTo d m ↔ ∃ j, j < m ∧ d[j]! = z
  | 0, _ => ⟨by simp [compactUpTo, Asc], fun z => by simp [compactUpTo]⟩
  | m + 1, hm => by
    obtain ⟨h1, h2⟩ := compact_asc h d hs m (by omega)
    rw [compactUpTo_succ]
    cases hk : keeps d m with
    | false =>
      have hk' : ¬ (m = 0 ∨ d[m]! ≠ d[m - 1]!) := by
        unfold keeps at hk
        exact of_decide_eq_false hk
      have e : d[m]! = d[m - 1]! := by
        by_cases c : d[m]! = d[m - 1]!
        · exact c
        · exact absurd (.inr c) hk'
      have hm0 : m ≠ 0 := fun c => hk' (.inl c)
      simp only [Bool.false_eq_true, if_false, List.append_nil]
      refine ⟨h1, fun z => (h2 z).trans ⟨fun ⟨j, a, b⟩ => ⟨j, by omega, b⟩, fun ⟨j, a, b⟩ => ?_⟩⟩
      by_cases c : j = m
      · exact ⟨m - 1, by omega, by rw [← e, ← c, b]⟩
      · exact ⟨j, by omega, b⟩
    | true =>
      have hk' : m = 0 ∨ d[m]! ≠ d[m - 1]! := by
        unfold keeps at hk
        exact of_decide_eq_true hk
      simp only [if_true]
      constructor
      · refine List.pairwise_append.2 ⟨h1, List.pairwise_singleton _ _, fun x hx y hy => ?_⟩
        obtain ⟨j, hj, rfl⟩ := (h2 x).1 hx
        obtain rfl := List.mem_singleton.1 hy
        cases e : lt d[j]! d[m]! with
        | true => rfl
        | false =>
          exfalso
          have e1 := h.total _ _ e (hs j m hj (by omega))
          have e2 : d[m]! = d[m - 1]! := by
            by_cases c : j = m - 1
            · rw [← c, e1]
            · have s1 := hs j (m - 1) (by omega) (by omega)
              rw [e1] at s1
              exact h.total _ _ (hs (m - 1) m (by omega) (by omega)) s1
          rcases hk' with k | k
          · omega
          · exact k e2
      · intro z
        rw [List.mem_append, h2, List.mem_singleton]
        constructor
        · rintro (⟨j, a, b⟩ | a)
          · exact ⟨j, by omega, b⟩
          · exact ⟨m, by omega, a.symm⟩
        · rintro ⟨j, a, b⟩
          by_cases c : j = m
          · exact .inr (by rw [← b, c])
          · exact .inl ⟨j, by omega, b⟩
/-- what is sorted and then made compact is in order, each once -/
theorem compact_ord (h : Lin lt) {l s : List α} (hp : s.Perm l) (hs : s.Pairwise fun a b => lt b a = false) : compactUpTo s.toArray s.length = ordL lt l := by
  have gs : ∀ j (hj : j < s.length), s.toArray[j]! = s[j] := fun j hj => by rw [getElem!_pos s.toArray j (by simpa using hj)]; simp
  obtain ⟨h1, h2⟩ := compact_asc h s.toArray (fun i j hij hj => by
    have hj' : j < s.length := by simpa using hj
    rw [gs i (by omega), gs j hj']
    exact List.pairwise_iff_getElem.1 hs i j (by omega) hj' hij) s.length (by simp)
  refine ord_of h h1 fun z => (h2 z).trans ?_
  rw [← hp.mem_iff, List.mem_iff_getElem]
  constructor
  · rintro ⟨j, hj, rfl⟩
    exact ⟨j, hj, (gs j hj).symm⟩
  · rintro ⟨j, hj, rfl⟩
    exact ⟨j, hj, gs j hj⟩
end

/-! ### the two orders -/
def ltI (x y : Int) : Bool := decide (x < y)
theorem linI : Lin ltI := ⟨fun x => by simp [ltI], fun x y z h1 h2 => by simp [ltI] at *; omega, fun x y h1 h2 => by simp [ltI] at *; omega⟩
def ltP (x y : Pr) : Bool := decide (x.1 < y.1) || (decide (x.1 = y.1) && decide (x.2 < y.2))
theorem linP : Lin ltP := by
  refine ⟨fun x => by simp [ltP], fun x y z h1 h2 => ?_, fun x y h1 h2 => ?_⟩
  · simp only [ltP, Bool.or_eq_true, Bool.and_eq_true, decide_eq_true_eq] at *
    omega
  · have a1 : ¬ (x.1 < y.1 ∨ x.1 = y.1 ∧ x.2 < y.2) := by simpa [ltP] using h1
    have a2 : ¬ (y.1 < x.1 ∨ y.1 = x.1 ∧ y.2 < x.2) := by simpa [ltP] using h2
    exact Prod.ext (by omega) (by omega)

/-! ### what chapter 10 tells -/
def pointT (p : Int) : Int := if p < 0 then 0 else -1 - p
def pointOfT (a : Int) : Int := if a < 0 then -1 - a else -1
def unlike (p : Pr) : Bool := !(p.1 == p.2)
def normL (l : List Pr) : List Pr := ordL ltP (l.filter unlike)
def atomsL (l : List Pr) : List Int := l.flatMap fun p => [p.1, p.2]
/-- a variable? -/
def isV (a : Int) : Bool := !decide (a < 0)
/-- a point? -/
def isP (a : Int) : Bool := decide (a < 0)
def pickV (a : Int) : List Int := if isV a then [a] else []
def pickP (a : Int) : List Int := if isP a then [-1 - a] else []
def varsL (l : List Pr) : List Int := ordL ltI ((atomsL l).flatMap pickV)
def pointsL (l : List Pr) : List Int := ordL ltI ((atomsL l).flatMap pickP)
def mapL (f : Int → Int) (l : List Pr) : List Pr := l.map fun p => (f p.1, f p.2)
/-- the greater of both -/
def maxI (a b : Int) : Int := if a < b then b else a
/-- a sum, as 64 bits hold it -/
def addW (a b : Int) : Int := Go.IntKind.i64.wrap (a + b)
def shiftT (by_ a : Int) : Int := if a < 0 then a else maxI (addW a by_) 0
/-- an atom's first place -/
def renT : List (Int × Int) → Int → Int
  | [], a => a
  | (x, y) :: r, a => if a = x then y else renT r a
/-- .. of two lists: beyond the shorter one nothing stands -/
def renL (ft tt : List Int) (a : Int) : Int := renT (ft.zip tt) a
theorem atoms_snoc (l : List Pr) (p : Pr) : atomsL (l ++ [p]) = atomsL l ++ [p.1, p.2] := by simp [atomsL]
theorem atoms_len : ∀ l : List Pr, (atomsL l).length = 2 * l.length
  | [] => rfl
  | p :: r => by
    have h := atoms_len r
    show (p.1 :: p.2 :: atomsL r).length = _
    simp only [List.length_cons, h]
    omega
theorem pick_len {f : Int → List Int} (hf : ∀ a, (f a).length ≤ 1) : ∀ l : List Int, (l.flatMap f).length ≤ l.length
  | [] => by simp
  | a :: r => by
    have h1 := pick_len hf r
    have h2 := hf a
    rw [List.flatMap_cons, List.length_append, List.length_cons]
    omega
theorem pickV_len (a : Int) : (pickV a).length ≤ 1 := by unfold pickV; split <;> simp
theorem pickP_len (a : Int) : (pickP a).length ≤ 1 := by unfold pickP; split <;> simp
theorem take_snoc {α : Type} (l : List α) (d : α) (k : Nat) (hk : k < l.length) : l.take (k + 1) = l.take k ++ [l.getD k d] := by
  rw [List.take_succ_eq_append_getElem hk, List.getD_eq_getElem?_getD, List.getElem?_eq_getElem hk]; rfl
theorem atoms_mem (l : List Pr) (z : Int) : z ∈ atomsL l ↔ ∃ p, p ∈ l ∧ (z = p.1 ∨ z = p.2) := by
  simp [atomsL, List.mem_flatMap]
end Go.At
