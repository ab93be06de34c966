/-
  Orders in rows of bits: what a lattice that is right gives of below, joins, meets, bottom and top. Conditions: words of 64 bits.
-/
import Derived.Test.YtlhfdedjboanfaaDoorLtEnds
namespace Go.Proofs.YtlhfdedjboanfaaDoor.L
open Go.Lt

/-- a is below b -/
def le (us : List Nat) (a b : Nat) : Bool := (row us a).testBit b

structure IsOrd (us : List Nat) : Prop where
  refl : ∀ a, a < us.length → le us a a = true
  trans : ∀ a b c, le us a b = true → le us b c = true → le us a c = true
  anti : ∀ a b, le us a b = true → le us b a = true → a = b
  inn : ∀ a b, le us a b = true → a < us.length ∧ b < us.length
  w64 : W64 us
  l64 : us.length ≤ 64

theorem row_none {us : List Nat} {a : Nat} (h : us.length ≤ a) : row us a = 0 := by
  unfold row
  rw [List.getD_eq_getElem?_getD, List.getElem?_eq_none h]
  rfl
theorem le_left {us : List Nat} {a b : Nat} (h : le us a b = true) : a < us.length := by
  rcases Nat.lt_or_ge a us.length with h1 | h1
  · exact h1
  · unfold le at h
    rw [row_none h1] at h
    simp at h

theorem mem_places {u b : Nat} (hu : u < 2 ^ 64) : b ∈ places u ↔ u.testBit b = true := by
  unfold places
  rw [mem_upto]
  exact ⟨fun h => h.2, fun h => ⟨testBit_lt hu h, h⟩⟩

theorem isOrd_of {us : List Nat} (h64 : W64 us) (hl : us.length ≤ 64) (hw : within us = true) (ho : ordered us = true) : IsOrd us := by
  have hin := within_in h64 hl hw
  have hr : ∀ a, a < us.length → le us a a = true ∧ ∀ b, le us a b = true → (∀ c, le us b c = true → le us a c = true) ∧ ¬ (a ≠ b ∧ le us b a = true) := fun a ha => by
    unfold ordered at ho
    rw [List.all_eq_true] at ho
    have h1 := ho a (List.mem_range.2 ha)
    unfold ordRow at h1
    rw [Bool.and_eq_true, List.all_eq_true] at h1
    refine ⟨h1.1, fun b hb => ?_⟩
    have h2 := h1.2 b ((mem_places (h64 a)).2 hb)
    unfold ordPlace at h2
    rw [Bool.and_eq_true] at h2
    refine ⟨fun c hc => (sub_iff (h64 b) (h64 a)).1 h2.1 c hc, fun ⟨h3, h4⟩ => ?_⟩
    have h5 := h2.2
    unfold le at h4
    rw [h4] at h5
    simp at h5
    exact h3 h5
  refine ⟨fun a ha => (hr a ha).1, fun a b c h1 h2 => ((hr a (le_left h1)).2 b h1).1 c h2, fun a b h1 h2 => ?_, fun a b h1 => ⟨le_left h1, ?_⟩, h64, hl⟩
  · exact Decidable.byContradiction fun hne => ((hr a (le_left h1)).2 b h1).2 ⟨hne, h2⟩
  · exact testBit_lt (hin a (le_left h1)) h1

/-- x is the least of a set -/
def IsLeast (us : List Nat) (set x : Nat) : Prop := set.testBit x = true ∧ ∀ b, set.testBit b = true → le us x b = true
theorem least_of {us : List Nat} {set x : Nat} (hO : IsOrd us) (hs : set < 2 ^ 64) (h : IsLeast us set x) : least us set = (x : Int) := by
  have hx : leastP us set x = true := by
    unfold leastP
    exact (sub_iff hs (hO.w64 x)).2 h.2
  unfold least
  cases hf : (places set).find? (leastP us set) with
  | none =>
    rw [List.find?_eq_none] at hf
    exact absurd hx (hf x ((mem_places hs).2 h.1))
  | some a =>
    have h1 := List.find?_some hf
    have h2 := (mem_places hs).1 (List.mem_of_find?_eq_some hf)
    unfold leastP at h1
    have h3 := (sub_iff hs (hO.w64 a)).1 h1 x h.1
    have h4 := h.2 a h2
    rw [hO.anti a x h3 h4]
theorem of_least {us : List Nat} {set : Nat} (hO : IsOrd us) (hs : set < 2 ^ 64) (h : 0 ≤ least us set) : ∃ x, IsLeast us set x ∧ least us set = (x : Int) := by
  unfold least at h ⊢
  cases hf : (places set).find? (leastP us set) with
  | none => rw [hf] at h; exact absurd h (by decide)
  | some a =>
    have h1 := List.find?_some hf
    have h2 := (mem_places hs).1 (List.mem_of_find?_eq_some hf)
    unfold leastP at h1
    exact ⟨a, ⟨h2, (sub_iff hs (hO.w64 a)).1 h1⟩, rfl⟩

/-- j is the join of a and b -/
structure IsJoin (us : List Nat) (a b j : Nat) : Prop where
  left : le us a j = true
  right : le us b j = true
  least : ∀ c, le us a c = true → le us b c = true → le us j c = true
theorem IsJoin.uniq {us : List Nat} {a b j k : Nat} (hO : IsOrd us) (h : IsJoin us a b j) (h2 : IsJoin us a b k) : j = k :=
  hO.anti j k (h.least k h2.left h2.right) (h2.least j h.left h.right)
theorem IsJoin.comm {us : List Nat} {a b j : Nat} (h : IsJoin us a b j) : IsJoin us b a j := ⟨h.right, h.left, fun c h1 h2 => h.least c h2 h1⟩
theorem and_small {us : List Nat} (h64 : W64 us) (a b : Nat) : row us a &&& row us b < 2 ^ 64 := Nat.lt_of_le_of_lt Nat.and_le_left (h64 a)
theorem least_join {us : List Nat} {a b j : Nat} : IsLeast us (row us a &&& row us b) j ↔ IsJoin us a b j := by
  unfold IsLeast
  simp only [Nat.testBit_and, Bool.and_eq_true]
  exact ⟨fun h => ⟨h.1.1, h.1.2, fun c h1 h2 => h.2 c ⟨h1, h2⟩⟩, fun h => ⟨⟨h.left, h.right⟩, fun c hc => h.least c hc.1 hc.2⟩⟩

/-- what the rows of a lattice give -/
structure IsLat (us : List Nat) : Prop where
  ord : IsOrd us
  joins : ∀ a b, a < us.length → b < us.length → ∃ j, IsJoin us a b j
  bottom : ∃ z, ∀ c, c < us.length → le us z c = true
theorem isLat_of {us : List Nat} (h64 : W64 us) (hl : us.length ≤ 64) (hw : within us = true) (ho : ordered us = true) (hc : complete us = true) : IsLat us := by
  have hO := isOrd_of h64 hl hw ho
  unfold complete at hc
  rw [Bool.and_eq_true, List.all_eq_true, decide_eq_true_eq] at hc
  have hlt : ∀ a b, a < us.length → b < a → ∃ j, IsJoin us a b j := fun a b ha hb => by
    have h2 := hc.1 a (List.mem_range.2 ha)
    unfold compRow at h2
    rw [List.all_eq_true] at h2
    have h3 := h2 b (List.mem_range.2 hb)
    unfold compTo at h3
    rw [decide_eq_true_eq] at h3
    obtain ⟨j, h4, _⟩ := of_least hO (and_small h64 a b) h3
    exact ⟨j, least_join.1 h4⟩
  refine ⟨hO, fun a b ha hb => ?_, ?_⟩
  · rcases Nat.lt_trichotomy a b with h2 | h2 | h2
    · obtain ⟨j, hj⟩ := hlt b a hb h2
      exact ⟨j, hj.comm⟩
    · subst h2
      exact ⟨a, hO.refl a ha, hO.refl a ha, fun c h3 _ => h3⟩
    · exact hlt a b ha h2
  · obtain ⟨z, h2, _⟩ := of_least hO (all_lt hl) hc.2
    exact ⟨z, fun c hc => h2.2 c (by rw [all_bit]; simpa using hc)⟩

/-- meets, and a top, of joins, and a bottom -/
theorem IsLat.meets {us : List Nat} (h : IsLat us) (a b : Nat) (ha : a < us.length) (hb : b < us.length) : ∃ m, le us m a = true ∧ le us m b = true ∧ ∀ c, le us c a = true → le us c b = true → le us c m = true := by
  have key : ∀ k, k ≤ us.length → ∃ m, le us m a = true ∧ le us m b = true ∧ ∀ c, c < k → le us c a = true → le us c b = true → le us c m = true := fun k => by
    induction k with
    | zero =>
      intro _
      obtain ⟨z, hz⟩ := h.bottom
      exact ⟨z, hz a ha, hz b hb, fun c hc => absurd hc (by omega)⟩
    | succ k ih =>
      intro hk
      obtain ⟨m, h1, h2, h3⟩ := ih (by omega)
      by_cases hc : le us k a = true ∧ le us k b = true
      · obtain ⟨j, hj⟩ := h.joins m k (h.ord.inn _ _ h1).1 (by omega)
        refine ⟨j, hj.least a h1 hc.1, hj.least b h2 hc.2, fun c hck h4 h5 => ?_⟩
        rcases Nat.lt_or_ge c k with h6 | h6
        · exact h.ord.trans _ _ _ (h3 c h6 h4 h5) hj.left
        · obtain rfl : c = k := by omega
          exact hj.right
      · refine ⟨m, h1, h2, fun c hck h4 h5 => ?_⟩
        rcases Nat.lt_or_ge c k with h6 | h6
        · exact h3 c h6 h4 h5
        · obtain rfl : c = k := by omega
          exact absurd ⟨h4, h5⟩ hc
  obtain ⟨m, h1, h2, h3⟩ := key us.length (Nat.le_refl _)
  exact ⟨m, h1, h2, fun c h4 h5 => h3 c (h.ord.inn _ _ h4).1 h4 h5⟩
theorem IsLat.top {us : List Nat} (h : IsLat us) (h1 : 1 ≤ us.length) : ∃ t, ∀ c, c < us.length → le us c t = true := by
  have key : ∀ k, k ≤ us.length → ∃ t, t < us.length ∧ ∀ c, c < k → le us c t = true := fun k => by
    induction k with
    | zero => intro _; exact ⟨0, h1, fun c hc => absurd hc (by omega)⟩
    | succ k ih =>
      intro hk
      obtain ⟨t, h2, h3⟩ := ih (by omega)
      obtain ⟨j, hj⟩ := h.joins t k h2 (by omega)
      refine ⟨j, (h.ord.inn _ _ hj.left).2, fun c hc => ?_⟩
      rcases Nat.lt_or_ge c k with h6 | h6
      · exact h.ord.trans _ _ _ (h3 c h6) hj.left
      · obtain rfl : c = k := by omega
        exact hj.right
  obtain ⟨t, _, h2⟩ := key us.length (Nat.le_refl _)
  exact ⟨t, h2⟩

/-- upside down -/
theorem le_turned (us : List Nat) (a b : Nat) (hin : ∀ a b, le us a b = true → a < us.length ∧ b < us.length) : le (turnedL us) a b = le us b a := by
  rcases Nat.lt_or_ge a us.length with h | h
  · show (row (turnedL us) a).testBit b = (row us b).testBit a
    rw [row_turned us a h, down_bit]
    rcases Nat.lt_or_ge b us.length with h2 | h2
    · simp [h2]
    · rw [row_none h2]; simp
  · have h2 : le (turnedL us) a b = false := by
      unfold le
      rw [row_none (by rw [turnedL_length]; exact h)]
      simp
    rw [h2]
    cases h3 : le us b a with
    | false => rfl
    | true => have := (hin b a h3).2; omega
theorem IsLat.turned {us : List Nat} (h : IsLat us) (h1 : 1 ≤ us.length) : IsLat (turnedL us) := by
  have e : ∀ a b, le (turnedL us) a b = le us b a := fun a b => le_turned us a b h.ord.inn
  refine ⟨⟨fun a ha => ?_, fun a b c h1 h2 => ?_, fun a b h1 h2 => ?_, fun a b h1 => ?_, W64.turned us h.ord.l64, ?_⟩, fun a b ha hb => ?_, ?_⟩
  · rw [e]; rw [turnedL_length] at ha; exact h.ord.refl a ha
  · rw [e] at h1 h2 ⊢; exact h.ord.trans _ _ _ h2 h1
  · rw [e] at h1 h2; exact h.ord.anti _ _ h2 h1
  · rw [e] at h1; rw [turnedL_length]; exact (h.ord.inn _ _ h1).symm
  · rw [turnedL_length]; exact h.ord.l64
  · rw [turnedL_length] at ha hb
    obtain ⟨m, h2, h3, h4⟩ := h.meets a b ha hb
    exact ⟨m, by rw [e]; exact h2, by rw [e]; exact h3, fun c h5 h6 => by rw [e] at h5 h6 ⊢; exact h4 c h5 h6⟩
  · obtain ⟨t, ht⟩ := h.top h1
    exact ⟨t, fun c hc => by rw [turnedL_length] at hc; rw [e]; exact ht c hc⟩

/-- what the calls answer over a lattice that is right -/
structure Told (ns : List ByteArray) (us : List Nat) (J M : Nat → Nat → Nat) (z t : Nat) : Prop where
  lat : IsLat us
  eqn : ns.length = us.length
  pos : 1 ≤ us.length
  leq : ∀ a b, a < us.length → b < us.length → leqB ns.length us (a : Int) (b : Int) = le us a b
  join : ∀ a b, a < us.length → b < us.length → joinI ns us (a : Int) (b : Int) = ((J a b : Nat) : Int)
  meet : ∀ a b, a < us.length → b < us.length → meetI ns us (a : Int) (b : Int) = ((M a b : Nat) : Int)
  bottom : bottomI ns us = (z : Int)
  top : topI ns us = (t : Int)
  isJ : ∀ a b, a < us.length → b < us.length → IsJoin us a b (J a b)
  isM : ∀ a b, a < us.length → b < us.length → IsJoin (turnedL us) a b (M a b)
  isZ : ∀ c, c < us.length → le us z c = true
  isT : ∀ c, c < us.length → le us c t = true
open Classical in
theorem told_of {ns : List ByteArray} {us : List Nat} (h64 : W64 us) (hR : rightB ns us = true) : ∃ J M z t, Told ns us J M z t := by
  obtain ⟨q1, q2, q3, q4, q5, q6, q7⟩ := right_parts hR
  have hl : us.length ≤ 64 := by omega
  have h1 : 1 ≤ us.length := by omega
  have hL := isLat_of h64 hl q5 q6 q7
  have hT := hL.turned h1
  obtain ⟨z, hz⟩ := hL.bottom
  obtain ⟨t, ht⟩ := hL.top h1
  have ex : ∀ a b, ∃ j, a < us.length → b < us.length → IsJoin us a b j := fun a b => by
    by_cases h : a < us.length ∧ b < us.length
    · obtain ⟨j, hj⟩ := hL.joins a b h.1 h.2
      exact ⟨j, fun _ _ => hj⟩
    · exact ⟨0, fun h2 h3 => absurd ⟨h2, h3⟩ h⟩
  have em : ∀ a b, ∃ j, a < us.length → b < us.length → IsJoin (turnedL us) a b j := fun a b => by
    by_cases h : a < us.length ∧ b < us.length
    · obtain ⟨j, hj⟩ := hT.joins a b (by rw [turnedL_length]; exact h.1) (by rw [turnedL_length]; exact h.2)
      exact ⟨j, fun _ _ => hj⟩
    · exact ⟨0, fun h2 h3 => absurd ⟨h2, h3⟩ h⟩
  have hP : ∀ a, a < us.length → pointB ns.length us.length (a : Int) = true := fun a ha => by
    unfold pointB
    rw [decide_eq_true_eq]
    omega
  refine ⟨fun a b => (ex a b).choose, fun a b => (em a b).choose, z, t, hL, q3.symm, h1, fun a b ha hb => ?_, fun a b ha hb => ?_, fun a b ha hb => ?_, ?_, ?_, fun a b ha hb => (ex a b).choose_spec ha hb, fun a b ha hb => (em a b).choose_spec ha hb, hz, ht⟩
  · unfold leqB le
    rw [hP a ha, hP b hb]
    simp
  · unfold joinI
    rw [hR, hP a ha, hP b hb, if_pos (by rfl)]
    exact least_of hL.ord (and_small h64 _ _) (least_join.2 ((ex a b).choose_spec ha hb))
  · unfold meetI
    rw [hR, hP a ha, hP b hb, if_pos (by rfl)]
    exact least_of hT.ord (and_small hT.ord.w64 _ _) (least_join.2 ((em a b).choose_spec ha hb))
  · unfold bottomI
    rw [hR, if_pos rfl]
    exact least_of hL.ord (all_lt hl) ⟨by rw [all_bit]; simpa using le_left (hz 0 h1), fun b hb => hz b (by rw [all_bit] at hb; simpa using hb)⟩
  · unfold topI
    rw [hR, if_pos rfl]
    have e : ∀ a b, le (turnedL us) a b = le us b a := fun a b => le_turned us a b hL.ord.inn
    exact least_of hT.ord (all_lt hl) ⟨by rw [all_bit]; simpa using (hL.ord.inn _ _ (ht 0 h1)).2, fun b hb => by rw [e]; exact ht b (by rw [all_bit] at hb; simpa using hb)⟩
end Go.Proofs.YtlhfdedjboanfaaDoor.L
