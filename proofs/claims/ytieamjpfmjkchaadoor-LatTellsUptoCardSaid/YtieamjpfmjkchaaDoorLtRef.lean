/-
  What the reference of the first chapter tells, in the words of the program's own: orders, joins, meets, bounds, texts cut in lines. Conditions: words of 64 bits.
-/
import Derived.Test.YtieamjpfmjkchaaDoorLtBackMath
namespace Go.Proofs.YtieamjpfmjkchaaDoor
open Go.Lt

/-! orders -/
def ordC (us : List Nat) (a b c : Nat) : Bool := !le us b c || le us a c
def ordB (us : List Nat) (a b : Nat) : Bool := !le us a b || (!(a != b && le us b a) && (List.range us.length).all (ordC us a b))
def ordA (us : List Nat) (a : Nat) : Bool := le us a a && (List.range us.length).all (ordB us a)
def ordR (us : List Nat) : Bool := (List.range us.length).all (ordA us)

theorem ordR_eq {us : List Nat} (h64 : W64 us) (hl : us.length ≤ 64) (hw : within us = true) : ordR us = ordered us := by
  have hin := within_in h64 hl hw
  rw [Bool.eq_iff_iff]
  constructor
  · intro h
    unfold ordR at h
    rw [List.all_eq_true] at h
    unfold ordered
    rw [List.all_eq_true]
    intro a ha
    have ha' := List.mem_range.1 ha
    have h1 := h a ha
    unfold ordA at h1
    rw [Bool.and_eq_true, List.all_eq_true] at h1
    have h2 : ∀ b, le us a b = true → b < us.length ∧ ordB us a b = true := fun b hb => by
      have hb' : b < us.length := testBit_lt (hin a ha') hb
      exact ⟨hb', h1.2 b (List.mem_range.2 hb')⟩
    unfold ordRow
    rw [Bool.and_eq_true, List.all_eq_true]
    refine ⟨h1.1, fun b hb => ?_⟩
    have hb := (mem_places (h64 a)).1 hb
    obtain ⟨hb1, hb2⟩ := h2 b hb
    unfold ordB at hb2
    have hle : le us a b = true := hb
    rw [hle, Bool.not_true, Bool.false_or, Bool.and_eq_true, List.all_eq_true] at hb2
    unfold ordPlace
    rw [Bool.and_eq_true]
    refine ⟨(sub_iff (h64 b) (h64 a)).2 fun c hc => ?_, hb2.1⟩
    have h3 := hb2.2 c (List.mem_range.2 (testBit_lt (hin b hb1) hc))
    unfold ordC at h3
    have hbc : le us b c = true := hc
    rw [hbc, Bool.not_true, Bool.false_or] at h3
    exact h3
  · intro h
    have hO := isOrd_of h64 hl hw h
    unfold ordR
    rw [List.all_eq_true]
    intro a ha
    unfold ordA
    rw [Bool.and_eq_true, List.all_eq_true]
    refine ⟨hO.refl a (List.mem_range.1 ha), fun b _ => ?_⟩
    unfold ordB
    cases hab : le us a b with
    | false => rfl
    | true =>
      rw [Bool.not_true, Bool.false_or, Bool.and_eq_true, List.all_eq_true]
      refine ⟨?_, fun c _ => ?_⟩
      · cases hba : le us b a with
        | false => simp
        | true =>
          have := hO.anti a b hab hba
          subst this; simp
      · unfold ordC
        cases hbc : le us b c with
        | false => rfl
        | true => rw [hO.trans a b c hab hbc]; rfl

/-! joins, meets -/
def joinD (us : List Nat) (a b c d : Nat) : Bool := !le us a d || !le us b d || le us c d
def joinP (us : List Nat) (a b c : Nat) : Bool := le us a c && le us b c && (List.range us.length).all (joinD us a b c)
def firstI (n : Nat) (P : Nat → Bool) : Int := match (List.range n).find? P with
  | some c => (c : Int)
  | none => -1
def joinR (us : List Nat) (a b : Nat) : Int := firstI us.length (joinP us a b)
def meetD (us : List Nat) (a b c d : Nat) : Bool := !le us d a || !le us d b || le us d c
def meetP (us : List Nat) (a b c : Nat) : Bool := le us c a && le us c b && (List.range us.length).all (meetD us a b c)
def meetR (us : List Nat) (a b : Nat) : Int := firstI us.length (meetP us a b)

theorem firstI_hit {n : Nat} {P : Nat → Bool} {k : Nat} (hk : k < n) (h0 : ∀ j, j < k → P j = false) (h : P k = true) : firstI n P = (k : Int) := by
  unfold firstI
  have : (List.range n).find? P = some k := by
    rw [List.find?_range_eq_some]
    exact ⟨h, List.mem_range.2 hk, fun j hj => by rw [h0 j hj]; rfl⟩
  rw [this]
theorem firstI_none {n : Nat} {P : Nat → Bool} (h : ∀ j, j < n → P j = false) : firstI n P = -1 := by
  unfold firstI
  have : (List.range n).find? P = none := by
    rw [List.find?_eq_none]
    intro j hj
    rw [h j (List.mem_range.1 hj)]; simp
  rw [this]
theorem firstI_some {n : Nat} {P : Nat → Bool} (h : 0 ≤ firstI n P) : ∃ k : Nat, k < n ∧ P k = true ∧ firstI n P = (k : Int) := by
  unfold firstI at h ⊢
  cases hf : (List.range n).find? P with
  | none => rw [hf] at h; exact absurd h (by decide)
  | some k => exact ⟨k, List.mem_range.1 (List.mem_of_find?_eq_some hf), List.find?_some hf, rfl⟩
theorem firstI_neg {n : Nat} {P : Nat → Bool} (h : ¬ 0 ≤ firstI n P) : firstI n P = -1 := by
  unfold firstI at h ⊢
  cases hf : (List.range n).find? P with
  | none => rfl
  | some k => rw [hf] at h; exact absurd (Int.natCast_nonneg k) h
theorem firstI_lt {n : Nat} {P : Nat → Bool} : firstI n P < n ∧ -1 ≤ firstI n P := by
  by_cases h : 0 ≤ firstI n P
  · obtain ⟨k, hk, _, e⟩ := firstI_some h
    omega
  · have := firstI_neg h
    omega

theorem joinP_iff {us : List Nat} (hO : IsOrd us) {a b c : Nat} : joinP us a b c = true ↔ IsJoin us a b c := by
  unfold joinP
  rw [Bool.and_eq_true, Bool.and_eq_true, List.all_eq_true]
  constructor
  · rintro ⟨⟨h1, h2⟩, h3⟩
    refine ⟨h1, h2, fun d h4 h5 => ?_⟩
    have := h3 d (List.mem_range.2 (hO.inn _ _ h4).2)
    unfold joinD at this
    rw [h4, h5] at this
    simpa using this
  · intro h
    refine ⟨⟨h.left, h.right⟩, fun d _ => ?_⟩
    unfold joinD
    cases h4 : le us a d with
    | false => rfl
    | true =>
      cases h5 : le us b d with
      | false => rfl
      | true => rw [h.least d h4 h5]; rfl
theorem least_neg {us : List Nat} {set : Nat} (h : ¬ 0 ≤ least us set) : least us set = -1 := by
  unfold least at h ⊢
  cases hf : (places set).find? (leastP us set) with
  | none => rfl
  | some a => rw [hf] at h; exact absurd (Int.natCast_nonneg a) h
theorem joinR_eq {us : List Nat} (hO : IsOrd us) (a b : Nat) : joinR us a b = least us (row us a &&& row us b) := by
  by_cases h : 0 ≤ joinR us a b
  · obtain ⟨k, _, hk, e⟩ := firstI_some h
    have := least_of hO (and_small hO.w64 a b) (least_join.2 ((joinP_iff hO).1 hk))
    rw [this]; exact e
  · have e := firstI_neg h
    have : ¬ 0 ≤ least us (row us a &&& row us b) := fun h2 => by
      obtain ⟨x, hx, _⟩ := of_least hO (and_small hO.w64 a b) h2
      have hj := least_join.1 hx
      have hp := (joinP_iff hO).2 hj
      unfold firstI at e
      cases hf : (List.range us.length).find? (joinP us a b) with
      | none =>
        rw [List.find?_eq_none] at hf
        exact hf x (List.mem_range.2 (hO.inn _ _ hj.left).2) hp
      | some k => rw [hf] at e; simp only at e; omega
    rw [least_neg this]; exact e
theorem meetR_eq {us : List Nat} (hO : IsOrd us) (a b : Nat) : meetR us a b = joinR (turnedL us) a b := by
  have e : ∀ x y, le (turnedL us) x y = le us y x := fun x y => le_turned us x y hO.inn
  unfold meetR joinR
  rw [turnedL_length]
  congr 1
  funext c
  unfold meetP joinP
  rw [e, e, turnedL_length]
  congr 2
  funext d
  unfold meetD joinD
  rw [e, e, e]
theorem IsOrd.turned {us : List Nat} (h : IsOrd us) : IsOrd (turnedL us) := by
  have e : ∀ a b, le (turnedL us) a b = le us b a := fun a b => le_turned us a b h.inn
  refine ⟨fun a ha => ?_, fun a b c h1 h2 => ?_, fun a b h1 h2 => ?_, fun a b h1 => ?_, W64.turned us h.l64, ?_⟩
  · rw [e]; rw [turnedL_length] at ha; exact h.refl a ha
  · rw [e] at h1 h2 ⊢; exact h.trans _ _ _ h2 h1
  · rw [e] at h1 h2; exact h.anti _ _ h2 h1
  · rw [e] at h1; rw [turnedL_length]; exact (h.inn _ _ h1).symm
  · rw [turnedL_length]; exact h.l64

def boundB (us : List Nat) (a b : Nat) : Bool := decide (0 ≤ joinR us a b) && decide (0 ≤ meetR us a b)
def boundA (us : List Nat) (a : Nat) : Bool := (List.range us.length).all (boundB us a)
def boundR (us : List Nat) : Bool := (List.range us.length).all (boundA us)
theorem boundR_iff {us : List Nat} : boundR us = true ↔ ∀ a, a < us.length → ∀ b, b < us.length → 0 ≤ joinR us a b ∧ 0 ≤ meetR us a b := by
  unfold boundR boundA boundB
  simp only [List.all_eq_true, List.mem_range, Bool.and_eq_true, decide_eq_true_eq]

theorem boundR_eq {us : List Nat} (h64 : W64 us) (hl : us.length ≤ 64) (hw : within us = true) (ho : ordered us = true) (h1 : 1 ≤ us.length) : boundR us = complete us := by
  have hO := isOrd_of h64 hl hw ho
  rw [Bool.eq_iff_iff, boundR_iff]
  constructor
  · intro h
    have hm : ∀ a b, a < us.length → b < us.length → ∃ m, le us m a = true ∧ le us m b = true := fun a b ha hb => by
      have h2 := (h a ha b hb).2
      rw [meetR_eq hO] at h2
      obtain ⟨k, _, hk, _⟩ := firstI_some h2
      have hj := (joinP_iff hO.turned).1 hk
      have e1 := hj.left
      have e2 := hj.right
      rw [le_turned us _ _ hO.inn] at e1 e2
      exact ⟨k, e1, e2⟩
    have hbot : ∀ k, k ≤ us.length → ∃ z, z < us.length ∧ ∀ c, c < k → le us z c = true := fun k => by
      induction k with
      | zero => intro _; exact ⟨0, h1, fun c hc => absurd hc (by omega)⟩
      | succ k ih =>
        intro hk
        obtain ⟨z, h2, h3⟩ := ih (by omega)
        obtain ⟨m, h4, h5⟩ := hm z k h2 (by omega)
        refine ⟨m, le_left h4, fun c hc => ?_⟩
        rcases Nat.lt_or_ge c k with h6 | h6
        · exact hO.trans _ _ _ h4 (h3 c h6)
        · obtain rfl : c = k := by omega
          exact h5
    obtain ⟨z, hz, hz2⟩ := hbot us.length (Nat.le_refl _)
    unfold complete
    rw [Bool.and_eq_true, List.all_eq_true, decide_eq_true_eq]
    refine ⟨fun a ha => ?_, ?_⟩
    · have ha := List.mem_range.1 ha
      unfold compRow
      rw [List.all_eq_true]
      intro b hb
      have hb := List.mem_range.1 hb
      unfold compTo
      rw [decide_eq_true_eq, ← joinR_eq hO]
      exact (h a ha b (by omega)).1
    · have := least_of hO (all_lt hl) (x := z) ⟨by rw [all_bit]; simpa using hz, fun b hb => hz2 b (by rw [all_bit] at hb; simpa using hb)⟩
      rw [this]; omega
  · intro h a ha b hb
    have hL := isLat_of h64 hl hw ho h
    have key : ∀ (vs : List Nat), IsLat vs → vs.length = us.length → 0 ≤ joinR vs a b := fun vs hv hvl => by
      obtain ⟨j, hj⟩ := hv.joins a b (by omega) (by omega)
      rw [joinR_eq hv.ord, least_of hv.ord (and_small hv.ord.w64 a b) (least_join.2 hj)]
      omega
    refine ⟨key us hL rfl, ?_⟩
    rw [meetR_eq hO]
    exact key _ (hL.turned h1) (turnedL_length us)

/-! texts cut at a byte -/
def cuts (c : UInt8) (l : List UInt8) : List (List UInt8) := Lib.splitK [c] 0 (l.count c) l
theorem cuts_hit {c : UInt8} {x r : List UInt8} (h : c ∉ x) : cuts c (x ++ c :: r) = x :: cuts c r := by
  unfold cuts
  rw [List.count_append, List.count_eq_zero.2 h, List.count_cons_self, Nat.zero_add]
  exact splitK_hit c _ x r h
theorem cuts_none {c : UInt8} {x : List UInt8} (h : c ∉ x) : cuts c x = [x] := by
  unfold cuts
  rw [List.count_eq_zero.2 h]
  rfl
theorem cuts_join (c : UInt8) (l : List UInt8) : Lib.join (cuts c l) [c] = l := join_split c _ l rfl
theorem join_cuts (c : UInt8) (x : List UInt8) (r : List (List UInt8)) (h : ∀ y ∈ x :: r, c ∉ y) : cuts c (Lib.join (x :: r) [c]) = x :: r := by
  obtain ⟨h1, h2⟩ := split_join c x r h
  unfold cuts
  rw [h2, h1]
theorem pnames_cuts (s : ByteArray) : (pnames s).map (·.data.toList) = cuts 32 (headB s).data.toList := by
  unfold pnames cuts
  rw [Lib.splitB_data]
  have : spaces s = (headB s).data.toList.count 32 := by
    unfold spaces
    have : Lib.countB (headB s) sp = Lib.count (headB s).data.toList [32] := rfl
    rw [this, Lib.count_one]
  rw [this]
  rfl
/-- a text's lines: the head, and the rest's -/
theorem lines_of (s : ByteArray) : (∃ L, cuts 10 s.data.toList = (headB s).data.toList :: L ∧ ((L = [] ∧ restB s = ⟨#[]⟩) ∨ L = cuts 10 (restB s).data.toList)) := by
  by_cases hm : (10 : UInt8) ∈ s.data.toList
  · obtain ⟨x, r, e, hx⟩ := List.eq_append_cons_of_mem hm
    obtain ⟨e1, e2⟩ := head_of e hx
    refine ⟨cuts 10 r, ?_, .inr ?_⟩
    · rw [e, cuts_hit hx, e1]
    · rw [e2]
  · have e : nl.data.toList = [10] := rfl
    refine ⟨[], ?_, .inl ⟨rfl, ?_⟩⟩
    · rw [cuts_none hm]
      unfold headB
      rw [e, cut_none 10 _ hm]
    · unfold restB
      rw [e, cut_none 10 _ hm]

def bitsL (us : List Nat) (n a : Nat) : List UInt8 := (List.range n).map (bitSign us a)
theorem join_end (c : UInt8) (y : List UInt8) : ∀ xs : List (List UInt8), Lib.join (xs ++ [y]) [c] = (xs.flatMap fun x => x ++ [c]) ++ y
  | [] => by rw [List.nil_append, Lib.join_one]; rfl
  | x :: xs => by
    have ih := join_end c y xs
    cases xs with
    | nil => rw [List.cons_append, List.nil_append, join_two, Lib.join_one]; simp
    | cons z zs =>
      rw [List.cons_append, List.cons_append, join_two, ← List.cons_append, ih]
      simp
theorem body_flat (us : List Nat) (n : Nat) : ∀ k, bodyL us n k = ((List.range k).map (bitsL us n)).flatMap fun x => x ++ [10]
  | 0 => rfl
  | k + 1 => by
    rw [bodyL, body_flat us n k, List.range_succ, List.map_append, List.flatMap_append]
    simp [lineL, bitsL]
theorem body_join (us : List Nat) (n k : Nat) : Lib.join ((List.range k).map (bitsL us n) ++ [[]]) [10] = bodyL us n k := by
  rw [join_end, body_flat, List.append_nil]
theorem bits_no (us : List Nat) (n a : Nat) : (10 : UInt8) ∉ bitsL us n a := fun h => by
  unfold bitsL bitSign at h
  obtain ⟨b, _, e⟩ := List.mem_map.1 h
  split at e <;> cases e
theorem cuts_body (us : List Nat) (n k : Nat) : cuts 10 (bodyL us n k) = (List.range k).map (bitsL us n) ++ [[]] := by
  rw [← body_join]
  have hno : ∀ y ∈ (List.range k).map (bitsL us n) ++ [[]], (10 : UInt8) ∉ y := fun y hy => by
    rcases List.mem_append.1 hy with h | h
    · obtain ⟨a, _, rfl⟩ := List.mem_map.1 h
      exact bits_no us n a
    · obtain rfl := List.mem_singleton.1 h
      simp
  cases hL : (List.range k).map (bitsL us n) ++ [[]] with
  | nil => simp at hL
  | cons x r =>
    rw [hL] at hno
    exact join_cuts 10 x r hno

/-- a line that is right -/
def lnOk (n : Nat) (x : ByteArray) : Bool := x.size == n && lineOk x 0 n
theorem lnOk_bits {n : Nat} {x : ByteArray} (h : lnOk n x = true) (us : List Nat) (a : Nat) (hu : row us a = lineBits x 0 n) : x.data.toList = bitsL us n a := by
  unfold lnOk at h
  rw [Bool.and_eq_true, beq_iff_eq] at h
  unfold lineOk at h
  rw [List.all_eq_true] at h
  have hs : x.data.toList.length = n := by simpa using h.1
  apply List.ext_getElem (by simp [bitsL, hs])
  intro i h1 h2
  have hi : i < n := by omega
  have h3 := h.2 i (List.mem_range.2 hi)
  unfold bitOk byteAt at h3
  rw [Nat.zero_add, List.getD_eq_getElem?_getD, List.getElem?_eq_getElem h1] at h3
  simp only [Option.getD_some] at h3
  have e9 : (bitsL us n a)[i] = bitSign us a i := by
    simp [bitsL]
  rw [e9]
  unfold bitSign
  rw [hu, lineBits_bit]
  unfold byteAt
  rw [Nat.zero_add, List.getD_eq_getElem?_getD, List.getElem?_eq_getElem h1]
  simp only [Option.getD_some, hi, decide_true, Bool.true_and]
  rw [Bool.or_eq_true, beq_iff_eq, beq_iff_eq] at h3
  rcases h3 with h3 | h3 <;> simp [h3]
theorem bits_lnOk {n : Nat} {x : ByteArray} {us : List Nat} {a : Nat} (h : x.data.toList = bitsL us n a) : lnOk n x = true ∧ (row us a < 2 ^ n → lineBits x 0 n = row us a) := by
  have hb : ∀ j, j < n → byteAt x (0 + j) = bitSign us a j := fun j hj => by
    unfold byteAt
    rw [h, Nat.zero_add, List.getD_eq_getElem?_getD]
    unfold bitsL
    rw [List.getElem?_map, List.getElem?_range hj]; rfl
  refine ⟨?_, fun hr => ?_⟩
  · unfold lnOk lineOk
    rw [Bool.and_eq_true, beq_iff_eq, List.all_eq_true]
    refine ⟨?_, fun j hj => ?_⟩
    · have := congrArg List.length h
      simpa [bitsL] using this
    · unfold bitOk
      rw [hb j (List.mem_range.1 hj)]
      unfold bitSign
      cases (row us a).testBit j <;> rfl
  · apply Nat.eq_of_testBit_eq
    intro b
    rw [lineBits_bit]
    rcases Nat.lt_or_ge b n with h1 | h1
    · rw [hb b h1]
      unfold bitSign
      cases (row us a).testBit b <;> simp [h1]
    · rw [Nat.testBit_lt_two_pow (Nat.lt_of_lt_of_le hr (Nat.pow_le_pow_right (by omega) h1))]
      simp; omega

/-- the lines of a text, and what its rest is -/
def linesOk (lines : List ByteArray) (n : Nat) : Bool := lines.length == n + 2 && (Lt.nm lines (n + 1)).size == 0 && (List.range n).all fun a => lnOk n (Lt.nm lines (a + 1))
theorem nm_map {ls : List ByteArray} {L : List (List UInt8)} (h : ls.map (·.data.toList) = L) (j : Nat) : (Lt.nm ls j).data.toList = L.getD j [] := by
  subst h
  unfold Lt.nm
  rw [List.getD_eq_getElem?_getD, List.getD_eq_getElem?_getD, List.getElem?_map]
  cases ls[j]? with
  | none => rfl
  | some x => rfl
theorem lines_rows {s : ByteArray} {ls : List ByteArray} (h : ls.map (·.data.toList) = cuts 10 s.data.toList) :
    Lt.nm ls 0 = headB s ∧ ∀ n, 1 ≤ n → linesOk ls n = rowsOk (restB s) n ∧ (linesOk ls n = true → ∀ a, a < n → lineBits (Lt.nm ls (a + 1)) 0 n = row (rowsL (restB s) n) a) := by
  obtain ⟨L, h1, h2⟩ := lines_of s
  rw [h1] at h
  refine ⟨toList_inj (by rw [nm_map h]; rfl), fun n hn => ?_⟩
  have hlen : ls.length = L.length + 1 := by have := congrArg List.length h; simpa using this
  rcases h2 with ⟨rfl, hr⟩ | h2
  · have e1 : linesOk ls n = false := by
      unfold linesOk
      have : (ls.length == n + 2) = false := by rw [beq_eq_false_iff_ne]; simp at hlen; omega
      rw [this]; rfl
    have e2 : rowsOk (restB s) n = false := by
      unfold rowsOk
      rw [hr]
      have : ((⟨#[]⟩ : ByteArray).size == n * (n + 1)) = false := by
        rw [beq_eq_false_iff_ne]
        show 0 ≠ _
        have := Nat.mul_le_mul hn (Nat.le_add_left 1 n)
        omega
      rw [this]; rfl
    rw [e1, e2]
    exact ⟨rfl, fun h => by cases h⟩
  · generalize restB s = t at h2 ⊢
    have hat : ∀ j, (Lt.nm ls (j + 1)).data.toList = L.getD j [] := fun j => by
      rw [nm_map h]; rfl
    by_cases hR : rowsOk t n = true
    · have hb := written_read hR
      rw [h2, ← hb, cuts_body] at hat hlen
      have hl2 : ∀ a, a < n → (Lt.nm ls (a + 1)).data.toList = bitsL (rowsL t n) n a := fun a ha => by
        rw [hat, List.getD_eq_getElem?_getD, List.getElem?_append_left (by simpa using ha), List.getElem?_map, List.getElem?_range ha]; rfl
      have e1 : linesOk ls n = true := by
        unfold linesOk
        rw [Bool.and_eq_true, Bool.and_eq_true, beq_iff_eq, beq_iff_eq, List.all_eq_true]
        refine ⟨⟨by simp at hlen; omega, ?_⟩, fun a ha => (bits_lnOk (hl2 a (List.mem_range.1 ha))).1⟩
        have := hat n
        rw [List.getD_eq_getElem?_getD, List.getElem?_append_right (by simp)] at this
        have := congrArg List.length this
        simpa using this
      rw [e1, hR]
      refine ⟨rfl, fun _ a ha => (bits_lnOk (hl2 a ha)).2 ?_⟩
      rw [row_rowsL _ _ _ ha]
      exact lineBits_lt _ _ _
    · have hR : rowsOk t n = false := by simpa using hR
      rw [hR]
      have e1 : ¬ linesOk ls n = true := fun e => by
        unfold linesOk at e
        rw [Bool.and_eq_true, Bool.and_eq_true, beq_iff_eq, beq_iff_eq, List.all_eq_true] at e
        obtain ⟨⟨e1, e2⟩, e3⟩ := e
        have hLn : L.length = n + 1 := by omega
        have hrow : ∀ a, a < n → row ((List.range n).map fun a => lineBits (Lt.nm ls (a + 1)) 0 n) a = lineBits (Lt.nm ls (a + 1)) 0 n := fun a ha => by
          unfold row
          rw [List.getD_eq_getElem?_getD, List.getElem?_map, List.getElem?_range ha]; rfl
        have hL : L = (List.range n).map (bitsL ((List.range n).map fun a => lineBits (Lt.nm ls (a + 1)) 0 n) n) ++ [[]] := by
          apply List.ext_getElem (by simp [hLn])
          intro i g1 g2
          have gi : L[i] = L.getD i [] := by rw [List.getD_eq_getElem?_getD, List.getElem?_eq_getElem g1]; rfl
          rw [gi, ← hat]
          rcases Nat.lt_or_ge i n with g3 | g3
          · rw [List.getElem_append_left (by simpa using g3), List.getElem_map, List.getElem_range]
            exact lnOk_bits (e3 i (List.mem_range.2 g3)) _ i (hrow i g3)
          · obtain rfl : i = n := by omega
            rw [List.getElem_append_right (by simp)]
            simp only [List.length_map, List.length_range, Nat.sub_self, List.getElem_cons_zero]
            apply List.eq_nil_of_length_eq_zero
            simpa using e2
        have hb : t.data.toList = bodyL ((List.range n).map fun a => lineBits (Lt.nm ls (a + 1)) 0 n) n n := by
          rw [← body_join, ← hL, h2, cuts_join]
        have := (read_written (by simp) (fun a ha => by rw [hrow a ha]; exact lineBits_lt _ _ _) hb).1
        rw [hR] at this
        cases this
      rw [Bool.not_eq_true] at e1
      rw [e1]
      exact ⟨rfl, fun h => by cases h⟩
end Go.Proofs.YtieamjpfmjkchaaDoor
