/-
  How variables rise to the lowest points that they can be at, as plain mathematics: rows of bits, a list of those that wait. No condition.
-/
import Derived.Lib.SlKept
namespace Go.Sv

/-- what one set has the other one has -/
def Sub (x y : Nat) : Prop := ∀ c, x.testBit c = true → y.testBit c = true
theorem Sub.refl (x : Nat) : Sub x x := fun _ h => h
theorem Sub.trans {x y z : Nat} (h : Sub x y) (k : Sub y z) : Sub x z := fun c hc => k c (h c hc)
theorem sub_and_left (x y : Nat) : Sub (x &&& y) x := fun c hc => by
  rw [Nat.testBit_and, Bool.and_eq_true] at hc
  exact hc.1
theorem sub_and_right (x y : Nat) : Sub (x &&& y) y := fun c hc => by
  rw [Nat.testBit_and, Bool.and_eq_true] at hc
  exact hc.2
theorem sub_of_and {x y : Nat} (h : x &&& y = x) : Sub x y := fun c hc => by
  rw [← h] at hc
  exact sub_and_right x y c hc

/-- one value put in -/
def upd {α : Type} (f : Nat → α) (k : Nat) (v : α) : Nat → α := fun i => if i = k then v else f i
theorem upd_same {α : Type} (f : Nat → α) (k : Nat) (v : α) : upd f k v k = v := if_pos rfl
theorem upd_other {α : Type} (f : Nat → α) {k i : Nat} (v : α) (h : i ≠ k) : upd f k v i = f i := if_neg h

/-- rows of points: a lattice's -/
structure Rows (m : Nat) (row : Nat → Nat) (J : Nat → Nat → Nat) : Prop where
  refl : ∀ a, a < m → (row a).testBit a = true
  trans : ∀ a b c, (row a).testBit b = true → (row b).testBit c = true → (row a).testBit c = true
  anti : ∀ a b, (row a).testBit b = true → (row b).testBit a = true → a = b
  inn : ∀ a b, (row a).testBit b = true → a < m ∧ b < m
  join : ∀ a b, a < m → b < m → J a b < m ∧ row (J a b) = row a &&& row b

/-- where the variables are -/
structure St where
  R : Nat → Nat
  O : Nat → List Nat
  S : Nat → Nat
  T : List Nat
  G : Nat → Bool

section
variable {m : Nat} {row : Nat → Nat} {J : Nat → Nat → Nat} {n : Nat} {E P : Nat → Nat → Prop}

/-- points for the variables at which all holds -/
def Ans (m : Nat) (row : Nat → Nat) (n : Nat) (E P : Nat → Nat → Prop) (val : Nat → Nat) : Prop :=
  (∀ i, i < n → val i < m) ∧ (∀ a b, E a b → (row (val a)).testBit (val b) = true) ∧ (∀ q b, P q b → (row q).testBit (val b) = true)

structure Inv (m : Nat) (row : Nat → Nat) (n : Nat) (E P : Nat → Nat → Prop) (s : St) : Prop where
  pt : ∀ i, i < n → ∃ x, x < m ∧ s.R i = row x
  low : ∀ val, Ans m row n E P val → ∀ i, i < n → (s.R i).testBit (val i) = true
  onE : ∀ a, a < n → ∀ b, b ∈ s.O a → b < n ∧ E a b
  le : ∀ a, a < n → s.S a ≤ (s.O a).length
  seen : ∀ a, a < n → ∀ j, j < s.S a → Sub (s.R ((s.O a).getD j 0)) (s.R a)
  wait : ∀ a, a < n → (s.G a = true ↔ a ∈ s.T)
  nodup : s.T.Nodup
  tlt : ∀ a, a ∈ s.T → a < n
  idle : ∀ a, a < n → a ∉ s.T → ∀ b, b ∈ s.O a → Sub (s.R b) (s.R a)

/-- a variable let be above a point, too -/
def rise (s : St) (v r : Nat) : Bool := !(s.R v &&& r == s.R v)
def raised (s : St) (v r : Nat) : St := { s with R := upd s.R v (s.R v &&& r), S := upd s.S v 0, T := if s.G v then s.T else s.T ++ [v], G := upd s.G v true }
def after (s : St) (v r : Nat) : St := if rise s v r then raised s v r else s

theorem rise_no {s : St} {v r : Nat} (h : rise s v r = false) : s.R v &&& r = s.R v := by
  unfold rise at h
  simpa using h
theorem rise_yes {s : St} {v r : Nat} (h : rise s v r = true) : s.R v &&& r ≠ s.R v := by
  unfold rise at h
  simpa using h
theorem after_R (s : St) (v r i : Nat) : Sub ((after s v r).R i) (s.R i) := by
  unfold after
  split
  · show Sub (upd s.R v _ i) _
    by_cases h : i = v
    · subst h; rw [upd_same]; exact sub_and_left _ _
    · rw [upd_other _ _ h]; exact .refl _
  · exact .refl _
theorem after_sub (s : St) (v r : Nat) : Sub ((after s v r).R v) r := by
  unfold after
  split
  · show Sub (upd s.R v _ v) _
    rw [upd_same]; exact sub_and_right _ _
  · rename_i h
    exact sub_of_and (rise_no (by simpa using h))
theorem after_O (s : St) (v r : Nat) : (after s v r).O = s.O := by unfold after; split <;> rfl
theorem mem_T {s : St} {v r : Nat} (hv : s.G v = true ↔ v ∈ s.T) (a : Nat) : a ∈ (raised s v r).T ↔ a ∈ s.T ∨ a = v := by
  show a ∈ (if s.G v then s.T else s.T ++ [v]) ↔ _
  split
  · rename_i h
    constructor
    · exact .inl
    · rintro (h1 | rfl)
      · exact h1
      · exact hv.1 h
  · simp
theorem raised_inv (hR : Rows m row J) {s : St} (h : Inv m row n E P s) {v x : Nat} (hv : v < n) (hx : x < m) (hlow : ∀ val, Ans m row n E P val → (row x).testBit (val v) = true) (_hr : rise s v (row x) = true) : Inv m row n E P (raised s v (row x)) := by
  have hT := fun a => mem_T (r := row x) (h.wait v hv) a
  refine ⟨fun i hi => ?_, fun val hval i hi => ?_, h.onE, fun a ha => ?_, fun a ha j hj => ?_, fun a ha => ?_, ?_, fun a ha => ?_, fun a ha hn b hb => ?_⟩
  · show ∃ y, y < m ∧ upd s.R v _ i = row y
    by_cases e : i = v
    · subst e
      rw [upd_same]
      obtain ⟨y, hy, e⟩ := h.pt i hi
      obtain ⟨h1, h2⟩ := hR.join y x hy hx
      exact ⟨J y x, h1, by rw [e, h2]⟩
    · rw [upd_other _ _ e]; exact h.pt i hi
  · show (upd s.R v _ i).testBit _ = true
    by_cases e : i = v
    · subst e
      rw [upd_same, Nat.testBit_and, h.low val hval i hi, hlow val hval]; rfl
    · rw [upd_other _ _ e]; exact h.low val hval i hi
  · show upd s.S v 0 a ≤ _
    by_cases e : a = v
    · subst e; rw [upd_same]; exact Nat.zero_le _
    · rw [upd_other _ _ e]; exact h.le a ha
  · have hj' : j < upd s.S v 0 a := hj
    by_cases e : a = v
    · subst e; rw [upd_same] at hj'; exact absurd hj' (Nat.not_lt_zero _)
    · rw [upd_other _ _ e] at hj'
      show Sub (upd s.R v _ ((s.O a).getD j 0)) (upd s.R v _ a)
      rw [upd_other _ _ e]
      refine Sub.trans ?_ (h.seen a ha j hj')
      by_cases e2 : (s.O a).getD j 0 = v
      · rw [e2, upd_same]; exact sub_and_left _ _
      · rw [upd_other _ _ e2]; exact .refl _
  · show upd s.G v true a = true ↔ _
    rw [hT a]
    by_cases e : a = v
    · subst e; rw [upd_same]; simp
    · rw [upd_other _ _ e, h.wait a ha]; simp [e]
  · show (if s.G v then s.T else s.T ++ [v]).Nodup
    split
    · exact h.nodup
    · rename_i hg
      rw [List.nodup_append]
      refine ⟨h.nodup, by simp, fun a ha b hb => ?_⟩
      rw [List.mem_singleton] at hb
      subst hb
      rintro rfl
      exact hg ((h.wait a hv).2 ha)
  · rcases (hT a).1 ha with h1 | h1
    · exact h.tlt a h1
    · rw [h1]; exact hv
  · have h1 : ¬ (a ∈ s.T ∨ a = v) := fun c => hn ((hT a).2 c)
    have e : a ≠ v := fun c => h1 (.inr c)
    have h2 := h.idle a ha (fun c => h1 (.inl c)) b hb
    show Sub (upd s.R v _ b) (upd s.R v _ a)
    rw [upd_other _ _ e]
    by_cases e2 : b = v
    · subst e2; rw [upd_same]; exact (sub_and_left _ _).trans h2
    · rw [upd_other _ _ e2]; exact h2
theorem after_inv (hR : Rows m row J) {s : St} (h : Inv m row n E P s) {v x : Nat} (hv : v < n) (hx : x < m) (hlow : ∀ val, Ans m row n E P val → (row x).testBit (val v) = true) : Inv m row n E P (after s v (row x)) := by
  unfold after
  split
  · rename_i hr
    exact raised_inv hR h hv hx hlow hr
  · exact h

/-! ### while it is laid out -/
/-- nothing looked at yet; what does not wait is at the bottom -/
def Fresh (m n : Nat) (s : St) : Prop := ∀ a, a < n → s.S a = 0 ∧ (a ∉ s.T → ∀ c, c < m → (s.R a).testBit c = true)
theorem after_fresh {s : St} {v r : Nat} (hw : s.G v = true ↔ v ∈ s.T) (h : Fresh m n s) : Fresh m n (after s v r) := by
  unfold after
  split
  · intro a ha
    have hT := mem_T (r := r) hw a
    refine ⟨?_, fun hn c hc => ?_⟩
    · show upd s.S v 0 a = 0
      by_cases e : a = v
      · subst e; rw [upd_same]
      · rw [upd_other _ _ e]; exact (h a ha).1
    · have h1 : ¬ (a ∈ s.T ∨ a = v) := fun c => hn (hT.2 c)
      show (upd s.R v _ a).testBit c = true
      rw [upd_other _ _ (fun c => h1 (.inr c))]
      exact (h a ha).2 (fun c => h1 (.inl c)) c hc
  · exact h
/-- a way put in -/
def linked (s : St) (a b : Nat) : St := { s with O := upd s.O a (s.O a ++ [b]) }
theorem linked_inv (hR : Rows m row J) {s : St} (h : Inv m row n E P s) (hF : Fresh m n s) {a b : Nat} (hb : b < n) (hE : E a b) : Inv m row n E P (linked s a b) := by
  refine ⟨h.pt, h.low, fun x hx y hy => ?_, fun x hx => ?_, fun x hx j hj => ?_, h.wait, h.nodup, h.tlt, fun x hx hn y hy => ?_⟩
  · have hy' : y ∈ upd s.O a (s.O a ++ [b]) x := hy
    by_cases e : x = a
    · subst e
      rw [upd_same, List.mem_append, List.mem_singleton] at hy'
      rcases hy' with h1 | rfl
      · exact h.onE x hx y h1
      · exact ⟨hb, hE⟩
    · rw [upd_other _ _ e] at hy'; exact h.onE x hx y hy'
  · show s.S x ≤ _
    rw [(hF x hx).1]; exact Nat.zero_le _
  · have : j < s.S x := hj
    rw [(hF x hx).1] at this
    exact absurd this (Nat.not_lt_zero _)
  · have hyn : y < n := by
      have hy' : y ∈ upd s.O a (s.O a ++ [b]) x := hy
      by_cases e : x = a
      · subst e
        rw [upd_same, List.mem_append, List.mem_singleton] at hy'
        rcases hy' with h1 | rfl
        · exact (h.onE x hx y h1).1
        · exact hb
      · rw [upd_other _ _ e] at hy'; exact (h.onE x hx y hy').1
    intro c hc
    obtain ⟨z, hz, e⟩ := h.pt y hyn
    have hc' : (s.R y).testBit c = true := hc
    rw [e] at hc'
    exact (hF x hx).2 hn c (hR.inn _ _ hc').2
/-- the beginning -/
def begun (z : Nat) : St := ⟨fun _ => z, fun _ => [], fun _ => 0, [], fun _ => false⟩
theorem begun_inv {z : Nat} (hz : z < m) (hbot : ∀ c, c < m → (row z).testBit c = true) : Inv m row n E P (begun (row z)) where
  pt := fun _ _ => ⟨z, hz, rfl⟩
  low := fun _ hval i hi => hbot _ (hval.1 i hi)
  onE := fun _ _ _ h => nomatch h
  le := fun _ _ => Nat.zero_le _
  seen := fun _ _ _ h => absurd h (Nat.not_lt_zero _)
  wait := fun _ _ => ⟨(fun h => nomatch h), (fun h => nomatch h)⟩
  nodup := List.nodup_nil
  tlt := fun _ h => nomatch h
  idle := fun _ _ _ _ h => nomatch h
theorem begun_fresh {z : Nat} (hbot : ∀ c, c < m → (row z).testBit c = true) : Fresh m n (begun (row z)) := fun _ _ => ⟨rfl, fun _ c hc => hbot c hc⟩

/-! ### while it settles -/
/-- the next one over a is looked at -/
def looked (s : St) (a : Nat) : St := { s with S := upd s.S a (s.S a + 1) }
def stepped (s : St) (a : Nat) : St := after (looked s a) ((s.O a).getD (s.S a) 0) (s.R a)
theorem getD_mem {l : List Nat} {j : Nat} (h : j < l.length) : l.getD j 0 ∈ l := by
  rw [List.getD_eq_getElem?_getD, List.getElem?_eq_getElem h]
  exact List.getElem_mem _
theorem step_inv (hR : Rows m row J) {s : St} (h : Inv m row n E P s) {a : Nat} (ha : a < n) (hs : s.S a < (s.O a).length) : Inv m row n E P (stepped s a) := by
  have hb := h.onE a ha _ (getD_mem hs)
  obtain ⟨x, hx, ex⟩ := h.pt a ha
  unfold stepped
  generalize hbE : (s.O a).getD (s.S a) 0 = b at hb ⊢
  have hlow : ∀ val, Ans m row n E P val → (row x).testBit (val b) = true := fun val hval => by
    have h1 := h.low val hval a ha
    rw [ex] at h1
    exact hR.trans _ _ _ h1 (hval.2.1 a b hb.2)
  -- what is looked at is right but for the one place
  have hle : ∀ c, c < n → upd s.S a (s.S a + 1) c ≤ (s.O c).length := fun c hc => by
    by_cases e : c = a
    · subst e; rw [upd_same]; omega
    · rw [upd_other _ _ e]; exact h.le c hc
  cases hr : rise (looked s a) b (s.R a) with
  | false =>
    unfold after
    rw [hr, if_neg (by simp)]
    have hsub : Sub (s.R b) (s.R a) := sub_of_and (rise_no (s := looked s a) hr)
    refine ⟨h.pt, h.low, h.onE, hle, fun c hc j hj => ?_, h.wait, h.nodup, h.tlt, h.idle⟩
    have hj' : j < upd s.S a (s.S a + 1) c := hj
    by_cases e : c = a
    · subst e
      rw [upd_same] at hj'
      rcases Nat.lt_or_ge j (s.S c) with h1 | h1
      · exact h.seen c hc j h1
      · obtain rfl : j = s.S c := by omega
        show Sub (s.R ((s.O c).getD (s.S c) 0)) (s.R c)
        rw [hbE]; exact hsub
    · rw [upd_other _ _ e] at hj'; exact h.seen c hc j hj'
  | true =>
    unfold after
    rw [hr, if_pos rfl]
    have hne : b ≠ a := by
      rintro rfl
      have := rise_yes (s := looked s b) hr
      exact this (Nat.and_self _)
    have hT := fun c => mem_T (s := looked s a) (r := s.R a) (h.wait b hb.1) c
    refine ⟨fun i hi => ?_, fun val hval i hi => ?_, h.onE, fun c hc => ?_, fun c hc j hj => ?_, fun c hc => ?_, ?_, fun c hc => ?_, fun c hc hn d hd => ?_⟩
    · show ∃ y, y < m ∧ upd s.R b _ i = row y
      by_cases e : i = b
      · subst e
        rw [upd_same]
        obtain ⟨y, hy, e⟩ := h.pt i hi
        obtain ⟨h1, h2⟩ := hR.join y x hy hx
        refine ⟨J y x, h1, ?_⟩
        show s.R i &&& s.R a = _
        rw [e, ex, h2]
      · rw [upd_other _ _ e]; exact h.pt i hi
    · show (upd s.R b _ i).testBit _ = true
      by_cases e : i = b
      · subst e
        rw [upd_same]
        show (s.R i &&& s.R a).testBit _ = true
        rw [Nat.testBit_and, h.low val hval i hi, ex, hlow val hval]; rfl
      · rw [upd_other _ _ e]; exact h.low val hval i hi
    · show upd (upd s.S a (s.S a + 1)) b 0 c ≤ _
      by_cases e : c = b
      · subst e; rw [upd_same]; exact Nat.zero_le _
      · rw [upd_other _ _ e]; exact hle c hc
    · have hj' : j < upd (upd s.S a (s.S a + 1)) b 0 c := hj
      show Sub (upd s.R b _ _) (upd s.R b _ c)
      by_cases e : c = b
      · subst e; rw [upd_same] at hj'; exact absurd hj' (Nat.not_lt_zero _)
      · rw [upd_other _ _ e] at hj'
        rw [upd_other _ _ e]
        have hold : Sub (upd s.R b ((looked s a).R b &&& s.R a) ((s.O c).getD j 0)) (s.R ((s.O c).getD j 0)) := by
          by_cases e2 : (s.O c).getD j 0 = b
          · rw [e2, upd_same]; exact sub_and_left _ _
          · rw [upd_other _ _ e2]; exact .refl _
        by_cases e3 : c = a
        · subst e3
          rw [upd_same] at hj'
          rcases Nat.lt_or_ge j (s.S c) with h1 | h1
          · exact hold.trans (h.seen c hc j h1)
          · obtain rfl : j = s.S c := by omega
            show Sub (upd s.R b _ ((s.O c).getD (s.S c) 0)) _
            rw [hbE, upd_same]; exact sub_and_right _ _
        · rw [upd_other _ _ e3] at hj'
          exact hold.trans (h.seen c hc j hj')
    · show upd s.G b true c = true ↔ _
      rw [hT c]
      by_cases e : c = b
      · subst e; rw [upd_same]; simp
      · rw [upd_other _ _ e, h.wait c hc]
        show _ ↔ c ∈ s.T ∨ _
        simp [e]
    · show (if s.G b then s.T else s.T ++ [b]).Nodup
      split
      · exact h.nodup
      · rename_i hg
        rw [List.nodup_append]
        refine ⟨h.nodup, by simp, fun c hc d hd => ?_⟩
        rw [List.mem_singleton] at hd
        subst hd
        rintro rfl
        exact hg ((h.wait c hb.1).2 hc)
    · rcases (hT c).1 hc with h1 | h1
      · exact h.tlt c h1
      · rw [h1]; exact hb.1
    · have h1 : ¬ (c ∈ s.T ∨ c = b) := fun k => hn ((hT c).2 k)
      have e : c ≠ b := fun k => h1 (.inr k)
      have h2 := h.idle c hc (fun k => h1 (.inl k)) d hd
      show Sub (upd s.R b _ d) (upd s.R b _ c)
      rw [upd_other _ _ e]
      by_cases e2 : d = b
      · subst e2; rw [upd_same]; exact (sub_and_left _ _).trans h2
      · rw [upd_other _ _ e2]; exact h2
/-- the last one that waits has been looked through -/
def popped (s : St) (a : Nat) : St := { s with T := s.T.dropLast, G := upd s.G a false }
theorem pop_mem {l : List Nat} {a : Nat} (hd : (l ++ [a]).Nodup) (b : Nat) : b ∈ l ↔ b ∈ l ++ [a] ∧ b ≠ a := by
  rw [List.nodup_append] at hd
  constructor
  · intro h
    exact ⟨List.mem_append_left _ h, hd.2.2 b h a (by simp)⟩
  · rintro ⟨h, h1⟩
    rcases List.mem_append.1 h with h2 | h2
    · exact h2
    · exact absurd (List.mem_singleton.1 h2) h1
theorem pop_inv {s : St} (h : Inv m row n E P s) {a : Nat} {l : List Nat} (hT : s.T = l ++ [a]) (ha : a < n) (hs : (s.O a).length ≤ s.S a) : Inv m row n E P (popped s a) := by
  have hd := h.nodup
  rw [hT] at hd
  have eT : (popped s a).T = l := by show s.T.dropLast = l; rw [hT]; simp
  refine ⟨h.pt, h.low, h.onE, h.le, h.seen, fun b hb => ?_, ?_, fun b hb => ?_, fun b hb hn d hd2 => ?_⟩
  · rw [eT, pop_mem hd b, ← hT]
    show upd s.G a false b = true ↔ _
    by_cases e : b = a
    · subst e; rw [upd_same]; simp
    · rw [upd_other _ _ e, h.wait b hb]; simp [e]
  · rw [eT]; exact (List.nodup_append.1 hd).1
  · rw [eT] at hb
    exact h.tlt b (by rw [hT]; exact List.mem_append_left _ hb)
  · rw [eT, pop_mem hd b, ← hT] at hn
    by_cases e : b = a
    · subst e
      have hd3 : d ∈ s.O b := hd2
      obtain ⟨j, hj, ej⟩ := List.mem_iff_getElem.1 hd3
      have h3 := h.seen b hb j (by omega)
      rw [List.getD_eq_getElem?_getD, List.getElem?_eq_getElem hj] at h3
      simp only [Option.getD_some] at h3
      rw [ej] at h3
      exact h3
    · exact h.idle b hb (fun k => hn ⟨k, e⟩) d hd2

/-! ### the measure -/
def total (f : Nat → Nat) : Nat → Nat
  | 0 => 0
  | k + 1 => total f k + f k
theorem total_upd (f : Nat → Nat) (v x : Nat) : ∀ k, v < k → total (upd f v x) k + f v = total f k + x
  | 0, h => absurd h (Nat.not_lt_zero _)
  | k + 1, h => by
    unfold total
    by_cases e : v = k
    · subst e
      rw [upd_same]
      have : ∀ j, j ≤ v → total (upd f v x) j = total f j := fun j => by
        induction j with
        | zero => intro _; rfl
        | succ j ih =>
          intro hj
          unfold total
          rw [ih (by omega), upd_other _ _ (by omega)]
      rw [this v (Nat.le_refl _)]
      omega
    · rw [upd_other _ _ (Ne.symm e)]
      have := total_upd f v x k (by omega)
      omega
def weight (n : Nat) (s : St) : Nat := total s.R n * 2 + s.T.length
theorem raised_weight {s : St} {v r : Nat} (hv : v < n) (hr : rise s v r = true) : weight n (raised s v r) < weight n s := by
  have h1 := rise_yes hr
  have h2 : s.R v &&& r ≤ s.R v := Nat.and_le_left
  have h3 := total_upd s.R v (s.R v &&& r) n hv
  have h4 : (if s.G v then s.T else s.T ++ [v]).length ≤ s.T.length + 1 := by split <;> simp
  unfold weight
  show total (upd s.R v _) n * 2 + (if s.G v then s.T else s.T ++ [v]).length < _
  omega
theorem popped_weight {s : St} {a : Nat} {l : List Nat} (hT : s.T = l ++ [a]) : weight n (popped s a) < weight n s := by
  unfold weight
  show total s.R n * 2 + s.T.dropLast.length < _
  rw [hT]
  simp
theorem looked_weight (s : St) (a : Nat) : weight n (looked s a) = weight n s := rfl

/-! ### what is reached -/
theorem settled (hR : Rows m row J) {s : St} (h : Inv m row n E P s) (hT : s.T = []) (hE : ∀ a b, E a b → a < n ∧ b ∈ s.O a) (hP : ∀ q b, P q b → b < n ∧ Sub (s.R b) (row q)) :
    ∃ x : Nat → Nat, (∀ i, i < n → s.R i = row (x i)) ∧ Ans m row n E P x ∧ ∀ val, Ans m row n E P val → ∀ i, i < n → (row (x i)).testBit (val i) = true := by
  have hx : ∀ i, ∃ x, i < n → x < m ∧ s.R i = row x := fun i => by
    by_cases hi : i < n
    · obtain ⟨x, h1, h2⟩ := h.pt i hi
      exact ⟨x, fun _ => ⟨h1, h2⟩⟩
    · exact ⟨0, fun k => absurd k hi⟩
  refine ⟨fun i => (hx i).choose, fun i hi => ((hx i).choose_spec hi).2, ⟨fun i hi => ((hx i).choose_spec hi).1, fun a b hab => ?_, fun q b hqb => ?_⟩, fun val hval i hi => ?_⟩
  · obtain ⟨ha, hb⟩ := hE a b hab
    have hbn := (h.onE a ha b hb).1
    have h1 := h.idle a ha (by rw [hT]; simp) b hb
    rw [((hx a).choose_spec ha).2, ((hx b).choose_spec hbn).2] at h1
    exact h1 _ (hR.refl _ ((hx b).choose_spec hbn).1)
  · obtain ⟨hbn, h1⟩ := hP q b hqb
    rw [((hx b).choose_spec hbn).2] at h1
    exact h1 _ (hR.refl _ ((hx b).choose_spec hbn).1)
  · have := h.low val hval i hi
    rwa [((hx i).choose_spec hi).2] at this
end
end Go.Sv
