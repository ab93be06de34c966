/-
  What the words of a text are: the runs, the tokens, and what follows of them. No condition; no program.
-/
import Derived.Lib.ItoaNum
import Derived.Lib.ParseIntB
import Derived.Lib.Strings
import Derived.Lib.Join
namespace Go.Lx

def isLetter (c : UInt8) : Bool := decide (97 ≤ c.toNat ∧ c.toNat ≤ 122 ∨ 65 ≤ c.toNat ∧ c.toNat ≤ 90)
def isDigit (c : UInt8) : Bool := decide (48 ≤ c.toNat ∧ c.toNat ≤ 57)
def isAlnum (c : UInt8) : Bool := isLetter c || isDigit c
def inLine (c : UInt8) : Bool := decide (c.toNat ≠ 10)
/-- how many bytes from the beginning on are all in f -/
def runL (f : UInt8 → Bool) : List UInt8 → Nat
  | [] => 0
  | c :: r => if f c then runL f r + 1 else 0
def marks1 : List UInt8 := [40, 41, 59, 33, 43, 45, 42, 60, 46]
def hasP (s p : List UInt8) : Bool := Lib.hasPrefix s p
/-- what the first byte begins, and how long that is -/
def headRun : List UInt8 → Int × Nat
  | [] => (-1, 1)
  | c :: r =>
    if c = 35 then (0, runL inLine (c :: r))
    else if c = 32 ∨ c = 10 then (0, 1)
    else if c = 58 ∨ c = 61 then (4, if hasP (c :: r) [58, 61] || hasP (c :: r) [61, 62] then 2 else 1)
    else if c ∈ marks1 then (4, 1)
    else if isLetter c then (1, runL isAlnum (c :: r))
    else if isDigit c then (2, runL isDigit (c :: r))
    else (-1, 1)
theorem headRun_cons (c : UInt8) (r : List UInt8) : headRun (c :: r) = if c = 35 then (0, runL inLine (c :: r))
    else if c = 32 ∨ c = 10 then (0, 1)
    else if c = 58 ∨ c = 61 then (4, if hasP (c :: r) [58, 61] || hasP (c :: r) [61, 62] then 2 else 1)
    else if c ∈ marks1 then (4, 1)
    else if isLetter c then (1, runL isAlnum (c :: r))
    else if isDigit c then (2, runL isDigit (c :: r))
    else (-1, 1) := rfl
def keys : List (List UInt8) := [[102, 117, 110], [108, 101, 116], [105, 110], [105, 102], [116, 104, 101, 110], [101, 108, 115, 101], [119, 104, 105, 108, 101], [100, 111], [114, 97, 105, 115, 101], [116, 114, 121], [119, 105, 116, 104], [105, 110, 112, 117, 116], [99, 101, 108, 108], [100, 101, 102]]
def isKey (t : List UInt8) : Bool := keys.any (fun k => k == t)
def nameL : List UInt8 → Bool
  | [] => false
  | c :: r => decide ((c :: r).length ≤ 16) && isLetter c && (c :: r).all isAlnum
structure Tok where
  kind : Int
  text : List UInt8
  num : Int
deriving DecidableEq
def numL (t : List UInt8) : Option Tok :=
  match Lib.parseIntB 32 t with
  | .ok v => if Lib.itoa v = t then some ⟨2, t, v⟩ else none
  | _ => none
def tokL (k : Int) (t : List UInt8) : Option Tok :=
  if k = 1 ∧ isKey t = true then some ⟨3, t, 0⟩
  else if k = 1 ∧ nameL t = true ∨ k = 4 then some ⟨k, t, 0⟩
  else if k = 2 then numL t else none
def rightT (t : Tok) : Bool := !t.text.isEmpty && decide ((headRun t.text).2 = t.text.length) && decide (tokL (headRun t.text).1 t.text = some t)
def rightL (l : List Tok) : Bool := l.all rightT
def lexF : Nat → List UInt8 → Option (List Tok)
  | 0, s => if s = [] then some [] else none
  | f + 1, s => if s = [] then some [] else
    if (headRun s).1 = 0 then lexF f (s.drop (headRun s).2)
    else match tokL (headRun s).1 (s.take (headRun s).2) with
      | none => none
      | some t => (lexF f (s.drop (headRun s).2)).map (t :: ·)
theorem lexF_succ (f : Nat) (s : List UInt8) : lexF (f + 1) s = if s = [] then some [] else
    if (headRun s).1 = 0 then lexF f (s.drop (headRun s).2)
    else match tokL (headRun s).1 (s.take (headRun s).2) with
      | none => none
      | some t => (lexF f (s.drop (headRun s).2)).map (t :: ·) := rfl
def lexL (s : List UInt8) : Option (List Tok) := lexF s.length s

theorem runL_le (f : UInt8 → Bool) : ∀ s, runL f s ≤ s.length
  | [] => Nat.le_refl _
  | c :: r => by
    have := runL_le f r
    unfold runL
    split <;> simp <;> omega
theorem headRun_pos {s : List UInt8} (h : s ≠ []) : 1 ≤ (headRun s).2 ∧ (headRun s).2 ≤ s.length := by
  cases s with
  | nil => exact absurd rfl h
  | cons c r =>
    have h1 : ∀ f : UInt8 → Bool, f c = true → 1 ≤ runL f (c :: r) := fun f hf => by unfold runL; rw [if_pos hf]; omega
    have h2 : ∀ f, runL f (c :: r) ≤ (c :: r).length := fun f => runL_le f _
    rw [headRun_cons]
    split
    · rename_i hc
      exact ⟨h1 _ (by subst hc; decide), h2 _⟩
    split
    · simp
    split
    · refine ⟨?_, ?_⟩
      · dsimp only; split <;> omega
      · dsimp only
        split
        · rename_i hp
          cases r with
          | nil => simp [hasP, Lib.hasPrefix, List.isPrefixOf] at hp
          | cons d r => simp
        · simp
    split
    · simp
    split
    · rename_i hc
      exact ⟨h1 _ (by unfold isAlnum; rw [hc]; rfl), h2 _⟩
    split
    · rename_i hc
      exact ⟨h1 _ hc, h2 _⟩
    · simp
theorem lexF_nil (f : Nat) : lexF f [] = some [] := by cases f <;> rfl
theorem lexF_enough : ∀ (f g : Nat) (s : List UInt8), s.length ≤ f → s.length ≤ g → lexF f s = lexF g s
  | f, g, [], _, _ => by rw [lexF_nil, lexF_nil]
  | 0, _, c :: r, h, _ => by simp at h
  | _, 0, c :: r, _, h => by simp at h
  | f + 1, g + 1, c :: r, h1, h2 => by
    have hp := headRun_pos (s := c :: r) (by simp)
    have e := lexF_enough f g ((c :: r).drop (headRun (c :: r)).2) (by rw [List.length_drop]; omega) (by rw [List.length_drop]; omega)
    unfold lexF
    rw [e]
theorem lexL_nil : lexL [] = some [] := rfl
theorem lexL_step {s : List UInt8} (h : s ≠ []) : lexL s = if (headRun s).1 = 0 then lexL (s.drop (headRun s).2) else match tokL (headRun s).1 (s.take (headRun s).2) with
      | none => none
      | some t => (lexL (s.drop (headRun s).2)).map (t :: ·) := by
  have hp := headRun_pos h
  cases hs : s.length with
  | zero => exact absurd (List.length_eq_zero_iff.1 hs) h
  | succ n =>
    have e : ∀ u : List UInt8, u.length ≤ n → lexF n u = lexL u := fun u hu => lexF_enough _ _ _ hu (Nat.le_refl _)
    have e2 : lexL s = lexF (n + 1) s := by unfold lexL; rw [hs]
    rw [e2, lexF_succ, if_neg h, e _ (by rw [List.length_drop]; omega)]

/-! What follows behind a run. -/
theorem runL_app {f : UInt8 → Bool} {c : UInt8} (hf : f c = false) (b : List UInt8) : ∀ a, runL f (a ++ c :: b) = runL f a
  | [] => by simp [runL, hf]
  | x :: a => by
    have := runL_app hf b a
    rw [List.cons_append]
    unfold runL
    rw [this]
theorem headRun_app (x : UInt8) (r : List UInt8) (c : UInt8) (b : List UInt8) (hc : c = 10 ∨ ((c = 32 ∨ c = 35) ∧ x ≠ 35)) : headRun (x :: r ++ c :: b) = headRun (x :: r) := by
  have ha : isAlnum c = false := by rcases hc with rfl | ⟨rfl | rfl, _⟩ <;> decide
  have hd : isDigit c = false := by rcases hc with rfl | ⟨rfl | rfl, _⟩ <;> decide
  have h61 : c ≠ 61 := by rcases hc with rfl | ⟨rfl | rfl, _⟩ <;> decide
  have h62 : c ≠ 62 := by rcases hc with rfl | ⟨rfl | rfl, _⟩ <;> decide
  have e1 : x :: (r ++ c :: b) = (x :: r) ++ c :: b := rfl
  have p1 : ∀ u v : UInt8, c ≠ v → hasP (x :: (r ++ c :: b)) [u, v] = hasP (x :: r) [u, v] := fun u v hv => by
    cases r with
    | nil =>
      have : (v == c) = false := by simpa using fun h => hv h.symm
      simp [hasP, Lib.hasPrefix, List.isPrefixOf, this]
    | cons y r => simp [hasP, Lib.hasPrefix, List.isPrefixOf]
  show headRun (x :: (r ++ c :: b)) = _
  rw [headRun_cons, headRun_cons]
  by_cases hx : x = 35
  · rw [if_pos hx, if_pos hx, e1, runL_app]
    rcases hc with rfl | ⟨_, h⟩
    · decide
    · exact absurd hx h
  · rw [if_neg hx, if_neg hx, p1 _ _ h61, p1 _ _ h62, e1, runL_app ha, runL_app hd]
theorem runL_take (f : UInt8 → Bool) : ∀ s, runL f (s.take (runL f s)) = runL f s
  | [] => rfl
  | c :: r => by
    have ih := runL_take f r
    by_cases h : f c = true
    · have : runL f (c :: r) = runL f r + 1 := by rw [runL, if_pos h]
      rw [this, List.take_succ_cons, runL, if_pos h, ih]
    · have : runL f (c :: r) = 0 := by rw [runL, if_neg h]
      rw [this]; rfl
/-- what was headRun, taken alone, is headRun as that -/
theorem headRun_take {s : List UInt8} (h : s ≠ []) (hk : (headRun s).1 ≠ 0) : headRun (s.take (headRun s).2) = headRun s := by
  cases s with
  | nil => exact absurd rfl h
  | cons c r =>
    have hp := headRun_pos h
    obtain ⟨m, hm⟩ : ∃ m, (headRun (c :: r)).2 = m + 1 := ⟨(headRun (c :: r)).2 - 1, by omega⟩
    have ht : ∀ f, (headRun (c :: r)).2 = runL f (c :: r) → runL f (c :: r.take m) = runL f (c :: r) := fun f e => by
      have := runL_take f (c :: r)
      rw [← e, hm, List.take_succ_cons] at this
      rw [this, ← hm, e]
    rw [hm, List.take_succ_cons]
    revert hm ht hk hp
    rw [headRun_cons, headRun_cons]
    by_cases h1 : c = 35
    · rw [if_pos h1]; intro hk; exact absurd rfl hk
    rw [if_neg h1, if_neg h1]
    by_cases h2 : c = 32 ∨ c = 10
    · rw [if_pos h2]; intro hk; exact absurd rfl hk
    rw [if_neg h2, if_neg h2]
    by_cases h3 : c = 58 ∨ c = 61
    · rw [if_pos h3, if_pos h3]
      intro hk hp hm ht
      dsimp only at hm ⊢
      congr 1
      by_cases hp2 : (hasP (c :: r) [58, 61] || hasP (c :: r) [61, 62]) = true
      · rw [if_pos hp2] at hm ⊢
        obtain rfl : m = 1 := by omega
        rw [if_pos]
        cases r with
        | nil => simp [hasP, Lib.hasPrefix, List.isPrefixOf] at hp2
        | cons d r => simpa [hasP, Lib.hasPrefix, List.isPrefixOf] using hp2
      · rw [if_neg hp2] at hm ⊢
        obtain rfl : m = 0 := by omega
        rw [if_neg]
        simp [hasP, Lib.hasPrefix, List.isPrefixOf]
    rw [if_neg h3, if_neg h3]
    by_cases h4 : c ∈ marks1
    · rw [if_pos h4, if_pos h4]; intros; trivial
    rw [if_neg h4, if_neg h4]
    by_cases h5 : isLetter c = true
    · rw [if_pos h5, if_pos h5]
      intro hk hp hm ht
      rw [ht _ rfl]
    rw [if_neg h5, if_neg h5]
    by_cases h6 : isDigit c = true
    · rw [if_pos h6, if_pos h6]
      intro hk hp hm ht
      rw [ht _ rfl]
    · rw [if_neg h6, if_neg h6]; intros; trivial

theorem tokL_text {k : Int} {t : List UInt8} {x : Tok} (h : tokL k t = some x) : x.text = t := by
  unfold tokL at h
  split at h
  · cases h; rfl
  split at h
  · cases h; rfl
  split at h
  · unfold numL at h
    split at h
    · split at h
      · cases h; rfl
      · cases h
    · cases h
  · cases h
theorem tokL_zero (t : List UInt8) : tokL 0 t = none := by unfold tokL; simp
theorem right_parts {t : Tok} (h : rightT t = true) : t.text ≠ [] ∧ (headRun t.text).2 = t.text.length ∧ tokL (headRun t.text).1 t.text = some t := by
  unfold rightT at h
  simp only [Bool.and_eq_true, decide_eq_true_eq, Bool.not_eq_true', List.isEmpty_eq_false_iff] at h
  exact ⟨h.1.1, h.1.2, h.2⟩
theorem right_mk {t : Tok} (h1 : t.text ≠ []) (h2 : (headRun t.text).2 = t.text.length) (h3 : tokL (headRun t.text).1 t.text = some t) : rightT t = true := by
  unfold rightT
  simp only [Bool.and_eq_true, decide_eq_true_eq, Bool.not_eq_true', List.isEmpty_eq_false_iff]
  exact ⟨⟨h1, h2⟩, h3⟩
/-- what is told is right -/
theorem tok_right {s : List UInt8} (h : s ≠ []) {t : Tok} (ht : tokL (headRun s).1 (s.take (headRun s).2) = some t) : rightT t = true := by
  have hk : (headRun s).1 ≠ 0 := fun e => by rw [e, tokL_zero] at ht; cases ht
  have hp := headRun_pos h
  have e := tokL_text ht
  have hb := headRun_take h hk
  refine right_mk ?_ ?_ ?_
  · rw [e]; intro h0; have h9 : (s.take (headRun s).2).length = 0 := by rw [h0]; rfl
    rw [List.length_take] at h9; omega
  · rw [e, hb, List.length_take]; omega
  · rw [e, hb]; exact ht
theorem lexL_right : ∀ (n : Nat) (s : List UInt8), s.length ≤ n → ∀ l, lexL s = some l → rightL l = true
  | _, [], _, l, h => by rw [lexL_nil] at h; cases h; rfl
  | 0, _ :: _, hn, _, _ => by simp at hn
  | n + 1, c :: r, hn, l, h => by
    have hp := headRun_pos (s := c :: r) (by simp)
    have hd : ((c :: r).drop (headRun (c :: r)).2).length ≤ n := by rw [List.length_drop]; omega
    rw [lexL_step (by simp)] at h
    split at h
    · exact lexL_right n _ hd l h
    · split at h
      · cases h
      · rename_i t ht
        cases hl : lexL ((c :: r).drop (headRun (c :: r)).2) with
        | none => rw [hl] at h; cases h
        | some l' =>
          rw [hl] at h
          cases h
          show (rightT t && rightL l') = true
          rw [tok_right (by simp) ht, lexL_right n _ hd l' hl]; rfl
/-- a right token, whatever stands behind a blank, a line's end or a remark's beginning -/
theorem lexL_tok {t : Tok} (h : rightT t = true) (c : UInt8) (hc : c = 10 ∨ c = 32 ∨ c = 35) (b : List UInt8) : lexL (t.text ++ c :: b) = (lexL (c :: b)).map (t :: ·) := by
  obtain ⟨h1, h2, h3⟩ := right_parts h
  cases hx : t.text with
  | nil => exact absurd hx h1
  | cons x r =>
    rw [hx] at h1 h2 h3
    have hk : (headRun (x :: r)).1 ≠ 0 := fun e => by rw [e, tokL_zero] at h3; cases h3
    have hx35 : x ≠ 35 := by
      rintro rfl
      apply hk
      rw [headRun_cons]
      rw [if_pos rfl]
    have hb := headRun_app x r c b (by rcases hc with h | h | h <;> simp [h, hx35])
    rw [lexL_step (by simp), hb, if_neg hk, h2]
    have e1 : (x :: r ++ c :: b).take (x :: r).length = x :: r := List.take_left
    have e2 : (x :: r ++ c :: b).drop (x :: r).length = c :: b := List.drop_left
    rw [e1, e2, h3]
theorem lexL_one {t : Tok} (h : rightT t = true) : lexL t.text = some [t] := by
  obtain ⟨h1, h2, h3⟩ := right_parts h
  have hk : (headRun t.text).1 ≠ 0 := fun e => by rw [e, tokL_zero] at h3; cases h3
  rw [lexL_step h1, if_neg hk, h2, List.take_length, List.drop_length, h3]
  rfl
theorem lexL_blank (c : UInt8) (hc : c = 10 ∨ c = 32) (b : List UInt8) : lexL (c :: b) = lexL b := by
  have e : headRun (c :: b) = (0, 1) := by
    rw [headRun_cons]
    rw [if_neg (by rcases hc with rfl | rfl <;> decide), if_pos (by rcases hc with rfl | rfl <;> decide)]
  rw [lexL_step (by simp), e]
  rfl
/-- what is printed is told again -/
theorem lexL_print : ∀ (l : List Tok), rightL l = true → lexL (Lib.join (l.map (·.text)) [32]) = some l
  | [], _ => rfl
  | [t], h => by
    have : rightT t = true := by unfold rightL at h; simpa using h
    rw [List.map_cons, List.map_nil, Lib.join_one, lexL_one this]
  | t :: u :: l, h => by
    have h1 : rightT t = true ∧ rightL (u :: l) = true := by unfold rightL at h ⊢; simpa using h
    have e : Lib.join ((t :: u :: l).map (·.text)) [32] = t.text ++ 32 :: Lib.join ((u :: l).map (·.text)) [32] := by
      rw [List.map_cons, Lib.join_cons, List.map_cons, Lib.join_cons]
      simp [Lib.joinTail]
    rw [e, lexL_tok h1.1 32 (by simp), lexL_blank 32 (by simp), lexL_print (u :: l) h1.2]
    rfl
/-- two texts with a line's end between -/
theorem lexL_joins : ∀ (n : Nat) (a b : List UInt8), a.length ≤ n → lexL (a ++ 10 :: b) = (lexL a).bind fun x => (lexL b).map (x ++ ·)
  | _, [], b, _ => by
    rw [List.nil_append, lexL_blank 10 (by simp), lexL_nil]
    cases lexL b <;> simp
  | 0, _ :: _, _, h => by simp at h
  | n + 1, x :: r, b, h => by
    have hp := headRun_pos (s := x :: r) (by simp)
    have hb := headRun_app x r 10 b (by simp)
    have hd : ((x :: r).drop (headRun (x :: r)).2).length ≤ n := by rw [List.length_drop]; omega
    have ih := lexL_joins n _ b hd
    rw [lexL_step (by simp), hb, List.take_append_of_le_length hp.2, List.drop_append_of_le_length hp.2, ih, lexL_step (s := x :: r) (by simp)]
    split
    · rfl
    · split
      · rfl
      · cases lexL ((x :: r).drop (headRun (x :: r)).2) <;> simp
        cases lexL b <;> simp
/-- a blank, and a remark up to its line's end -/
theorem runL_line (u : List UInt8) (hu : u.all inLine = true) (b : List UInt8) : runL inLine (u ++ 10 :: b) = u.length := by
  rw [runL_app (by decide)]
  induction u with
  | nil => rfl
  | cons c u ih =>
    rw [List.all_cons, Bool.and_eq_true] at hu
    rw [runL, if_pos hu.1, ih hu.2]; rfl
theorem lexL_note (u : List UInt8) (hu : u.all inLine = true) (b : List UInt8) : lexL (35 :: u ++ 10 :: b) = lexL b := by
  have e : headRun (35 :: u ++ 10 :: b) = (0, u.length + 1) := by
    show headRun (35 :: (u ++ 10 :: b)) = _
    rw [headRun_cons]
    rw [if_pos rfl]
    have := runL_line (35 :: u) (by rw [List.all_cons, hu]; decide) b
    rw [List.cons_append] at this
    rw [this]; rfl
  rw [lexL_step (by simp), e, if_pos rfl]
  have : (35 :: u ++ 10 :: b).drop (u.length + 1) = 10 :: b := by
    show (u ++ 10 :: b).drop u.length = _
    exact List.drop_left
  rw [this, lexL_blank 10 (by simp)]

/-! Words. -/
theorem keys_right (t : List UInt8) (h : isKey t = true) : rightT ⟨3, t, 0⟩ = true := by
  have : ∀ k ∈ keys, rightT ⟨3, k, 0⟩ = true := by decide +kernel
  unfold isKey at h
  rw [List.any_eq_true] at h
  obtain ⟨k, hk, e⟩ := h
  have e : k = t := by simpa using e
  subst e
  exact this k hk
theorem keys_short (t : List UInt8) (h : isKey t = true) : t.length ≤ 5 := by
  have : ∀ k ∈ keys, k.length ≤ 5 := by decide
  unfold isKey at h
  rw [List.any_eq_true] at h
  obtain ⟨k, hk, e⟩ := h
  have e : k = t := by simpa using e
  subst e
  exact this k hk
theorem numL_kind {t : List UInt8} {x : Tok} (h : numL t = some x) : x.kind = 2 := by
  unfold numL at h
  split at h
  · split at h
    · cases h; rfl
    · cases h
  · cases h
theorem key_right (t : List UInt8) : rightT ⟨3, t, 0⟩ = isKey t := by
  cases hk : isKey t with
  | true => exact keys_right t hk
  | false =>
    cases hr : rightT ⟨3, t, 0⟩ with
    | false => rfl
    | true =>
      obtain ⟨_, _, h3⟩ := right_parts hr
      dsimp only at h3
      unfold tokL at h3
      rw [if_neg (by rw [hk]; simp)] at h3
      split at h3
      · rename_i hc
        have := congrArg (fun o : Option Tok => o.map (·.kind)) h3
        simp at this
        omega
      split at h3
      · have := numL_kind h3
        simp at this
      · cases h3
theorem runL_all {f : UInt8 → Bool} : ∀ {s : List UInt8}, s.all f = true → runL f s = s.length
  | [], _ => rfl
  | c :: r, h => by
    rw [List.all_cons, Bool.and_eq_true] at h
    rw [runL, if_pos h.1, runL_all h.2]; rfl
theorem headRun_name {t : List UInt8} (h : nameL t = true) : headRun t = (1, t.length) ∧ t ≠ [] ∧ t.length ≤ 16 := by
  cases t with
  | nil => cases h
  | cons c r =>
    unfold nameL at h
    simp only [Bool.and_eq_true, decide_eq_true_eq] at h
    obtain ⟨⟨h1, h2⟩, h3⟩ := h
    refine ⟨?_, by simp, h1⟩
    have hne : ∀ d : UInt8, isLetter d = false → c ≠ d := fun d hd e => by subst e; rw [h2] at hd; cases hd
    rw [headRun_cons]
    rw [if_neg (hne 35 (by decide)), if_neg (by rintro (e | e); exact hne 32 (by decide) e; exact hne 10 (by decide) e), if_neg (by rintro (e | e); exact hne 58 (by decide) e; exact hne 61 (by decide) e), if_neg ?_, if_pos h2, runL_all h3]
    intro hm
    have : ∀ d ∈ marks1, isLetter d = false := by decide
    exact absurd h2 (by rw [this c hm]; decide)
theorem name_right (t : List UInt8) : rightT ⟨1, t, 0⟩ = (nameL t && !isKey t) := by
  cases hk : isKey t with
  | true =>
    cases hr : rightT ⟨1, t, 0⟩ with
    | false => simp
    | true =>
      obtain ⟨_, _, h3⟩ := right_parts hr
      have h4 := (right_parts (keys_right t hk)).2.2
      dsimp only at h3 h4
      rw [h3] at h4
      cases h4
  | false =>
    cases hn : nameL t with
    | true =>
      obtain ⟨e1, e2, _⟩ := headRun_name hn
      have : rightT ⟨1, t, 0⟩ = true := right_mk e2 (by rw [e1]) (by rw [e1]; unfold tokL; dsimp only; rw [if_neg (by rw [hk]; simp), if_pos (.inl ⟨rfl, hn⟩)])
      rw [this]; rfl
    | false =>
      cases hr : rightT ⟨1, t, 0⟩ with
      | false => rfl
      | true =>
        obtain ⟨_, _, h3⟩ := right_parts hr
        dsimp only at h3
        unfold tokL at h3
        rw [if_neg (by rw [hk]; simp)] at h3
        split at h3
        · rename_i hc
          have := congrArg (fun o : Option Tok => o.map (·.kind)) h3
          rw [hn] at hc
          simp at this hc
          omega
        split at h3
        · have := numL_kind h3
          simp at this
        · cases h3
end Go.Lx
