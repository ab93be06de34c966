/-
  The document's own words of a text against the program's: numbers, words, marks, a step of each. No condition; no program.
-/
import Derived.Test.YthmchdpinobbgaaGreatDoorLxMath
namespace Go.Lx

/-! Numbers. -/
def valL : Nat → List UInt8 → Nat
  | acc, [] => acc
  | acc, c :: r => valL (acc * 10 + (c.toNat - 48)) r
theorem valL_ge : ∀ (l : List UInt8) (acc : Nat), acc ≤ valL acc l
  | [], _ => Nat.le_refl _
  | c :: r, acc => by
    have := valL_ge r (acc * 10 + (c.toNat - 48))
    show acc ≤ valL (acc * 10 + (c.toNat - 48)) r
    omega
theorem isDigit_iff {c : UInt8} : isDigit c = true ↔ 48 ≤ c.toNat ∧ c.toNat ≤ 57 := by unfold isDigit; rw [decide_eq_true_eq]
theorem parseM : ∀ (l : List UInt8) (acc : Nat), l.all isDigit = true → acc ≤ 4294967295 → Lib.parseUintM 4294967295 acc l = if valL acc l ≤ 4294967295 then .ok (valL acc l) else .range
  | [], acc, _, ha => by unfold Lib.parseUintM valL; rw [if_pos ha]
  | c :: r, acc, hd, ha => by
    rw [List.all_cons, Bool.and_eq_true] at hd
    have hc := isDigit_iff.1 hd.1
    unfold Lib.parseUintM
    rw [if_pos hc, if_neg (by omega)]
    show _ = if valL (acc * 10 + (c.toNat - 48)) r ≤ 4294967295 then _ else _
    by_cases h : 4294967295 < acc * 10 + (c.toNat - 48)
    · have := valL_ge r (acc * 10 + (c.toNat - 48))
      rw [if_pos h, if_neg (by omega)]
    · rw [if_neg h, parseM r _ hd.2 (by omega)]
      rfl
theorem parseI {c : UInt8} {r : List UInt8} (hd : (c :: r).all isDigit = true) : Lib.parseIntB 32 (c :: r) = if valL 0 (c :: r) < 2147483648 then .ok (valL 0 (c :: r) : Int) else .range := by
  have hc := isDigit_iff.1 (by rw [List.all_cons, Bool.and_eq_true] at hd; exact hd.1)
  have e0 : Lib.parseUintB 32 (c :: r) = if valL 0 (c :: r) ≤ 4294967295 then .ok (valL 0 (c :: r)) else .range := by
    unfold Lib.parseUintB
    rw [if_neg (by simp)]
    exact parseM (c :: r) 0 hd (by omega)
  unfold Lib.parseIntB
  dsimp only
  rw [if_neg (show ¬ (c.toNat = 43 ∨ c.toNat = 45) by omega), e0]
  have h45 : ¬ c.toNat = 45 := by omega
  generalize valL 0 (c :: r) = v
  have e : (2 : Nat) ^ (32 - 1) = 2147483648 := by decide
  by_cases h1 : v ≤ 4294967295
  · rw [if_pos h1]
    dsimp only
    rw [e]
    by_cases h2 : v < 2147483648
    · rw [if_neg (by omega), if_neg (by omega), if_pos h2, if_neg h45]
    · rw [if_pos (by omega), if_neg h2]
  · rw [if_neg h1, if_neg (by omega)]
theorem nDigits_le : ∀ (k u : Nat), u < 10 ^ (k + 1) → Lib.nDigits u ≤ k + 1
  | 0, u, h => by rw [Lib.nDigits_small (by omega)]; omega
  | k + 1, u, h => by
    rw [Lib.nDigits]
    split
    · omega
    · have : u / 10 < 10 ^ (k + 1) := by
        rw [Nat.div_lt_iff_lt_mul (by omega)]
        rw [Nat.pow_succ] at h
        exact h
      have := nDigits_le k (u / 10) this
      omega
/-- the document's number of a text -/
def refNum (s : List UInt8) : Option Nat :=
  if 1 ≤ s.length ∧ s.length ≤ 10 ∧ s.all isDigit = true ∧ valL 0 s < 2147483648 ∧ Lib.decDigits (valL 0 s) = s then some (valL 0 s) else none
theorem numL_ref {s : List UInt8} (hne : s ≠ []) (hd : s.all isDigit = true) : numL s = (refNum s).map fun (n : Nat) => (⟨2, s, (n : Int)⟩ : Tok) := by
  cases s with
  | nil => exact absurd rfl hne
  | cons c r =>
    unfold numL refNum
    rw [parseI hd]
    by_cases h1 : valL 0 (c :: r) < 2147483648
    · rw [if_pos h1]
      dsimp only
      have ei : Lib.itoa ((valL 0 (c :: r) : Nat) : Int) = Lib.decDigits (valL 0 (c :: r)) := by unfold Lib.itoa; rw [if_neg (by omega)]; simp
      rw [ei]
      by_cases h2 : Lib.decDigits (valL 0 (c :: r)) = c :: r
      · have h3 : (c :: r).length ≤ 10 := by
          rw [← h2, Lib.decDigits_length]
          exact nDigits_le 9 _ (by omega)
        rw [if_pos h2, if_pos ⟨by simp, h3, hd, h1, h2⟩]
        rfl
      · rw [if_neg h2, if_neg (fun h => h2 h.2.2.2.2)]
        rfl
    · rw [if_neg h1, if_neg (fun h => h1 h.2.2.2.1)]
      rfl

/-! Words. -/
def wordL (s : List UInt8) : Option Tok :=
  if isKey s = true then some ⟨3, s, 0⟩ else if nameL s = true then some ⟨1, s, 0⟩ else (refNum s).map fun (n : Nat) => ⟨2, s, (n : Int)⟩
theorem letter_not_digit {c : UInt8} (h : isLetter c = true) : isDigit c = false := by
  unfold isLetter at h
  unfold isDigit
  rw [decide_eq_true_eq] at h
  rw [decide_eq_false_iff_not]
  omega
theorem key_first {c : UInt8} {r : List UInt8} (h : isKey (c :: r) = true) : isLetter c = true := by
  have hk : ∀ k ∈ keys, ∃ d q, k = d :: q ∧ isLetter d = true := by
    intro k hk
    have : ∀ k ∈ keys, k.headD 0 ≠ 0 ∧ isLetter (k.headD 0) = true ∧ k ≠ [] := by decide
    obtain ⟨_, h2, h3⟩ := this k hk
    cases k with
    | nil => exact absurd rfl h3
    | cons d q => exact ⟨d, q, rfl, h2⟩
  unfold isKey at h
  rw [List.any_eq_true] at h
  obtain ⟨k, hm, e⟩ := h
  have e : k = c :: r := by simpa using e
  obtain ⟨d, q, e2, h2⟩ := hk k hm
  rw [e] at e2
  cases e2
  exact h2
theorem word_letter {c : UInt8} {r : List UInt8} (h : isLetter c = true) : tokL 1 (c :: r) = wordL (c :: r) := by
  unfold tokL wordL
  by_cases h1 : isKey (c :: r) = true
  · rw [if_pos ⟨rfl, h1⟩, if_pos h1]
  · rw [if_neg (fun g => h1 g.2), if_neg h1]
    by_cases h2 : nameL (c :: r) = true
    · rw [if_pos (.inl ⟨rfl, h2⟩), if_pos h2]
    · rw [if_neg (fun g => g.elim (fun g => h2 g.2) (fun g => absurd g (by decide))), if_neg h2, if_neg (by decide)]
      unfold refNum
      rw [if_neg (fun g => by
        have := g.2.2.1
        rw [List.all_cons, letter_not_digit h] at this
        simp at this)]
      rfl
theorem digit_not_letter {c : UInt8} (h : isDigit c = true) : isLetter c = false := by
  cases hl : isLetter c with
  | false => rfl
  | true => rw [letter_not_digit hl] at h; cases h
theorem word_digit {c : UInt8} {r : List UInt8} (h : (c :: r).all isDigit = true) : tokL 2 (c :: r) = wordL (c :: r) := by
  have hc : isLetter c = false := digit_not_letter (by rw [List.all_cons, Bool.and_eq_true] at h; exact h.1)
  unfold tokL wordL
  have h1 : ¬ isKey (c :: r) = true := fun g => by rw [key_first g] at hc; cases hc
  have h2 : ¬ nameL (c :: r) = true := fun g => by unfold nameL at g; simp [hc] at g
  rw [if_neg (by simp), if_neg (by simp), if_pos rfl, if_neg h1, if_neg h2]
  exact numL_ref (by simp) h

/-! A step. -/
def runF (c d : UInt8) : Bool := isDigit d || (isLetter d && isLetter c)
theorem runL_congr {f g : UInt8 → Bool} (h : ∀ c, f c = g c) (l : List UInt8) : runL f l = runL g l := by
  have : f = g := funext h
  rw [this]
theorem runL_all_take (f : UInt8 → Bool) : ∀ s : List UInt8, (s.take (runL f s)).all f = true
  | [] => rfl
  | c :: r => by
    unfold runL
    by_cases h : f c = true
    · rw [if_pos h, List.take_succ_cons, List.all_cons, h, runL_all_take f r]; rfl
    · rw [if_neg h]; rfl
theorem step_note {r : List UInt8} : lexL (35 :: r) = lexL ((35 :: r).drop (runL inLine (35 :: r))) := by
  have e : headRun (35 :: r) = (0, runL inLine (35 :: r)) := by rw [headRun_cons, if_pos rfl]
  rw [lexL_step (by simp), e, if_pos rfl]
theorem word_not_mark {c : UInt8} (h : isLetter c = true ∨ isDigit c = true) : c ≠ 35 ∧ c ≠ 32 ∧ c ≠ 10 ∧ c ≠ 58 ∧ c ≠ 61 ∧ c ∉ marks1 := by
  have key : ∀ d : UInt8, isLetter d = false → isDigit d = false → c ≠ d := fun d h1 h2 e => by
    subst e
    rcases h with h | h
    · rw [h1] at h; cases h
    · rw [h2] at h; cases h
  refine ⟨key _ (by decide) (by decide), key _ (by decide) (by decide), key _ (by decide) (by decide), key _ (by decide) (by decide), key _ (by decide) (by decide), fun hm => ?_⟩
  have : ∀ d ∈ marks1, isLetter d = false ∧ isDigit d = false := by decide
  obtain ⟨h1, h2⟩ := this c hm
  exact key c h1 h2 rfl
theorem step_word {c : UInt8} {r : List UInt8} (h : isLetter c = true ∨ isDigit c = true) : lexL (c :: r) = (wordL ((c :: r).take (runL (runF c) (c :: r)))).bind fun t => (lexL ((c :: r).drop (runL (runF c) (c :: r)))).map (t :: ·) := by
  obtain ⟨h1, h2, h3, h4, h5, h6⟩ := word_not_mark h
  rw [lexL_step (by simp)]
  cases hl : isLetter c with
  | true =>
    have ef : runL (runF c) (c :: r) = runL isAlnum (c :: r) := runL_congr (fun d => by unfold runF isAlnum; rw [hl, Bool.and_true, Bool.or_comm]) _
    have e : headRun (c :: r) = (1, runL isAlnum (c :: r)) := by
      rw [headRun_cons, if_neg h1, if_neg (by simp [h2, h3]), if_neg (by simp [h4, h5]), if_neg h6, if_pos hl]
    have hp := headRun_pos (s := c :: r) (by simp)
    rw [e] at hp ⊢
    rw [ef, if_neg (show ¬ ((1 : Int) = 0) by decide)]
    obtain ⟨m, hm⟩ : ∃ m, runL isAlnum (c :: r) = m + 1 := ⟨runL isAlnum (c :: r) - 1, by have := hp.1; dsimp only at this; omega⟩
    dsimp only
    rw [hm, List.take_succ_cons, word_letter hl]
    cases wordL (c :: r.take m) <;> rfl
  | false =>
    have hd : isDigit c = true := by rcases h with h | h; (rw [hl] at h; cases h); exact h
    have ef : runL (runF c) (c :: r) = runL isDigit (c :: r) := runL_congr (fun d => by unfold runF; rw [hl, Bool.and_false, Bool.or_false]) _
    have e : headRun (c :: r) = (2, runL isDigit (c :: r)) := by
      rw [headRun_cons, if_neg h1, if_neg (by simp [h2, h3]), if_neg (by simp [h4, h5]), if_neg h6, if_neg (by rw [hl]; simp), if_pos hd]
    have hp := headRun_pos (s := c :: r) (by simp)
    have ha := runL_all_take isDigit (c :: r)
    rw [e] at hp ⊢
    rw [ef, if_neg (show ¬ ((2 : Int) = 0) by decide)]
    obtain ⟨m, hm⟩ : ∃ m, runL isDigit (c :: r) = m + 1 := ⟨runL isDigit (c :: r) - 1, by have := hp.1; dsimp only at this; omega⟩
    dsimp only
    rw [hm, List.take_succ_cons] at ha ⊢
    rw [word_digit ha]
    cases wordL (c :: r.take m) <;> rfl
def marksL : List (List UInt8) := [[61, 62], [58, 61], [40], [41], [59], [58], [61], [33], [43], [45], [42], [60], [46]]
def markL (s : List UInt8) : List UInt8 := (marksL.find? fun m => m.isPrefixOf s).getD []
theorem tok4 (x : List UInt8) : tokL 4 x = some ⟨4, x, 0⟩ := by
  unfold tokL; rw [if_neg (by simp), if_pos (.inr rfl)]
theorem tokm (x : List UInt8) : tokL (-1) x = none := by
  unfold tokL; rw [if_neg (by simp), if_neg (by simp), if_neg (by decide)]
theorem mark_yes {c : UInt8} {r m : List UInt8} (he : headRun (c :: r) = (4, m.length)) (hm : (c :: r).take m.length = m) (hk : markL (c :: r) = m) (hne : m ≠ []) :
    (markL (c :: r) = [] → lexL (c :: r) = none) ∧ (markL (c :: r) ≠ [] → lexL (c :: r) = (lexL ((c :: r).drop (markL (c :: r)).length)).map ((⟨4, markL (c :: r), 0⟩ : Tok) :: ·) ∧ (markL (c :: r)).length ≤ (c :: r).length) := by
  rw [hk]
  refine ⟨fun h => absurd h hne, fun _ => ⟨?_, ?_⟩⟩
  · rw [lexL_step (by simp), he, if_neg (show ¬ ((4 : Int) = 0) by decide)]
    dsimp only
    rw [hm, tok4]
  · have := (headRun_pos (s := c :: r) (by simp)).2
    rw [he] at this
    exact this
theorem find_none {c : UInt8} {r : List UInt8} : ∀ l : List (List UInt8), (∀ m ∈ l, ∃ d q, m = d :: q ∧ c ≠ d) → l.find? (fun m => m.isPrefixOf (c :: r)) = none
  | [], _ => rfl
  | m :: l, h => by
    obtain ⟨d, q, rfl, hd⟩ := h m (List.mem_cons_self ..)
    have e : (d :: q).isPrefixOf (c :: r) = false := by
      have : (d == c) = false := by simpa using fun e => hd e.symm
      simp [List.isPrefixOf, this]
    rw [List.find?_cons, e]
    exact find_none l fun m hm => h m (List.mem_cons_of_mem _ hm)
theorem step_mark {c : UInt8} {r : List UInt8} (h1 : c ≠ 35) (h2 : c ≠ 32) (h3 : c ≠ 10) (hl : isLetter c = false) (hd : isDigit c = false) :
    (markL (c :: r) = [] → lexL (c :: r) = none) ∧ (markL (c :: r) ≠ [] → lexL (c :: r) = (lexL ((c :: r).drop (markL (c :: r)).length)).map ((⟨4, markL (c :: r), 0⟩ : Tok) :: ·) ∧ (markL (c :: r)).length ≤ (c :: r).length) := by
  have hh : headRun (c :: r) = if c = 58 ∨ c = 61 then (4, if hasP (c :: r) [58, 61] || hasP (c :: r) [61, 62] then 2 else 1) else if c ∈ marks1 then (4, 1) else (-1, 1) := by
    rw [headRun_cons, if_neg h1, if_neg (by simp [h2, h3]), if_neg (show ¬ isLetter c = true by rw [hl]; simp), if_neg (show ¬ isDigit c = true by rw [hd]; simp)]
  by_cases c1 : c = 58
  · subst c1
    rw [if_pos (by simp)] at hh
    cases r with
    | nil => exact mark_yes (m := [58]) (by rw [hh]; rfl) rfl rfl (by simp)
    | cons d q =>
      by_cases hq : d = 61
      · subst hq
        exact mark_yes (m := [58, 61]) (by rw [hh]; simp [hasP, Lib.hasPrefix, List.isPrefixOf]) rfl (by simp [markL, marksL, List.isPrefixOf]) (by simp)
      · have e : (61 == d) = false := by simpa using fun e => hq e.symm
        exact mark_yes (m := [58]) (by rw [hh]; simp [hasP, Lib.hasPrefix, List.isPrefixOf, e]) rfl (by simp [markL, marksL, List.isPrefixOf, e]) (by simp)
  by_cases c2 : c = 61
  · subst c2
    rw [if_pos (by simp)] at hh
    cases r with
    | nil => exact mark_yes (m := [61]) (by rw [hh]; rfl) rfl rfl (by simp)
    | cons d q =>
      by_cases hq : d = 62
      · subst hq
        exact mark_yes (m := [61, 62]) (by rw [hh]; simp [hasP, Lib.hasPrefix, List.isPrefixOf]) rfl (by simp [markL, marksL, List.isPrefixOf]) (by simp)
      · have e : (62 == d) = false := by simpa using fun e => hq e.symm
        exact mark_yes (m := [61]) (by rw [hh]; simp [hasP, Lib.hasPrefix, List.isPrefixOf, e]) rfl (by simp [markL, marksL, List.isPrefixOf, e]) (by simp)
  rw [if_neg (fun h => h.elim c1 c2)] at hh
  by_cases cm : c ∈ marks1
  · rw [if_pos cm] at hh
    have hk : markL (c :: r) = [c] := by
      have : c = 40 ∨ c = 41 ∨ c = 59 ∨ c = 33 ∨ c = 43 ∨ c = 45 ∨ c = 42 ∨ c = 60 ∨ c = 46 := by simpa [marks1] using cm
      rcases this with rfl | rfl | rfl | rfl | rfl | rfl | rfl | rfl | rfl <;> simp [markL, marksL, List.isPrefixOf]
    exact mark_yes (m := [c]) hh rfl hk (by simp)
  · rw [if_neg cm] at hh
    have hk : markL (c :: r) = [] := by
      have hf : marksL.find? (fun m => m.isPrefixOf (c :: r)) = none := find_none marksL fun m hm => by
        have hall : ∀ m ∈ marksL, m ≠ [] ∧ (m.headD 0 ∈ marks1 ∨ m.headD 0 = 58 ∨ m.headD 0 = 61) := by decide
        obtain ⟨g1, g2⟩ := hall m hm
        cases m with
        | nil => exact absurd rfl g1
        | cons d q =>
          refine ⟨d, q, rfl, fun e => ?_⟩
          subst e
          rcases g2 with g | g | g
          · exact cm g
          · exact c1 g
          · exact c2 g
      unfold markL
      rw [hf]; rfl
    refine ⟨fun _ => ?_, fun h => absurd hk h⟩
    rw [lexL_step (by simp), hh, if_neg (show ¬ ((-1 : Int) = 0) by decide)]
    dsimp only
    rw [tokm]
/-! The document's 'right'. -/
def refRight (t : Tok) : Bool :=
  if t.kind = 1 then nameL t.text && !isKey t.text && decide (t.num = 0)
  else if t.kind = 2 then (match refNum t.text with | some n => decide ((n : Int) = t.num) | none => false)
  else if t.kind = 3 then isKey t.text && decide (t.num = 0)
  else if t.kind = 4 then marksL.contains t.text && decide (t.num = 0)
  else false
theorem tokL_cases {k : Int} {x : List UInt8} {t : Tok} (h : tokL k x = some t) :
    (t.kind = 3 ∧ t.num = 0 ∧ isKey x = true) ∨ (t.kind = k ∧ t.num = 0 ∧ (k = 1 ∧ nameL x = true ∧ isKey x = false ∨ k = 4)) ∨ (k = 2 ∧ t.kind = 2 ∧ numL x = some t) := by
  unfold tokL at h
  split at h
  · rename_i h1
    cases h; exact .inl ⟨rfl, rfl, h1.2⟩
  · rename_i h1
    split at h
    · rename_i h2
      cases h
      refine .inr (.inl ⟨rfl, rfl, ?_⟩)
      rcases h2 with h2 | h2
      · refine .inl ⟨h2.1, h2.2, ?_⟩
        cases hk : isKey x with
        | false => rfl
        | true => exact absurd ⟨h2.1, hk⟩ h1
      · exact .inr h2
    · split at h
      · rename_i h3
        exact .inr (.inr ⟨h3, numL_kind h, h⟩)
      · cases h
theorem not_right {t : Tok} (h : ∀ k, tokL k t.text ≠ some t) : rightT t = false := by
  cases hr : rightT t with
  | false => rfl
  | true => exact absurd (right_parts hr).2.2 (h _)
theorem runL_full {f : UInt8 → Bool} : ∀ {s : List UInt8}, runL f s = s.length → s.all f = true
  | [], _ => rfl
  | c :: r, h => by
    unfold runL at h
    by_cases hc : f c = true
    · rw [if_pos hc] at h
      rw [List.all_cons, hc, runL_full (s := r) (by simpa using h)]; rfl
    · rw [if_neg hc] at h; simp at h
theorem head_digits {x : List UInt8} (hne : x ≠ []) (h : x.all isDigit = true) : headRun x = (2, x.length) := by
  cases x with
  | nil => exact absurd rfl hne
  | cons c r =>
    have hd : isDigit c = true := by rw [List.all_cons, Bool.and_eq_true] at h; exact h.1
    obtain ⟨h1, h2, h3, h4, h5, h6⟩ := word_not_mark (c := c) (.inr hd)
    rw [headRun_cons, if_neg h1, if_neg (by simp [h2, h3]), if_neg (by simp [h4, h5]), if_neg h6, if_neg (by rw [digit_not_letter hd]; simp), if_pos hd, runL_all h]
/-- the kind that a text's first byte begins -/
theorem head_kind {x : List UInt8} (hne : x ≠ []) (hl : (headRun x).2 = x.length) : ((headRun x).1 = 2 → x.all isDigit = true) ∧ ((headRun x).1 = 4 → x ∈ marksL) := by
  cases x with
  | nil => exact absurd rfl hne
  | cons c r =>
    revert hl
    rw [headRun_cons]
    by_cases h1 : c = 35
    · rw [if_pos h1]; intro _; exact ⟨fun h => by dsimp only at h; omega, fun h => by dsimp only at h; omega⟩
    rw [if_neg h1]
    by_cases h2 : c = 32 ∨ c = 10
    · rw [if_pos h2]; intro _; exact ⟨fun h => by dsimp only at h; omega, fun h => by dsimp only at h; omega⟩
    rw [if_neg h2]
    by_cases h3 : c = 58 ∨ c = 61
    · rw [if_pos h3]
      intro hl
      refine ⟨fun h => by dsimp only at h; omega, fun _ => ?_⟩
      dsimp only at hl
      by_cases hp : (hasP (c :: r) [58, 61] || hasP (c :: r) [61, 62]) = true
      · rw [if_pos hp] at hl
        obtain ⟨d, rfl⟩ : ∃ d, r = [d] := by
          match r, hl with
          | [d], _ => exact ⟨d, rfl⟩
        simp [hasP, Lib.hasPrefix, List.isPrefixOf] at hp
        rcases hp with ⟨e1, e2⟩ | ⟨e1, e2⟩
        · rw [← e1, ← e2]; decide
        · rw [← e1, ← e2]; decide
      · rw [if_neg hp] at hl
        have : r = [] := by
          match r, hl with
          | [], _ => rfl
        subst this
        rcases h3 with rfl | rfl <;> decide
    rw [if_neg h3]
    by_cases h4 : c ∈ marks1
    · rw [if_pos h4]
      intro hl
      refine ⟨fun h => by dsimp only at h; omega, fun _ => ?_⟩
      have : r = [] := by
        match r, hl with
        | [], _ => rfl
      subst this
      have hall : ∀ d ∈ marks1, [d] ∈ marksL := by decide
      exact hall c h4
    rw [if_neg h4]
    by_cases h5 : isLetter c = true
    · rw [if_pos h5]; intro _; exact ⟨fun h => absurd h (show ¬ ((1 : Int) = 2) by decide), fun h => absurd h (show ¬ ((1 : Int) = 4) by decide)⟩
    rw [if_neg h5]
    by_cases h6 : isDigit c = true
    · rw [if_pos h6]; intro hl; exact ⟨fun _ => runL_full hl, fun h => absurd h (show ¬ ((2 : Int) = 4) by decide)⟩
    · rw [if_neg h6]; intro _; exact ⟨fun h => by dsimp only at h; omega, fun h => by dsimp only at h; omega⟩
theorem right_ref (t : Tok) : refRight t = rightT t := by
  obtain ⟨k, x, n⟩ := t
  unfold refRight
  dsimp only
  by_cases k1 : k = 1
  · subst k1
    rw [if_pos rfl]
    by_cases hn : n = 0
    · subst hn; rw [name_right]; simp
    · rw [not_right fun k h => ?_]
      · simp [hn]
      · rcases tokL_cases h with ⟨h1, _⟩ | ⟨_, h2, _⟩ | ⟨_, h1, _⟩
        · dsimp only at h1; omega
        · exact hn h2
        · dsimp only at h1; omega
  rw [if_neg k1]
  by_cases k2 : k = 2
  · subst k2
    rw [if_pos rfl]
    cases hr : rightT ⟨2, x, n⟩ with
    | true =>
      obtain ⟨h1, h2, h3⟩ := right_parts hr
      dsimp only at h1 h2 h3
      rcases tokL_cases h3 with ⟨g, _⟩ | ⟨g, _, g2⟩ | ⟨g, _, g3⟩
      · dsimp only at g; omega
      · dsimp only at g
        rcases g2 with g2 | g2 <;> omega
      · have hd := (head_kind h1 h2).1 g
        rw [numL_ref h1 hd] at g3
        cases hm : refNum x with
        | none => rw [hm] at g3; cases g3
        | some m =>
          rw [hm] at g3
          have : ((m : Nat) : Int) = n := by
            have := congrArg (fun o : Option Tok => o.map (·.num)) g3
            simpa using this
          exact decide_eq_true this
    | false =>
      cases hm : refNum x with
      | none => rfl
      | some m =>
        dsimp only
        rw [decide_eq_false_iff_not]
        intro e
        have hm2 := hm
        unfold refNum at hm2
        split at hm2
        · rename_i hc
          have hne : x ≠ [] := fun e => by subst e; simp at hc
          have hh := head_digits hne hc.2.2.1
          have : rightT ⟨2, x, n⟩ = true := right_mk hne (by rw [hh]) (by
            rw [hh]
            dsimp only
            unfold tokL
            rw [if_neg (by simp), if_neg (by simp), if_pos rfl, numL_ref hne hc.2.2.1, hm, Option.map_some, e])
          rw [this] at hr
          cases hr
        · cases hm2
  rw [if_neg k2]
  by_cases k3 : k = 3
  · subst k3
    rw [if_pos rfl]
    by_cases hn : n = 0
    · subst hn; rw [key_right]; simp
    · rw [not_right fun k h => ?_]
      · simp [hn]
      · rcases tokL_cases h with ⟨_, h2, _⟩ | ⟨_, h2, _⟩ | ⟨_, h1, _⟩
        · exact hn h2
        · exact hn h2
        · dsimp only at h1; omega
  rw [if_neg k3]
  by_cases k4 : k = 4
  · subst k4
    rw [if_pos rfl]
    by_cases hn : n = 0
    · subst hn
      rw [decide_eq_true rfl, Bool.and_true]
      cases hc : marksL.contains x with
      | true =>
        have hx : x ∈ marksL := by simpa using hc
        have hall : ∀ m ∈ marksL, rightT ⟨4, m, 0⟩ = true := by decide +kernel
        exact (hall x hx).symm
      | false =>
        cases hr : rightT ⟨4, x, 0⟩ with
        | false => rfl
        | true =>
          obtain ⟨h1, h2, h3⟩ := right_parts hr
          dsimp only at h1 h2 h3
          rcases tokL_cases h3 with ⟨g, _⟩ | ⟨g, _, _⟩ | ⟨_, g, _⟩
          · dsimp only at g; omega
          · have hx := (head_kind h1 h2).2 g.symm
            have : marksL.contains x = true := by simpa using hx
            rw [hc] at this
            cases this
          · dsimp only at g; omega
    · rw [not_right fun k h => ?_]
      · simp [hn]
      · rcases tokL_cases h with ⟨_, h2, _⟩ | ⟨_, h2, _⟩ | ⟨_, h1, _⟩
        · exact hn h2
        · exact hn h2
        · dsimp only at h1; omega
  rw [if_neg k4, not_right fun j h => ?_]
  rcases tokL_cases h with ⟨g, _⟩ | ⟨g, _, g2⟩ | ⟨_, g, _⟩
  · exact k3 g
  · dsimp only at g
    rcases g2 with g2 | g2 <;> omega
  · exact k2 g
end Go.Lx
