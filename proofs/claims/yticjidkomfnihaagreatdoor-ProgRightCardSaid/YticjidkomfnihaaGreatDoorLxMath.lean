/-
  What the words of a text are: the runs, the tokens, and what follows of them. No condition; no program.
  The document's own words of a text against the program's: numbers, words, marks, a step of each. No condition; no program.
-/
import Derived.Lib.ItoaNum
import Derived.Lib.ParseIntB
import Derived.Lib.Strings
import Derived.Lib.Join
namespace Go.Lx
def isLetter (c : UInt8) : Bool := decide (97 <= c.toNat /\ c.toNat <= 122 ∨ 65 <= c.toNat /\ c.toNat <= 90)
def isDigit (c : UInt8) : Bool := decide (48 <= c.toNat /\ c.toNat <= 57)
def isAlnum (c : UInt8) : Bool := isLetter c || isDigit c
def inLine (c : UInt8) : Bool := decide (c.toNat ≠ 10)
def runL (f : UInt8 -> Bool) : List UInt8 -> Nat
 | [] => 0
 | c :: r => if f c then runL f r + 1 else 0
def marks1 : List UInt8 := [40, 41, 59, 33, 43, 45, 42, 60, 46]
def hasP (s p : List UInt8) : Bool := Lib.hasPrefix s p
def headRun : List UInt8 -> Int × Nat
 | [] => (-1, 1)
 | c :: r =>
   if c = 35 then (0, runL inLine (c :: r))
   else if c = 32 ∨ c = 10 then (0, 1)
   else if c = 58 ∨ c = 61 then (4, if hasP (c :: r) [58, 61] || hasP (c :: r) [61, 62] then 2 else 1)
   else if c ∈ marks1 then (4, 1)
   else if isLetter c then (1, runL isAlnum (c :: r))
   else if isDigit c then (2, runL isDigit (c :: r))
   else (-1, 1)
theorem headRun_cons (c : UInt8) (r : List UInt8) : headRun (c :: r) = if c = 35 then (0, runL inLine (c :: r))
   else if c = 32 ∨ c = 10 then (0, 1)
   else if c = 58 ∨ c = 61 then (4, if hasP (c :: r) [58, 61] || hasP (c :: r) [61, 62] then 2 else 1)
   else if c ∈ marks1 then (4, 1)
   else if isLetter c then (1, runL isAlnum (c :: r))
   else if isDigit c then (2, runL isDigit (c :: r))
   else (-1, 1) := rfl
def keys : List (List UInt8) := [[102, 117, 110], [108, 101, 116], [105, 110], [105, 102], [116, 104, 101, 110], [101, 108, 115, 101], [119, 104, 105, 108, 101], [100, 111], [114, 97, 105, 115, 101], [116, 114, 121], [119, 105, 116, 104], [105, 110, 112, 117, 116], [99, 101, 108, 108], [100, 101, 102]]
def isKey (t : List UInt8) : Bool := keys.any (fun k => k == t)
def nameL : List UInt8 -> Bool
 | [] => false
 | c :: r => decide ((c :: r).length <= 16) && isLetter c && (c :: r).all isAlnum
structure Tok where
 kind : Int
 text : List UInt8
 num : Int
deriving DecidableEq
def numL (t : List UInt8) : Option Tok :=
 match Lib.parseIntB 32 t with
 | .ok v => if Lib.itoa v = t then some ⟨2, t, v⟩ else none
 | _ => none
def tokL (k : Int) (t : List UInt8) : Option Tok :=
 if k = 1 /\ isKey t = true then some ⟨3, t, 0⟩
 else if k = 1 /\ nameL t = true ∨ k = 4 then some ⟨k, t, 0⟩
 else if k = 2 then numL t else none
def rightT (t : Tok) : Bool := !t.text.isEmpty && decide ((headRun t.text).2 = t.text.length) && decide (tokL (headRun t.text).1 t.text = some t)
def rightL (l : List Tok) : Bool := l.all rightT
def lexF : Nat -> List UInt8 -> Option (List Tok)
 | 0, s => if s = [] then some [] else none
 | f + 1, s => if s = [] then some [] else
   if (headRun s).1 = 0 then lexF f (s.drop (headRun s).2)
   else match tokL (headRun s).1 (s.take (headRun s).2) with
     | none => none
     | some t => (lexF f (s.drop (headRun s).2)).map (t :: ·)
theorem lexF_succ (f : Nat) (s : List UInt8) : lexF (f + 1) s = if s = [] then some [] else
   if (headRun s).1 = 0 then lexF f (s.drop (headRun s).2)
   else match tokL (headRun s).1 (s.take (headRun s).2) with
     | none => none
     | some t => (lexF f (s.drop (headRun s).2)).map (t :: ·) := rfl
def lexL (s : List UInt8) : Option (List Tok) := lexF s.length s
theorem runL_le (f : UInt8 -> Bool) : ∀ s, runL f s <= s.length
 | [] => Nat.le_refl _
 | c :: r => by
   have := runL_le f r
   unfold runL
   split <;> simp <;> omega
theorem headRun_pos {s : List UInt8} (h : s ≠ []) : 1 <= (headRun s).2 /\ (headRun s).2 <= s.length := by
 cases s with
 | nil => exact absurd rfl h
 | cons c r =>
   have h1 : ∀ f : UInt8 -> Bool, f c = true -> 1 <= runL f (c :: r) := fun f hf => by unfold runL; rw [if_pos hf]; omega
   have h2 : ∀ f, runL f (c :: r) <= (c :: r).length := fun f => runL_le f _
   rw [headRun_cons]
   split
   . rename_i hc
     exact ⟨h1 _ (by subst hc; decide), h2 _⟩
   split
   . simp
   split
   . refine ⟨?_, ?_⟩
     . dsimp only; split <;> omega
     . dsimp only
       split
       . rename_i hp
         cases r with
         | nil => simp [hasP, Lib.hasPrefix, List.isPrefixOf] at hp
         | cons d r => simp
       . simp
   split
   . simp
   split
   . rename_i hc
     exact ⟨h1 _ (by unfold isAlnum; rw [hc]; rfl), h2 _⟩
   split
   . rename_i hc
     exact ⟨h1 _ hc, h2 _⟩
   . simp
theorem lexF_nil (f : Nat) : lexF f [] = some [] := by cases f <;> rfl
theorem lexF_enough : ∀ (f g : Nat) (s : List UInt8), s.length <= f -> s.length <= g -> lexF f s = lexF g s
 | f, g, [], _, _ => by rw [lexF_nil, lexF_nil]
 | 0, _, c :: r, h, _ => by simp at h
 | _, 0, c :: r, _, h => by simp at h
 | f + 1, g + 1, c :: r, h1, h2 => by
   have hp := headRun_pos (s := c :: r) (by simp)
   have e := lexF_enough f g ((c :: r).drop (headRun (c :: r)).2) (by rw [List.length_drop]; omega) (by rw [List.length_drop]; omega)
   unfold lexF
   rw [e]
theorem lexL_nil : lexL [] = some [] := rfl
theorem lexL_step {s : List UInt8} (h : s ≠ []) : lexL s = if (headRun s).1 = 0 then lexL (s.drop (headRun s).2) else match tokL (headRun s).1 (s.take (headRun s).2) with
     | none => none
     | some t => (lexL (s.drop (headRun s).2)).map (t :: ·) := by
 have hp := headRun_pos h
 cases hs : s.length with
 | zero => exact absurd (List.length_eq_zero_iff.1 hs) h
 | succ n =>
   have e : ∀ u : List UInt8, u.length <= n -> lexF n u = lexL u := fun u hu => lexF_enough _ _ _ hu (Nat.le_refl _)
   have e2 : lexL s = lexF (n + 1) s := by unfold lexL; rw [hs]
   rw [e2, lexF_succ, if_neg h, e _ (by rw [List.length_drop]; omega)]
/-! What follows behind a run. -/
theorem runL_app {f : UInt8 -> Bool} {c : UInt8} (hf : f c = false) (b : List UInt8) : ∀ a, runL f (a ++ c :: b) = runL f a
 | [] => by simp [runL, hf]
 | x :: a => by
   have := runL_app hf b a
   rw [List.cons_append]
   unfold runL
   rw [this]
theorem headRun_app (x : UInt8) (r : List UInt8) (c : UInt8) (b : List UInt8) (hc : c = 10 ∨ ((c = 32 ∨ c = 35) /\ x ≠ 35)) : headRun (x :: r ++ c :: b) = headRun (x :: r) := by
 have ha : isAlnum c = false := by rcases hc with rfl | ⟨rfl | rfl, _⟩ <;> decide
 have hd : isDigit c = false := by rcases hc with rfl | ⟨rfl | rfl, _⟩ <;> decide
 have h61 : c ≠ 61 := by rcases hc with rfl | ⟨rfl | rfl, _⟩ <;> decide
 have h62 : c ≠ 62 := by rcases hc with rfl | ⟨rfl | rfl, _⟩ <;> decide
 have e1 : x :: (r ++ c :: b) = (x :: r) ++ c :: b := rfl
 have p1 : ∀ u v : UInt8, c ≠ v -> hasP (x :: (r ++ c :: b)) [u, v] = hasP (x :: r) [u, v] := fun u v hv => by
   cases r with
   | nil =>
     have : (v == c) = false := by simpa using fun h => hv h.symm
     simp [hasP, Lib.hasPrefix, List.isPrefixOf, this]
   | cons y r => simp [hasP, Lib.hasPrefix, List.isPrefixOf]
 show headRun (x :: (r ++ c :: b)) = _
 rw [headRun_cons, headRun_cons]
 by_cases hx : x = 35
 . rw [if_pos hx, if_pos hx, e1, runL_app]
   rcases hc with rfl | ⟨_, h⟩
   . decide
   . exact absurd hx h
 . rw [if_neg hx, if_neg hx, p1 _ _ h61, p1 _ _ h62, e1, runL_app ha, runL_app hd]
theorem runL_take (f : UInt8 -> Bool) : ∀ s, runL f (s.take (runL f s)) = runL f s
 | [] => rfl
 | c :: r => by
   have ih := runL_take f r
   by_cases h : f c = true
   . have : runL f (c :: r) = runL f r + 1 := by rw [runL, if_pos h]
     rw [this, List.take_succ_cons, runL, if_pos h, ih]
   . have : runL f (c :: r) = 0 := by rw [runL, if_neg h]
     rw [this]; rfl
theorem headRun_take {s : List UInt8} (h : s ≠ []) (hk : (headRun s).1 ≠ 0) : headRun (s.take (headRun s).2) = headRun s := by
 cases s with
 | nil => exact absurd rfl h
 | cons c r =>
   have hp := headRun_pos h
   obtain ⟨m, hm⟩ : ∃ m, (headRun (c :: r)).2 = m + 1 := ⟨(headRun (c :: r)).2 - 1, by omega⟩
   have ht : ∀ f, (headRun (c :: r)).2 = runL f (c :: r) -> runL f (c :: r.take m) = runL f (c :: r) := fun f e => by
     have := runL_take f (c :: r)
     rw [<- e, hm, List.take_succ_cons] at this
     rw [this, <- hm, e]
   rw [hm, List.take_succ_cons]
   revert hm ht hk hp
   rw [headRun_cons, headRun_cons]
   by_cases h1 : c = 35
   . rw [if_pos h1]; intro hk; exact absurd rfl hk
   rw [if_neg h1, if_neg h1]
   by_cases h2 : c = 32 ∨ c = 10
   . rw [if_pos h2]; intro hk; exact absurd rfl hk
   rw [if_neg h2, if_neg h2]
   by_cases h3 : c = 58 ∨ c = 61
   . rw [if_pos h3, if_pos h3]
     intro hk hp hm ht
     dsimp only at hm ⊢
     congr 1
     by_cases hp2 : (hasP (c :: r) [58, 61] || hasP (c :: r) [61, 62]) = true
     . rw [if_pos hp2] at hm ⊢
       obtain rfl : m = 1 := by omega
       rw [if_pos]
       cases r with
       | nil => simp [hasP, Lib.hasPrefix, List.isPrefixOf] at hp2
       | cons d r => simpa [hasP, Lib.hasPrefix, List.isPrefixOf] using hp2
     . rw [if_neg hp2] at hm ⊢
       obtain rfl : m = 0 := by omega
       rw [if_neg]
       simp [hasP, Lib.hasPrefix, List.isPrefixOf]
   rw [if_neg h3, if_neg h3]
   by_cases h4 : c ∈ marks1
   . rw [if_pos h4, if_pos h4]; intros; trivial
   rw [if_neg h4, if_neg h4]
   by_cases h5 : isLetter c = true
   . rw [if_pos h5, if_pos h5]
     intro hk hp hm ht
     rw [ht _ rfl]
   rw [if_neg h5, if_neg h5]
   by_cases h6 : isDigit c = true
   . rw [if_pos h6, if_pos h6]
     intro hk hp hm ht
     rw [ht _ rfl]
   . rw [if_neg h6, if_neg h6]; intros; trivial
theorem tokL_text {k : Int} {t : List UInt8} {x : Tok} (h : tokL k t = some x) : x.text = t := by
 unfold tokL at h
 split at h
 . cases h; rfl
 split at h
 . cases h; rfl
 split at h
 . unfold numL at h
   split at h
   . split at h
     . cases h; rfl
     . cases h
   . cases h
 . cases h
theorem tokL_zero (t : List UInt8) : tokL 0 t = none := by unfold tokL; simp
theorem right_parts {t : Tok} (h : rightT t = true) : t.text ≠ [] /\ (headRun t.text).2 = t.text.length /\ tokL (headRun t.text).1 t.text = some t := by
 unfold rightT at h
 simp only [Bool.and_eq_true, decide_eq_true_eq, Bool.not_eq_true', List.isEmpty_eq_false_iff] at h
 exact ⟨h.1.1, h.1.2, h.2⟩
theorem right_mk {t : Tok} (h1 : t.text ≠ []) (h2 : (headRun t.text).2 = t.text.length) (h3 : tokL (headRun t.text).1 t.text = some t) : rightT t = true := by
 unfold rightT
 simp only [Bool.and_eq_true, decide_eq_true_eq, Bool.not_eq_true', List.isEmpty_eq_false_iff]
 exact ⟨⟨h1, h2⟩, h3⟩
theorem tok_right {s : List UInt8} (h : s ≠ []) {t : Tok} (ht : tokL (headRun s).1 (s.take (headRun s).2) = some t) : rightT t = true := by
 have hk : (headRun s).1 ≠ 0 := fun e => by rw [e, tokL_zero] at ht; cases ht
 have hp := headRun_pos h
 have e := tokL_text ht
 have hb := headRun_take h hk
 refine right_mk ?_ ?_ ?_
 . rw [e]; intro h0; have h9 : (s.take (headRun s).2).length = 0 := by rw [h0]; rfl
   rw [List.length_take] at h9; omega
 . rw [e, hb, List.length_take]; omega
 . rw [e, hb]; exact ht
theorem lexL_right : ∀ (n : Nat) (s : List UInt8), s.length <= n -> ∀ l, lexL s = some l -> rightL l = true
 | _, [], _, l, h => by rw [lexL_nil] at h; cases h; rfl
 | 0, _ :: _, hn, _, _ => by simp at hn
 | n + 1, c :: r, hn, l, h => by
   have hp := headRun_pos (s := c :: r) (by simp)
   have hd : ((c :: r).drop (headRun (c :: r)).2).length <= n := by rw [List.length_drop]; omega
   rw [lexL_step (by simp)] at h
   split at h
   . exact lexL_right n _ hd l h
   . split at h
     . cases h
     . rename_i t ht
       cases hl : lexL ((c :: r).drop (headRun (c :: r)).2) with
       | none => rw [hl] at h; cases h
       | some l' =>
         rw [hl] at h
         cases h
         show (rightT t && rightL l') = true
         rw [tok_right (by simp) ht, lexL_right n _ hd l' hl]; rfl
theorem lexL_tok {t : Tok} (h : rightT t = true) (c : UInt8) (hc : c = 10 ∨ c = 32 ∨ c = 35) (b : List UInt8) : lexL (t.text ++ c :: b) = (lexL (c :: b)).map (t :: ·) := by
 obtain ⟨h1, h2, h3⟩ := right_parts h
 cases hx : t.text with
 | nil => exact absurd hx h1
 | cons x r =>
   rw [hx] at h1 h2 h3
   have hk : (headRun (x :: r)).1 ≠ 0 := fun e => by rw [e, tokL_zero] at h3; cases h3
   have hx35 : x ≠ 35 := by
     rintro rfl
     apply hk
     rw [headRun_cons]
     rw [if_pos rfl]
   have hb := headRun_app x r c b (by rcases hc with h | h | h <;> simp [h, hx35])
   rw [lexL_step (by simp), hb, if_neg hk, h2]
   have e1 : (x :: r ++ c :: b).take (x :: r).length = x :: r := List.take_left
   have e2 : (x :: r ++ c :: b).drop (x :: r).length = c :: b := List.drop_left
   rw [e1, e2, h3]
theorem lexL_blank (c : UInt8) (hc : c = 10 ∨ c = 32) (b : List UInt8) : lexL (c :: b) = lexL b := by
 have e : headRun (c :: b) = (0, 1) := by
   rw [headRun_cons]
   rw [if_neg (by rcases hc with rfl | rfl <;> decide), if_pos (by rcases hc with rfl | rfl <;> decide)]
 rw [lexL_step (by simp), e]
 rfl
/-! Words. -/
theorem keys_right (t : List UInt8) (h : isKey t = true) : rightT ⟨3, t, 0⟩ = true := by
 have : ∀ k ∈ keys, rightT ⟨3, k, 0⟩ = true := by decide +kernel
 unfold isKey at h
 rw [List.any_eq_true] at h
 obtain ⟨k, hk, e⟩ := h
 have e : k = t := by simpa using e
 subst e
 exact this k hk
theorem numL_kind {t : List UInt8} {x : Tok} (h : numL t = some x) : x.kind = 2 := by
 unfold numL at h
 split at h
 . split at h
   . cases h; rfl
   . cases h
 . cases h
theorem key_right (t : List UInt8) : rightT ⟨3, t, 0⟩ = isKey t := by
 cases hk : isKey t with
 | true => exact keys_right t hk
 | false =>
   cases hr : rightT ⟨3, t, 0⟩ with
   | false => rfl
   | true =>
     obtain ⟨_, _, h3⟩ := right_parts hr
     dsimp only at h3
     unfold tokL at h3
     rw [if_neg (by rw [hk]; simp)] at h3
     split at h3
     . rename_i hc
       have := congrArg (fun o : Option Tok => o.map (·.kind)) h3
       simp at this
       omega
     split at h3
     . have := numL_kind h3
       simp at this
     . cases h3
theorem runL_all {f : UInt8 -> Bool} : ∀ {s : List UInt8}, s.all f = true -> runL f s = s.length
 | [], _ => rfl
 | c :: r, h => by
   rw [List.all_cons, Bool.and_eq_true] at h
   rw [runL, if_pos h.1, runL_all h.2]; rfl
theorem headRun_name {t : List UInt8} (h : nameL t = true) : headRun t = (1, t.length) /\ t ≠ [] /\ t.length <= 16 := by
 cases t with
 | nil => cases h
 | cons c r =>
   unfold nameL at h
   simp only [Bool.and_eq_true, decide_eq_true_eq] at h
   obtain ⟨⟨h1, h2⟩, h3⟩ := h
   refine ⟨?_, by simp, h1⟩
   have hne : ∀ d : UInt8, isLetter d = false -> c ≠ d := fun d hd e => by subst e; rw [h2] at hd; cases hd
   rw [headRun_cons]
   rw [if_neg (hne 35 (by decide)), if_neg (by rintro (e | e); exact hne 32 (by decide) e; exact hne 10 (by decide) e), if_neg (by rintro (e | e); exact hne 58 (by decide) e; exact hne 61 (by decide) e), if_neg ?_, if_pos h2, runL_all h3]
   intro hm
   have : ∀ d ∈ marks1, isLetter d = false := by decide
   exact absurd h2 (by rw [this c hm]; decide)
theorem name_right (t : List UInt8) : rightT ⟨1, t, 0⟩ = (nameL t && !isKey t) := by
 cases hk : isKey t with
 | true =>
   cases hr : rightT ⟨1, t, 0⟩ with
   | false => simp
   | true =>
     obtain ⟨_, _, h3⟩ := right_parts hr
     have h4 := (right_parts (keys_right t hk)).2.2
     dsimp only at h3 h4
     rw [h3] at h4
     cases h4
 | false =>
   cases hn : nameL t with
   | true =>
     obtain ⟨e1, e2, _⟩ := headRun_name hn
     have : rightT ⟨1, t, 0⟩ = true := right_mk e2 (by rw [e1]) (by rw [e1]; unfold tokL; dsimp only; rw [if_neg (by rw [hk]; simp), if_pos (.inl ⟨rfl, hn⟩)])
     rw [this]; rfl
   | false =>
     cases hr : rightT ⟨1, t, 0⟩ with
     | false => rfl
     | true =>
       obtain ⟨_, _, h3⟩ := right_parts hr
       dsimp only at h3
       unfold tokL at h3
       rw [if_neg (by rw [hk]; simp)] at h3
       split at h3
       . rename_i hc
         have := congrArg (fun o : Option Tok => o.map (·.kind)) h3
         rw [hn] at hc
         simp at this hc
         omega
       split at h3
       . have := numL_kind h3
         simp at this
       . cases h3
end Go.Lx
namespace Go.Lx
/-! Numbers. -/
def valL : Nat -> List UInt8 -> Nat
 | acc, [] => acc
 | acc, c :: r => valL (acc * 10 + (c.toNat - 48)) r
theorem valL_ge : ∀ (l : List UInt8) (acc : Nat), acc <= valL acc l
 | [], _ => Nat.le_refl _
 | c :: r, acc => by
   have := valL_ge r (acc * 10 + (c.toNat - 48))
   show acc <= valL (acc * 10 + (c.toNat - 48)) r
   omega
theorem isDigit_iff {c : UInt8} : isDigit c = true ↔ 48 <= c.toNat /\ c.toNat <= 57 := by unfold isDigit; rw [decide_eq_true_eq]
theorem parseM : ∀ (l : List UInt8) (acc : Nat), l.all isDigit = true -> acc <= 4294967295 -> Lib.parseUintM 4294967295 acc l = if valL acc l <= 4294967295 then .ok (valL acc l) else .range
 | [], acc, _, ha => by unfold Lib.parseUintM valL; rw [if_pos ha]
 | c :: r, acc, hd, ha => by
   rw [List.all_cons, Bool.and_eq_true] at hd
   have hc := isDigit_iff.1 hd.1
   unfold Lib.parseUintM
   rw [if_pos hc, if_neg (by omega)]
   show _ = if valL (acc * 10 + (c.toNat - 48)) r <= 4294967295 then _ else _
   by_cases h : 4294967295 < acc * 10 + (c.toNat - 48)
   . have := valL_ge r (acc * 10 + (c.toNat - 48))
     rw [if_pos h, if_neg (by omega)]
   . rw [if_neg h, parseM r _ hd.2 (by omega)]
     rfl
theorem parseI {c : UInt8} {r : List UInt8} (hd : (c :: r).all isDigit = true) : Lib.parseIntB 32 (c :: r) = if valL 0 (c :: r) < 2147483648 then .ok (valL 0 (c :: r) : Int) else .range := by
 have hc := isDigit_iff.1 (by rw [List.all_cons, Bool.and_eq_true] at hd; exact hd.1)
 have e0 : Lib.parseUintB 32 (c :: r) = if valL 0 (c :: r) <= 4294967295 then .ok (valL 0 (c :: r)) else .range := by
   unfold Lib.parseUintB
   rw [if_neg (by simp)]
   exact parseM (c :: r) 0 hd (by omega)
 unfold Lib.parseIntB
 dsimp only
 rw [if_neg (show ¬ (c.toNat = 43 ∨ c.toNat = 45) by omega), e0]
 have h45 : ¬ c.toNat = 45 := by omega
 generalize valL 0 (c :: r) = v
 have e : (2 : Nat) ^ (32 - 1) = 2147483648 := by decide
 by_cases h1 : v <= 4294967295
 . rw [if_pos h1]
   dsimp only
   rw [e]
   by_cases h2 : v < 2147483648
   . rw [if_neg (by omega), if_neg (by omega), if_pos h2, if_neg h45]
   . rw [if_pos (by omega), if_neg h2]
 . rw [if_neg h1, if_neg (by omega)]
theorem nDigits_le : ∀ (k u : Nat), u < 10 ^ (k + 1) -> Lib.nDigits u <= k + 1
 | 0, u, h => by rw [Lib.nDigits_small (by omega)]; omega
 | k + 1, u, h => by
   rw [Lib.nDigits]
   split
   . omega
   . have : u / 10 < 10 ^ (k + 1) := by
       rw [Nat.div_lt_iff_lt_mul (by omega)]
       rw [Nat.pow_succ] at h
       exact h
     have := nDigits_le k (u / 10) this
     omega
def refNum (s : List UInt8) : Option Nat :=
 if 1 <= s.length /\ s.length <= 10 /\ s.all isDigit = true /\ valL 0 s < 2147483648 /\ Lib.decDigits (valL 0 s) = s then some (valL 0 s) else none
theorem numL_ref {s : List UInt8} (hne : s ≠ []) (hd : s.all isDigit = true) : numL s = (refNum s).map fun (n : Nat) => (⟨2, s, (n : Int)⟩ : Tok) := by
 cases s with
 | nil => exact absurd rfl hne
 | cons c r =>
   unfold numL refNum
   rw [parseI hd]
   by_cases h1 : valL 0 (c :: r) < 2147483648
   . rw [if_pos h1]
     dsimp only
     have ei : Lib.itoa ((valL 0 (c :: r) : Nat) : Int) = Lib.decDigits (valL 0 (c :: r)) := by unfold Lib.itoa; rw [if_neg (by omega)]; simp
     rw [ei]
     by_cases h2 : Lib.decDigits (valL 0 (c :: r)) = c :: r
     . have h3 : (c :: r).length <= 10 := by
         rw [<- h2, Lib.decDigits_length]
         exact nDigits_le 9 _ (by omega)
       rw [if_pos h2, if_pos ⟨by simp, h3, hd, h1, h2⟩]
       rfl
     . rw [if_neg h2, if_neg (fun h => h2 h.2.2.2.2)]
       rfl
   . rw [if_neg h1, if_neg (fun h => h1 h.2.2.2.1)]
     rfl
theorem letter_not_digit {c : UInt8} (h : isLetter c = true) : isDigit c = false := by
 unfold isLetter at h
 unfold isDigit
 rw [decide_eq_true_eq] at h
 rw [decide_eq_false_iff_not]
 omega
theorem digit_not_letter {c : UInt8} (h : isDigit c = true) : isLetter c = false := by
 cases hl : isLetter c with
 | false => rfl
 | true => rw [letter_not_digit hl] at h; cases h
theorem word_not_mark {c : UInt8} (h : isLetter c = true ∨ isDigit c = true) : c ≠ 35 /\ c ≠ 32 /\ c ≠ 10 /\ c ≠ 58 /\ c ≠ 61 /\ c ∉ marks1 := by
 have key : ∀ d : UInt8, isLetter d = false -> isDigit d = false -> c ≠ d := fun d h1 h2 e => by
   subst e
   rcases h with h | h
   . rw [h1] at h; cases h
   . rw [h2] at h; cases h
 refine ⟨key _ (by decide) (by decide), key _ (by decide) (by decide), key _ (by decide) (by decide), key _ (by decide) (by decide), key _ (by decide) (by decide), fun hm => ?_⟩
 have : ∀ d ∈ marks1, isLetter d = false /\ isDigit d = false := by decide
 obtain ⟨h1, h2⟩ := this c hm
 exact key c h1 h2 rfl
def marksL : List (List UInt8) := [[61, 62], [58, 61], [40], [41], [59], [58], [61], [33], [43], [45], [42], [60], [46]]
/-! The document's 'right'. -/
def refRight (t : Tok) : Bool :=
 if t.kind = 1 then nameL t.text && !isKey t.text && decide (t.num = 0)
 else if t.kind = 2 then (match refNum t.text with | some n => decide ((n : Int) = t.num) | none => false)
 else if t.kind = 3 then isKey t.text && decide (t.num = 0)
 else if t.kind = 4 then marksL.contains t.text && decide (t.num = 0)
 else false
theorem tokL_cases {k : Int} {x : List UInt8} {t : Tok} (h : tokL k x = some t) :
   (t.kind = 3 /\ t.num = 0 /\ isKey x = true) ∨ (t.kind = k /\ t.num = 0 /\ (k = 1 /\ nameL x = true /\ isKey x = false ∨ k = 4)) ∨ (k = 2 /\ t.kind = 2 /\ numL x = some t) := by
 unfold tokL at h
 split at h
 . rename_i h1
   cases h; exact .inl ⟨rfl, rfl, h1.2⟩
 . rename_i h1
   split at h
   . rename_i h2
     cases h
     refine .inr (.inl ⟨rfl, rfl, ?_⟩)
     rcases h2 with h2 | h2
     . refine .inl ⟨h2.1, h2.2, ?_⟩
       cases hk : isKey x with
       | false => rfl
       | true => exact absurd ⟨h2.1, hk⟩ h1
     . exact .inr h2
   . split at h
     . rename_i h3
       exact .inr (.inr ⟨h3, numL_kind h, h⟩)
     . cases h
theorem not_right {t : Tok} (h : ∀ k, tokL k t.text ≠ some t) : rightT t = false := by
 cases hr : rightT t with
 | false => rfl
 | true => exact absurd (right_parts hr).2.2 (h _)
theorem runL_full {f : UInt8 -> Bool} : ∀ {s : List UInt8}, runL f s = s.length -> s.all f = true
 | [], _ => rfl
 | c :: r, h => by
   unfold runL at h
   by_cases hc : f c = true
   . rw [if_pos hc] at h
     rw [List.all_cons, hc, runL_full (s := r) (by simpa using h)]; rfl
   . rw [if_neg hc] at h; simp at h
theorem head_digits {x : List UInt8} (hne : x ≠ []) (h : x.all isDigit = true) : headRun x = (2, x.length) := by
 cases x with
 | nil => exact absurd rfl hne
 | cons c r =>
   have hd : isDigit c = true := by rw [List.all_cons, Bool.and_eq_true] at h; exact h.1
   obtain ⟨h1, h2, h3, h4, h5, h6⟩ := word_not_mark (c := c) (.inr hd)
   rw [headRun_cons, if_neg h1, if_neg (by simp [h2, h3]), if_neg (by simp [h4, h5]), if_neg h6, if_neg (by rw [digit_not_letter hd]; simp), if_pos hd, runL_all h]
theorem head_kind {x : List UInt8} (hne : x ≠ []) (hl : (headRun x).2 = x.length) : ((headRun x).1 = 2 -> x.all isDigit = true) /\ ((headRun x).1 = 4 -> x ∈ marksL) := by
 cases x with
 | nil => exact absurd rfl hne
 | cons c r =>
   revert hl
   rw [headRun_cons]
   by_cases h1 : c = 35
   . rw [if_pos h1]; intro _; exact ⟨fun h => by dsimp only at h; omega, fun h => by dsimp only at h; omega⟩
   rw [if_neg h1]
   by_cases h2 : c = 32 ∨ c = 10
   . rw [if_pos h2]; intro _; exact ⟨fun h => by dsimp only at h; omega, fun h => by dsimp only at h; omega⟩
   rw [if_neg h2]
   by_cases h3 : c = 58 ∨ c = 61
   . rw [if_pos h3]
     intro hl
     refine ⟨fun h => by dsimp only at h; omega, fun _ => ?_⟩
     dsimp only at hl
     by_cases hp : (hasP (c :: r) [58, 61] || hasP (c :: r) [61, 62]) = true
     . rw [if_pos hp] at hl
       obtain ⟨d, rfl⟩ : ∃ d, r = [d] := by
         match r, hl with
         | [d], _ => exact ⟨d, rfl⟩
       simp [hasP, Lib.hasPrefix, List.isPrefixOf] at hp
       rcases hp with ⟨e1, e2⟩ | ⟨e1, e2⟩
       . rw [<- e1, <- e2]; decide
       . rw [<- e1, <- e2]; decide
     . rw [if_neg hp] at hl
       have : r = [] := by
         match r, hl with
         | [], _ => rfl
       subst this
       rcases h3 with rfl | rfl <;> decide
   rw [if_neg h3]
   by_cases h4 : c ∈ marks1
   . rw [if_pos h4]
     intro hl
     refine ⟨fun h => by dsimp only at h; omega, fun _ => ?_⟩
     have : r = [] := by
       match r, hl with
       | [], _ => rfl
     subst this
     have hall : ∀ d ∈ marks1, [d] ∈ marksL := by decide
     exact hall c h4
   rw [if_neg h4]
   by_cases h5 : isLetter c = true
   . rw [if_pos h5]; intro _; exact ⟨fun h => absurd h (show ¬ ((1 : Int) = 2) by decide), fun h => absurd h (show ¬ ((1 : Int) = 4) by decide)⟩
   rw [if_neg h5]
   by_cases h6 : isDigit c = true
   . rw [if_pos h6]; intro hl; exact ⟨fun _ => runL_full hl, fun h => absurd h (show ¬ ((2 : Int) = 4) by decide)⟩
   . rw [if_neg h6]; intro _; exact ⟨fun h => by dsimp only at h; omega, fun h => by dsimp only at h; omega⟩
theorem right_ref (t : Tok) : refRight t = rightT t := by
 obtain ⟨k, x, n⟩ := t
 unfold refRight
 dsimp only
 by_cases k1 : k = 1
 . subst k1
   rw [if_pos rfl]
   by_cases hn : n = 0
   . subst hn; rw [name_right]; simp
   . rw [not_right fun k h => ?_]
     . simp [hn]
     . rcases tokL_cases h with ⟨h1, _⟩ | ⟨_, h2, _⟩ | ⟨_, h1, _⟩
       . dsimp only at h1; omega
       . exact hn h2
       . dsimp only at h1; omega
 rw [if_neg k1]
 by_cases k2 : k = 2
 . subst k2
   rw [if_pos rfl]
   cases hr : rightT ⟨2, x, n⟩ with
   | true =>
     obtain ⟨h1, h2, h3⟩ := right_parts hr
     dsimp only at h1 h2 h3
     rcases tokL_cases h3 with ⟨g, _⟩ | ⟨g, _, g2⟩ | ⟨g, _, g3⟩
     . dsimp only at g; omega
     . dsimp only at g
       rcases g2 with g2 | g2 <;> omega
     . have hd := (head_kind h1 h2).1 g
       rw [numL_ref h1 hd] at g3
       cases hm : refNum x with
       | none => rw [hm] at g3; cases g3
       | some m =>
         rw [hm] at g3
         have : ((m : Nat) : Int) = n := by
           have := congrArg (fun o : Option Tok => o.map (·.num)) g3
           simpa using this
         exact decide_eq_true this
   | false =>
     cases hm : refNum x with
     | none => rfl
     | some m =>
       dsimp only
       rw [decide_eq_false_iff_not]
       intro e
       have hm2 := hm
       unfold refNum at hm2
       split at hm2
       . rename_i hc
         have hne : x ≠ [] := fun e => by subst e; simp at hc
         have hh := head_digits hne hc.2.2.1
         have : rightT ⟨2, x, n⟩ = true := right_mk hne (by rw [hh]) (by
           rw [hh]
           dsimp only
           unfold tokL
           rw [if_neg (by simp), if_neg (by simp), if_pos rfl, numL_ref hne hc.2.2.1, hm, Option.map_some, e])
         rw [this] at hr
         cases hr
       . cases hm2
 rw [if_neg k2]
 by_cases k3 : k = 3
 . subst k3
   rw [if_pos rfl]
   by_cases hn : n = 0
   . subst hn; rw [key_right]; simp
   . rw [not_right fun k h => ?_]
     . simp [hn]
     . rcases tokL_cases h with ⟨_, h2, _⟩ | ⟨_, h2, _⟩ | ⟨_, h1, _⟩
       . exact hn h2
       . exact hn h2
       . dsimp only at h1; omega
 rw [if_neg k3]
 by_cases k4 : k = 4
 . subst k4
   rw [if_pos rfl]
   by_cases hn : n = 0
   . subst hn
     rw [decide_eq_true rfl, Bool.and_true]
     cases hc : marksL.contains x with
     | true =>
       have hx : x ∈ marksL := by simpa using hc
       have hall : ∀ m ∈ marksL, rightT ⟨4, m, 0⟩ = true := by decide +kernel
       exact (hall x hx).symm
     | false =>
       cases hr : rightT ⟨4, x, 0⟩ with
       | false => rfl
       | true =>
         obtain ⟨h1, h2, h3⟩ := right_parts hr
         dsimp only at h1 h2 h3
         rcases tokL_cases h3 with ⟨g, _⟩ | ⟨g, _, _⟩ | ⟨_, g, _⟩
         . dsimp only at g; omega
         . have hx := (head_kind h1 h2).2 g.symm
           have : marksL.contains x = true := by simpa using hx
           rw [hc] at this
           cases this
         . dsimp only at g; omega
   . rw [not_right fun k h => ?_]
     . simp [hn]
     . rcases tokL_cases h with ⟨_, h2, _⟩ | ⟨_, h2, _⟩ | ⟨_, h1, _⟩
       . exact hn h2
       . exact hn h2
       . dsimp only at h1; omega
 rw [if_neg k4, not_right fun j h => ?_]
 rcases tokL_cases h with ⟨g, _⟩ | ⟨g, _, g2⟩ | ⟨_, g, _⟩
 . exact k3 g
 . dsimp only at g
   rcases g2 with g2 | g2 <;> omega
 . exact k2 g
end Go.Lx
