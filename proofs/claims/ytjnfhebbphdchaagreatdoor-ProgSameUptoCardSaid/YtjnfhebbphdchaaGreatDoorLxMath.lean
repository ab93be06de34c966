/-
  What the words of a text are: the runs, the tokens, and what follows of them. No condition; no program.
  The document's own words of a text against the program's: numbers, words, marks, a step of each. No condition; no program.
-/
import Derived.Lib.ItoaNum
import Derived.Lib.ParseIntB
import Derived.Lib.Strings
import Derived.Lib.Join
namespace Go.Lx
def qas (c : UInt8) : Bool := decide (97 <= c.toNat /\ c.toNat <= 122 ∨ 65 <= c.toNat /\ c.toNat <= 90)
def qat (c : UInt8) : Bool := decide (48 <= c.toNat /\ c.toNat <= 57)
def qaA (c : UInt8) : Bool := qas c || qat c
def inLine (c : UInt8) : Bool := decide (c.toNat ≠ 10)
def runL (f : UInt8 -> Bool) : List UInt8 -> Nat
 | [] => 0
 | c :: r => if f c then runL f r + 1 else 0
def qdm : List UInt8 := [40, 41, 59, 33, 43, 45, 42, 60, 46]
def hasP (s p : List UInt8) : Bool := Lib.hasPrefix s p
def qak : List UInt8 -> Int × Nat
 | [] => (-1, 1)
 | c :: r =>
   if c = 35 then (0, runL inLine (c :: r))
   else if c = 32 ∨ c = 10 then (0, 1)
   else if c = 58 ∨ c = 61 then (4, if hasP (c :: r) [58, 61] || hasP (c :: r) [61, 62] then 2 else 1)
   else if c ∈ qdm then (4, 1)
   else if qas c then (1, runL qaA (c :: r))
   else if qat c then (2, runL qat (c :: r))
   else (-1, 1)
theorem qaD (c : UInt8) (r : List UInt8) : qak (c :: r) = if c = 35 then (0, runL inLine (c :: r))
   else if c = 32 ∨ c = 10 then (0, 1)
   else if c = 58 ∨ c = 61 then (4, if hasP (c :: r) [58, 61] || hasP (c :: r) [61, 62] then 2 else 1)
   else if c ∈ qdm then (4, 1)
   else if qas c then (1, runL qaA (c :: r))
   else if qat c then (2, runL qat (c :: r))
   else (-1, 1) := rfl
def keys : List (List UInt8) := [[102, 117, 110], [108, 101, 116], [105, 110], [105, 102], [116, 104, 101, 110], [101, 108, 115, 101], [119, 104, 105, 108, 101], [100, 111], [114, 97, 105, 115, 101], [116, 114, 121], [119, 105, 116, 104], [105, 110, 112, 117, 116], [99, 101, 108, 108], [100, 101, 102]]
def isKey (t : List UInt8) : Bool := keys.any (fun k => k == t)
def nameL : List UInt8 -> Bool
 | [] => false
 | c :: r => decide ((c :: r).length <= 16) && qas c && (c :: r).all qaA
structure Tok where
 kind : Int
 text : List UInt8
 num : Int
deriving DecidableEq
def numL (t : List UInt8) : Option Tok :=
 match Lib.parseIntB 32 t with
 | .ok v => if Lib.itoa v = t then some ⟨2, t, v⟩ else none
 | _ => none
def tokL (k : Int) (t : List UInt8) : Option Tok :=
 if k = 1 /\ isKey t = true then some ⟨3, t, 0⟩
 else if k = 1 /\ nameL t = true ∨ k = 4 then some ⟨k, t, 0⟩
 else if k = 2 then numL t else none
def qai (t : Tok) : Bool := !t.text.isEmpty && decide ((qak t.text).2 = t.text.length) && decide (tokL (qak t.text).1 t.text = some t)
def qao (l : List Tok) : Bool := l.all qai
def lexF : Nat -> List UInt8 -> Option (List Tok)
 | 0, s => if s = [] then some [] else none
 | f + 1, s => if s = [] then some [] else
   if (qak s).1 = 0 then lexF f (s.drop (qak s).2)
   else match tokL (qak s).1 (s.take (qak s).2) with
     | none => none
     | some t => (lexF f (s.drop (qak s).2)).map (t :: ·)
theorem qnx (f : Nat) (s : List UInt8) : lexF (f + 1) s = if s = [] then some [] else
   if (qak s).1 = 0 then lexF f (s.drop (qak s).2)
   else match tokL (qak s).1 (s.take (qak s).2) with
     | none => none
     | some t => (lexF f (s.drop (qak s).2)).map (t :: ·) := rfl
def lexL (s : List UInt8) : Option (List Tok) := lexF s.length s
theorem qny (f : UInt8 -> Bool) : ∀ s, runL f s <= s.length
 | [] => Nat.le_refl _
 | c :: r => by
   have := qny f r
   unfold runL
   split <;> simp <;> omega
theorem qbM {s : List UInt8} (h : s ≠ []) : 1 <= (qak s).2 /\ (qak s).2 <= s.length := by
 cases s with
 | nil => exact absurd rfl h
 | cons c r =>
   have h1 : ∀ f : UInt8 -> Bool, f c = true -> 1 <= runL f (c :: r) := fun f hf => by unfold runL; rw [if_pos hf]; omega
   have h2 : ∀ f, runL f (c :: r) <= (c :: r).length := fun f => qny f _
   rw [qaD]
   split
   . rename_i hc
     exact ⟨h1 _ (by subst hc; decide), h2 _⟩
   split
   . simp
   split
   . refine ⟨?_, ?_⟩
     . dsimp only; split <;> omega
     . dsimp only
       split
       . rename_i hp
         cases r with
         | nil => simp [hasP, Lib.hasPrefix, List.isPrefixOf] at hp
         | cons d r => simp
       . simp
   split
   . simp
   split
   . rename_i hc
     exact ⟨h1 _ (by unfold qaA; rw [hc]; rfl), h2 _⟩
   split
   . rename_i hc
     exact ⟨h1 _ hc, h2 _⟩
   . simp
theorem qlk (f : Nat) : lexF f [] = some [] := by cases f <;> rfl
theorem qgo : ∀ (f g : Nat) (s : List UInt8), s.length <= f -> s.length <= g -> lexF f s = lexF g s
 | f, g, [], _, _ => by rw [qlk, qlk]
 | 0, _, c :: r, h, _ => by simp at h
 | _, 0, c :: r, _, h => by simp at h
 | f + 1, g + 1, c :: r, h1, h2 => by
   have hp := qbM (s := c :: r) (by simp)
   have e := qgo f g ((c :: r).drop (qak (c :: r)).2) (by rw [List.length_drop]; omega) (by rw [List.length_drop]; omega)
   unfold lexF
   rw [e]
theorem qii : lexL [] = some [] := rfl
theorem qcT {s : List UInt8} (h : s ≠ []) : lexL s = if (qak s).1 = 0 then lexL (s.drop (qak s).2) else match tokL (qak s).1 (s.take (qak s).2) with
     | none => none
     | some t => (lexL (s.drop (qak s).2)).map (t :: ·) := by
 have hp := qbM h
 cases hs : s.length with
 | zero => exact absurd (List.length_eq_zero_iff.1 hs) h
 | succ n =>
   have e : ∀ u : List UInt8, u.length <= n -> lexF n u = lexL u := fun u hu => qgo _ _ _ hu (Nat.le_refl _)
   have e2 : lexL s = lexF (n + 1) s := by unfold lexL; rw [hs]
   rw [e2, qnx, if_neg h, e _ (by rw [List.length_drop]; omega)]
/-! What follows behind a run. -/
theorem qdP {f : UInt8 -> Bool} {c : UInt8} (hf : f c = false) (b : List UInt8) : ∀ a, runL f (a ++ c :: b) = runL f a
 | [] => by simp [runL, hf]
 | x :: a => by
   have := qdP hf b a
   rw [List.cons_append]
   unfold runL
   rw [this]
theorem qkl (x : UInt8) (r : List UInt8) (c : UInt8) (b : List UInt8) (hc : c = 10 ∨ ((c = 32 ∨ c = 35) /\ x ≠ 35)) : qak (x :: r ++ c :: b) = qak (x :: r) := by
 have ha : qaA c = false := by rcases hc with rfl | ⟨rfl | rfl, _⟩ <;> decide
 have hd : qat c = false := by rcases hc with rfl | ⟨rfl | rfl, _⟩ <;> decide
 have h61 : c ≠ 61 := by rcases hc with rfl | ⟨rfl | rfl, _⟩ <;> decide
 have h62 : c ≠ 62 := by rcases hc with rfl | ⟨rfl | rfl, _⟩ <;> decide
 have e1 : x :: (r ++ c :: b) = (x :: r) ++ c :: b := rfl
 have p1 : ∀ u v : UInt8, c ≠ v -> hasP (x :: (r ++ c :: b)) [u, v] = hasP (x :: r) [u, v] := fun u v hv => by
   cases r with
   | nil =>
     have : (v == c) = false := by simpa using fun h => hv h.symm
     simp [hasP, Lib.hasPrefix, List.isPrefixOf, this]
   | cons y r => simp [hasP, Lib.hasPrefix, List.isPrefixOf]
 show qak (x :: (r ++ c :: b)) = _
 rw [qaD, qaD]
 by_cases hx : x = 35
 . rw [if_pos hx, if_pos hx, e1, qdP]
   rcases hc with rfl | ⟨_, h⟩
   . decide
   . exact absurd hx h
 . rw [if_neg hx, if_neg hx, p1 _ _ h61, p1 _ _ h62, e1, qdP ha, qdP hd]
theorem qiT (f : UInt8 -> Bool) : ∀ s, runL f (s.take (runL f s)) = runL f s
 | [] => rfl
 | c :: r => by
   have ih := qiT f r
   by_cases h : f c = true
   . have : runL f (c :: r) = runL f r + 1 := by rw [runL, if_pos h]
     rw [this, List.take_succ_cons, runL, if_pos h, ih]
   . have : runL f (c :: r) = 0 := by rw [runL, if_neg h]
     rw [this]; rfl
theorem qiU {s : List UInt8} (h : s ≠ []) (hk : (qak s).1 ≠ 0) : qak (s.take (qak s).2) = qak s := by
 cases s with
 | nil => exact absurd rfl h
 | cons c r =>
   have hp := qbM h
   obtain ⟨m, hm⟩ : ∃ m, (qak (c :: r)).2 = m + 1 := ⟨(qak (c :: r)).2 - 1, by omega⟩
   have ht : ∀ f, (qak (c :: r)).2 = runL f (c :: r) -> runL f (c :: r.take m) = runL f (c :: r) := fun f e => by
     have := qiT f (c :: r)
     rw [<- e, hm, List.take_succ_cons] at this
     rw [this, <- hm, e]
   rw [hm, List.take_succ_cons]
   revert hm ht hk hp
   rw [qaD, qaD]
   by_cases h1 : c = 35
   . rw [if_pos h1]; intro hk; exact absurd rfl hk
   rw [if_neg h1, if_neg h1]
   by_cases h2 : c = 32 ∨ c = 10
   . rw [if_pos h2]; intro hk; exact absurd rfl hk
   rw [if_neg h2, if_neg h2]
   by_cases h3 : c = 58 ∨ c = 61
   . rw [if_pos h3, if_pos h3]
     intro hk hp hm ht
     dsimp only at hm ⊢
     congr 1
     by_cases hp2 : (hasP (c :: r) [58, 61] || hasP (c :: r) [61, 62]) = true
     . rw [if_pos hp2] at hm ⊢
       obtain rfl : m = 1 := by omega
       rw [if_pos]
       cases r with
       | nil => simp [hasP, Lib.hasPrefix, List.isPrefixOf] at hp2
       | cons d r => simpa [hasP, Lib.hasPrefix, List.isPrefixOf] using hp2
     . rw [if_neg hp2] at hm ⊢
       obtain rfl : m = 0 := by omega
       rw [if_neg]
       simp [hasP, Lib.hasPrefix, List.isPrefixOf]
   rw [if_neg h3, if_neg h3]
   by_cases h4 : c ∈ qdm
   . rw [if_pos h4, if_pos h4]; intros; trivial
   rw [if_neg h4, if_neg h4]
   by_cases h5 : qas c = true
   . rw [if_pos h5, if_pos h5]
     intro hk hp hm ht
     rw [ht _ rfl]
   rw [if_neg h5, if_neg h5]
   by_cases h6 : qat c = true
   . rw [if_pos h6, if_pos h6]
     intro hk hp hm ht
     rw [ht _ rfl]
   . rw [if_neg h6, if_neg h6]; intros; trivial
theorem qgp {k : Int} {t : List UInt8} {x : Tok} (h : tokL k t = some x) : x.text = t := by
 unfold tokL at h
 split at h
 . cases h; rfl
 split at h
 . cases h; rfl
 split at h
 . unfold numL at h
   split at h
   . split at h
     . cases h; rfl
     . cases h
   . cases h
 . cases h
theorem qgq (t : List UInt8) : tokL 0 t = none := by unfold tokL; simp
theorem qaW {t : Tok} (h : qai t = true) : t.text ≠ [] /\ (qak t.text).2 = t.text.length /\ tokL (qak t.text).1 t.text = some t := by
 unfold qai at h
 simp only [Bool.and_eq_true, decide_eq_true_eq, Bool.not_eq_true', List.isEmpty_eq_false_iff] at h
 exact ⟨h.1.1, h.1.2, h.2⟩
theorem qem {t : Tok} (h1 : t.text ≠ []) (h2 : (qak t.text).2 = t.text.length) (h3 : tokL (qak t.text).1 t.text = some t) : qai t = true := by
 unfold qai
 simp only [Bool.and_eq_true, decide_eq_true_eq, Bool.not_eq_true', List.isEmpty_eq_false_iff]
 exact ⟨⟨h1, h2⟩, h3⟩
theorem qnz {s : List UInt8} (h : s ≠ []) {t : Tok} (ht : tokL (qak s).1 (s.take (qak s).2) = some t) : qai t = true := by
 have hk : (qak s).1 ≠ 0 := fun e => by rw [e, qgq] at ht; cases ht
 have hp := qbM h
 have e := qgp ht
 have hb := qiU h hk
 refine qem ?_ ?_ ?_
 . rw [e]; intro h0; have h9 : (s.take (qak s).2).length = 0 := by rw [h0]; rfl
   rw [List.length_take] at h9; omega
 . rw [e, hb, List.length_take]; omega
 . rw [e, hb]; exact ht
theorem qfb : ∀ (n : Nat) (s : List UInt8), s.length <= n -> ∀ l, lexL s = some l -> qao l = true
 | _, [], _, l, h => by rw [qii] at h; cases h; rfl
 | 0, _ :: _, hn, _, _ => by simp at hn
 | n + 1, c :: r, hn, l, h => by
   have hp := qbM (s := c :: r) (by simp)
   have hd : ((c :: r).drop (qak (c :: r)).2).length <= n := by rw [List.length_drop]; omega
   rw [qcT (by simp)] at h
   split at h
   . exact qfb n _ hd l h
   . split at h
     . cases h
     . rename_i t ht
       cases hl : lexL ((c :: r).drop (qak (c :: r)).2) with
       | none => rw [hl] at h; cases h
       | some l' =>
         rw [hl] at h
         cases h
         show (qai t && qao l') = true
         rw [qnz (by simp) ht, qfb n _ hd l' hl]; rfl
theorem qpJ {t : Tok} (h : qai t = true) (c : UInt8) (hc : c = 10 ∨ c = 32 ∨ c = 35) (b : List UInt8) : lexL (t.text ++ c :: b) = (lexL (c :: b)).map (t :: ·) := by
 obtain ⟨h1, h2, h3⟩ := qaW h
 cases hx : t.text with
 | nil => exact absurd hx h1
 | cons x r =>
   rw [hx] at h1 h2 h3
   have hk : (qak (x :: r)).1 ≠ 0 := fun e => by rw [e, qgq] at h3; cases h3
   have hx35 : x ≠ 35 := by
     rintro rfl
     apply hk
     rw [qaD]
     rw [if_pos rfl]
   have hb := qkl x r c b (by rcases hc with h | h | h <;> simp [h, hx35])
   rw [qcT (by simp), hb, if_neg hk, h2]
   have e1 : (x :: r ++ c :: b).take (x :: r).length = x :: r := List.take_left
   have e2 : (x :: r ++ c :: b).drop (x :: r).length = c :: b := List.drop_left
   rw [e1, e2, h3]
theorem qfc (c : UInt8) (hc : c = 10 ∨ c = 32) (b : List UInt8) : lexL (c :: b) = lexL b := by
 have e : qak (c :: b) = (0, 1) := by
   rw [qaD]
   rw [if_neg (by rcases hc with rfl | rfl <;> decide), if_pos (by rcases hc with rfl | rfl <;> decide)]
 rw [qcT (by simp), e]
 rfl
/-! Words. -/
theorem qhE (t : List UInt8) (h : isKey t = true) : qai ⟨3, t, 0⟩ = true := by
 have : ∀ k ∈ keys, qai ⟨3, k, 0⟩ = true := by decide +kernel
 unfold isKey at h
 rw [List.any_eq_true] at h
 obtain ⟨k, hk, e⟩ := h
 have e : k = t := by simpa using e
 subst e
 exact this k hk
theorem qgr {t : List UInt8} {x : Tok} (h : numL t = some x) : x.kind = 2 := by
 unfold numL at h
 split at h
 . split at h
   . cases h; rfl
   . cases h
 . cases h
theorem qnA (t : List UInt8) : qai ⟨3, t, 0⟩ = isKey t := by
 cases hk : isKey t with
 | true => exact qhE t hk
 | false =>
   cases hr : qai ⟨3, t, 0⟩ with
   | false => rfl
   | true =>
     obtain ⟨_, _, h3⟩ := qaW hr
     dsimp only at h3
     unfold tokL at h3
     rw [if_neg (by rw [hk]; simp)] at h3
     split at h3
     . rename_i hc
       have := congrArg (fun o : Option Tok => o.map (·.kind)) h3
       simp at this
       omega
     split at h3
     . have := qgr h3
       simp at this
     . cases h3
theorem qfW {f : UInt8 -> Bool} : ∀ {s : List UInt8}, s.all f = true -> runL f s = s.length
 | [], _ => rfl
 | c :: r, h => by
   rw [List.all_cons, Bool.and_eq_true] at h
   rw [runL, if_pos h.1, qfW h.2]; rfl
theorem qdr {t : List UInt8} (h : nameL t = true) : qak t = (1, t.length) /\ t ≠ [] /\ t.length <= 16 := by
 cases t with
 | nil => cases h
 | cons c r =>
   unfold nameL at h
   simp only [Bool.and_eq_true, decide_eq_true_eq] at h
   obtain ⟨⟨h1, h2⟩, h3⟩ := h
   refine ⟨?_, by simp, h1⟩
   have hne : ∀ d : UInt8, qas d = false -> c ≠ d := fun d hd e => by subst e; rw [h2] at hd; cases hd
   rw [qaD]
   rw [if_neg (hne 35 (by decide)), if_neg (by rintro (e | e); exact hne 32 (by decide) e; exact hne 10 (by decide) e), if_neg (by rintro (e | e); exact hne 58 (by decide) e; exact hne 61 (by decide) e), if_neg ?_, if_pos h2, qfW h3]
   intro hm
   have : ∀ d ∈ qdm, qas d = false := by decide
   exact absurd h2 (by rw [this c hm]; decide)
theorem qhF (t : List UInt8) : qai ⟨1, t, 0⟩ = (nameL t && !isKey t) := by
 cases hk : isKey t with
 | true =>
   cases hr : qai ⟨1, t, 0⟩ with
   | false => simp
   | true =>
     obtain ⟨_, _, h3⟩ := qaW hr
     have h4 := (qaW (qhE t hk)).2.2
     dsimp only at h3 h4
     rw [h3] at h4
     cases h4
 | false =>
   cases hn : nameL t with
   | true =>
     obtain ⟨e1, e2, _⟩ := qdr hn
     have : qai ⟨1, t, 0⟩ = true := qem e2 (by rw [e1]) (by rw [e1]; unfold tokL; dsimp only; rw [if_neg (by rw [hk]; simp), if_pos (.inl ⟨rfl, hn⟩)])
     rw [this]; rfl
   | false =>
     cases hr : qai ⟨1, t, 0⟩ with
     | false => rfl
     | true =>
       obtain ⟨_, _, h3⟩ := qaW hr
       dsimp only at h3
       unfold tokL at h3
       rw [if_neg (by rw [hk]; simp)] at h3
       split at h3
       . rename_i hc
         have := congrArg (fun o : Option Tok => o.map (·.kind)) h3
         rw [hn] at hc
         simp at this hc
         omega
       split at h3
       . have := qgr h3
         simp at this
       . cases h3
end Go.Lx
namespace Go.Lx
/-! Numbers. -/
def valL : Nat -> List UInt8 -> Nat
 | acc, [] => acc
 | acc, c :: r => valL (acc * 10 + (c.toNat - 48)) r
theorem qnB : ∀ (l : List UInt8) (acc : Nat), acc <= valL acc l
 | [], _ => Nat.le_refl _
 | c :: r, acc => by
   have := qnB r (acc * 10 + (c.toNat - 48))
   show acc <= valL (acc * 10 + (c.toNat - 48)) r
   omega
theorem qeg {c : UInt8} : qat c = true ↔ 48 <= c.toNat /\ c.toNat <= 57 := by unfold qat; rw [decide_eq_true_eq]
theorem qrf : ∀ (l : List UInt8) (acc : Nat), l.all qat = true -> acc <= 4294967295 -> Lib.parseUintM 4294967295 acc l = if valL acc l <= 4294967295 then .ok (valL acc l) else .range
 | [], acc, _, ha => by unfold Lib.parseUintM valL; rw [if_pos ha]
 | c :: r, acc, hd, ha => by
   rw [List.all_cons, Bool.and_eq_true] at hd
   have hc := qeg.1 hd.1
   unfold Lib.parseUintM
   rw [if_pos hc, if_neg (by omega)]
   show _ = if valL (acc * 10 + (c.toNat - 48)) r <= 4294967295 then _ else _
   by_cases h : 4294967295 < acc * 10 + (c.toNat - 48)
   . have := qnB r (acc * 10 + (c.toNat - 48))
     rw [if_pos h, if_neg (by omega)]
   . rw [if_neg h, qrf r _ hd.2 (by omega)]
     rfl
theorem qsA {c : UInt8} {r : List UInt8} (hd : (c :: r).all qat = true) : Lib.parseIntB 32 (c :: r) = if valL 0 (c :: r) < 2147483648 then .ok (valL 0 (c :: r) : Int) else .range := by
 have hc := qeg.1 (by rw [List.all_cons, Bool.and_eq_true] at hd; exact hd.1)
 have e0 : Lib.parseUintB 32 (c :: r) = if valL 0 (c :: r) <= 4294967295 then .ok (valL 0 (c :: r)) else .range := by
   unfold Lib.parseUintB
   rw [if_neg (by simp)]
   exact qrf (c :: r) 0 hd (by omega)
 unfold Lib.parseIntB
 dsimp only
 rw [if_neg (show ¬ (c.toNat = 43 ∨ c.toNat = 45) by omega), e0]
 have h45 : ¬ c.toNat = 45 := by omega
 generalize valL 0 (c :: r) = v
 have e : (2 : Nat) ^ (32 - 1) = 2147483648 := by decide
 by_cases h1 : v <= 4294967295
 . rw [if_pos h1]
   dsimp only
   rw [e]
   by_cases h2 : v < 2147483648
   . rw [if_neg (by omega), if_neg (by omega), if_pos h2, if_neg h45]
   . rw [if_pos (by omega), if_neg h2]
 . rw [if_neg h1, if_neg (by omega)]
theorem qfd : ∀ (k u : Nat), u < 10 ^ (k + 1) -> Lib.nDigits u <= k + 1
 | 0, u, h => by rw [Lib.nDigits_small (by omega)]; omega
 | k + 1, u, h => by
   rw [Lib.nDigits]
   split
   . omega
   . have : u / 10 < 10 ^ (k + 1) := by
       rw [Nat.div_lt_iff_lt_mul (by omega)]
       rw [Nat.pow_succ] at h
       exact h
     have := qfd k (u / 10) this
     omega
def qfJ (s : List UInt8) : Option Nat :=
 if 1 <= s.length /\ s.length <= 10 /\ s.all qat = true /\ valL 0 s < 2147483648 /\ Lib.decDigits (valL 0 s) = s then some (valL 0 s) else none
theorem qij {s : List UInt8} (hne : s ≠ []) (hd : s.all qat = true) : numL s = (qfJ s).map fun (n : Nat) => (⟨2, s, (n : Int)⟩ : Tok) := by
 cases s with
 | nil => exact absurd rfl hne
 | cons c r =>
   unfold numL qfJ
   rw [qsA hd]
   by_cases h1 : valL 0 (c :: r) < 2147483648
   . rw [if_pos h1]
     dsimp only
     have ei : Lib.itoa ((valL 0 (c :: r) : Nat) : Int) = Lib.decDigits (valL 0 (c :: r)) := by unfold Lib.itoa; rw [if_neg (by omega)]; simp
     rw [ei]
     by_cases h2 : Lib.decDigits (valL 0 (c :: r)) = c :: r
     . have h3 : (c :: r).length <= 10 := by
         rw [<- h2, Lib.decDigits_length]
         exact qfd 9 _ (by omega)
       rw [if_pos h2, if_pos ⟨by simp, h3, hd, h1, h2⟩]
       rfl
     . rw [if_neg h2, if_neg (fun h => h2 h.2.2.2.2)]
       rfl
   . rw [if_neg h1, if_neg (fun h => h1 h.2.2.2.1)]
     rfl
theorem qfU {c : UInt8} (h : qas c = true) : qat c = false := by
 unfold qas at h
 unfold qat
 rw [decide_eq_true_eq] at h
 rw [decide_eq_false_iff_not]
 omega
theorem qdn {c : UInt8} (h : qat c = true) : qas c = false := by
 cases hl : qas c with
 | false => rfl
 | true => rw [qfU hl] at h; cases h
theorem qik {c : UInt8} (h : qas c = true ∨ qat c = true) : c ≠ 35 /\ c ≠ 32 /\ c ≠ 10 /\ c ≠ 58 /\ c ≠ 61 /\ c ∉ qdm := by
 have key : ∀ d : UInt8, qas d = false -> qat d = false -> c ≠ d := fun d h1 h2 e => by
   subst e
   rcases h with h | h
   . rw [h1] at h; cases h
   . rw [h2] at h; cases h
 refine ⟨key _ (by decide) (by decide), key _ (by decide) (by decide), key _ (by decide) (by decide), key _ (by decide) (by decide), key _ (by decide) (by decide), fun hm => ?_⟩
 have : ∀ d ∈ qdm, qas d = false /\ qat d = false := by decide
 obtain ⟨h1, h2⟩ := this c hm
 exact key c h1 h2 rfl
def qgs : List (List UInt8) := [[61, 62], [58, 61], [40], [41], [59], [58], [61], [33], [43], [45], [42], [60], [46]]
/-! The document's 'right'. -/
def qfX (t : Tok) : Bool :=
 if t.kind = 1 then nameL t.text && !isKey t.text && decide (t.num = 0)
 else if t.kind = 2 then (match qfJ t.text with | some n => decide ((n : Int) = t.num) | none => false)
 else if t.kind = 3 then isKey t.text && decide (t.num = 0)
 else if t.kind = 4 then qgs.contains t.text && decide (t.num = 0)
 else false
theorem qcq {k : Int} {x : List UInt8} {t : Tok} (h : tokL k x = some t) :
   (t.kind = 3 /\ t.num = 0 /\ isKey x = true) ∨ (t.kind = k /\ t.num = 0 /\ (k = 1 /\ nameL x = true /\ isKey x = false ∨ k = 4)) ∨ (k = 2 /\ t.kind = 2 /\ numL x = some t) := by
 unfold tokL at h
 split at h
 . rename_i h1
   cases h; exact .inl ⟨rfl, rfl, h1.2⟩
 . rename_i h1
   split at h
   . rename_i h2
     cases h
     refine .inr (.inl ⟨rfl, rfl, ?_⟩)
     rcases h2 with h2 | h2
     . refine .inl ⟨h2.1, h2.2, ?_⟩
       cases hk : isKey x with
       | false => rfl
       | true => exact absurd ⟨h2.1, hk⟩ h1
     . exact .inr h2
   . split at h
     . rename_i h3
       exact .inr (.inr ⟨h3, qgr h, h⟩)
     . cases h
theorem qen {t : Tok} (h : ∀ k, tokL k t.text ≠ some t) : qai t = false := by
 cases hr : qai t with
 | false => rfl
 | true => exact absurd (qaW hr).2.2 (h _)
theorem qeo {f : UInt8 -> Bool} : ∀ {s : List UInt8}, runL f s = s.length -> s.all f = true
 | [], _ => rfl
 | c :: r, h => by
   unfold runL at h
   by_cases hc : f c = true
   . rw [if_pos hc] at h
     rw [List.all_cons, hc, qeo (s := r) (by simpa using h)]; rfl
   . rw [if_neg hc] at h; simp at h
theorem qkm {x : List UInt8} (hne : x ≠ []) (h : x.all qat = true) : qak x = (2, x.length) := by
 cases x with
 | nil => exact absurd rfl hne
 | cons c r =>
   have hd : qat c = true := by rw [List.all_cons, Bool.and_eq_true] at h; exact h.1
   obtain ⟨h1, h2, h3, h4, h5, h6⟩ := qik (c := c) (.inr hd)
   rw [qaD, if_neg h1, if_neg (by simp [h2, h3]), if_neg (by simp [h4, h5]), if_neg h6, if_neg (by rw [qdn hd]; simp), if_pos hd, qfW h]
theorem qiV {x : List UInt8} (hne : x ≠ []) (hl : (qak x).2 = x.length) : ((qak x).1 = 2 -> x.all qat = true) /\ ((qak x).1 = 4 -> x ∈ qgs) := by
 cases x with
 | nil => exact absurd rfl hne
 | cons c r =>
   revert hl
   rw [qaD]
   by_cases h1 : c = 35
   . rw [if_pos h1]; intro _; exact ⟨fun h => by dsimp only at h; omega, fun h => by dsimp only at h; omega⟩
   rw [if_neg h1]
   by_cases h2 : c = 32 ∨ c = 10
   . rw [if_pos h2]; intro _; exact ⟨fun h => by dsimp only at h; omega, fun h => by dsimp only at h; omega⟩
   rw [if_neg h2]
   by_cases h3 : c = 58 ∨ c = 61
   . rw [if_pos h3]
     intro hl
     refine ⟨fun h => by dsimp only at h; omega, fun _ => ?_⟩
     dsimp only at hl
     by_cases hp : (hasP (c :: r) [58, 61] || hasP (c :: r) [61, 62]) = true
     . rw [if_pos hp] at hl
       obtain ⟨d, rfl⟩ : ∃ d, r = [d] := by
         match r, hl with
         | [d], _ => exact ⟨d, rfl⟩
       simp [hasP, Lib.hasPrefix, List.isPrefixOf] at hp
       rcases hp with ⟨e1, e2⟩ | ⟨e1, e2⟩
       . rw [<- e1, <- e2]; decide
       . rw [<- e1, <- e2]; decide
     . rw [if_neg hp] at hl
       have : r = [] := by
         match r, hl with
         | [], _ => rfl
       subst this
       rcases h3 with rfl | rfl <;> decide
   rw [if_neg h3]
   by_cases h4 : c ∈ qdm
   . rw [if_pos h4]
     intro hl
     refine ⟨fun h => by dsimp only at h; omega, fun _ => ?_⟩
     have : r = [] := by
       match r, hl with
       | [], _ => rfl
     subst this
     have hall : ∀ d ∈ qdm, [d] ∈ qgs := by decide
     exact hall c h4
   rw [if_neg h4]
   by_cases h5 : qas c = true
   . rw [if_pos h5]; intro _; exact ⟨fun h => absurd h (show ¬ ((1 : Int) = 2) by decide), fun h => absurd h (show ¬ ((1 : Int) = 4) by decide)⟩
   rw [if_neg h5]
   by_cases h6 : qat c = true
   . rw [if_pos h6]; intro hl; exact ⟨fun _ => qeo hl, fun h => absurd h (show ¬ ((2 : Int) = 4) by decide)⟩
   . rw [if_neg h6]; intro _; exact ⟨fun h => by dsimp only at h; omega, fun h => by dsimp only at h; omega⟩
theorem qiW (t : Tok) : qfX t = qai t := by
 obtain ⟨k, x, n⟩ := t
 unfold qfX
 dsimp only
 by_cases k1 : k = 1
 . subst k1
   rw [if_pos rfl]
   by_cases hn : n = 0
   . subst hn; rw [qhF]; simp
   . rw [qen fun k h => ?_]
     . simp [hn]
     . rcases qcq h with ⟨h1, _⟩ | ⟨_, h2, _⟩ | ⟨_, h1, _⟩
       . dsimp only at h1; omega
       . exact hn h2
       . dsimp only at h1; omega
 rw [if_neg k1]
 by_cases k2 : k = 2
 . subst k2
   rw [if_pos rfl]
   cases hr : qai ⟨2, x, n⟩ with
   | true =>
     obtain ⟨h1, h2, h3⟩ := qaW hr
     dsimp only at h1 h2 h3
     rcases qcq h3 with ⟨g, _⟩ | ⟨g, _, g2⟩ | ⟨g, _, g3⟩
     . dsimp only at g; omega
     . dsimp only at g
       rcases g2 with g2 | g2 <;> omega
     . have hd := (qiV h1 h2).1 g
       rw [qij h1 hd] at g3
       cases hm : qfJ x with
       | none => rw [hm] at g3; cases g3
       | some m =>
         rw [hm] at g3
         have : ((m : Nat) : Int) = n := by
           have := congrArg (fun o : Option Tok => o.map (·.num)) g3
           simpa using this
         exact decide_eq_true this
   | false =>
     cases hm : qfJ x with
     | none => rfl
     | some m =>
       dsimp only
       rw [decide_eq_false_iff_not]
       intro e
       have hm2 := hm
       unfold qfJ at hm2
       split at hm2
       . rename_i hc
         have hne : x ≠ [] := fun e => by subst e; simp at hc
         have hh := qkm hne hc.2.2.1
         have : qai ⟨2, x, n⟩ = true := qem hne (by rw [hh]) (by
           rw [hh]
           dsimp only
           unfold tokL
           rw [if_neg (by simp), if_neg (by simp), if_pos rfl, qij hne hc.2.2.1, hm, Option.map_some, e])
         rw [this] at hr
         cases hr
       . cases hm2
 rw [if_neg k2]
 by_cases k3 : k = 3
 . subst k3
   rw [if_pos rfl]
   by_cases hn : n = 0
   . subst hn; rw [qnA]; simp
   . rw [qen fun k h => ?_]
     . simp [hn]
     . rcases qcq h with ⟨_, h2, _⟩ | ⟨_, h2, _⟩ | ⟨_, h1, _⟩
       . exact hn h2
       . exact hn h2
       . dsimp only at h1; omega
 rw [if_neg k3]
 by_cases k4 : k = 4
 . subst k4
   rw [if_pos rfl]
   by_cases hn : n = 0
   . subst hn
     rw [decide_eq_true rfl, Bool.and_true]
     cases hc : qgs.contains x with
     | true =>
       have hx : x ∈ qgs := by simpa using hc
       have hall : ∀ m ∈ qgs, qai ⟨4, m, 0⟩ = true := by decide +kernel
       exact (hall x hx).symm
     | false =>
       cases hr : qai ⟨4, x, 0⟩ with
       | false => rfl
       | true =>
         obtain ⟨h1, h2, h3⟩ := qaW hr
         dsimp only at h1 h2 h3
         rcases qcq h3 with ⟨g, _⟩ | ⟨g, _, _⟩ | ⟨_, g, _⟩
         . dsimp only at g; omega
         . have hx := (qiV h1 h2).2 g.symm
           have : qgs.contains x = true := by simpa using hx
           rw [hc] at this
           cases this
         . dsimp only at g; omega
   . rw [qen fun k h => ?_]
     . simp [hn]
     . rcases qcq h with ⟨_, h2, _⟩ | ⟨_, h2, _⟩ | ⟨_, h1, _⟩
       . exact hn h2
       . exact hn h2
       . dsimp only at h1; omega
 rw [if_neg k4, qen fun j h => ?_]
 rcases qcq h with ⟨g, _⟩ | ⟨g, _, g2⟩ | ⟨_, g, _⟩
 . exact k3 g
 . dsimp only at g
   rcases g2 with g2 | g2 <;> omega
 . exact k2 g
end Go.Lx
