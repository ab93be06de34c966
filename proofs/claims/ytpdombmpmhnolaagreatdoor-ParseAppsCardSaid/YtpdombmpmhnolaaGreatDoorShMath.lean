/-
  What is shown of a term that is right, by its tree: its tokens; they are right, and few. No condition.
  What is shown of unlike terms is unlike; parentheses close what they open; how many there are of each keyword. No condition.
  Parentheses close what they open; how many tokens have a keyword's text. No condition.
-/
import Derived.Test.YtpdombmpmhnolaaGreatDoorTmRight
import Derived.Test.YtpdombmpmhnolaaGreatDoorLxMath
namespace Go.Proofs.YtpdombmpmhnolaaGreatDoor
open Go.RowKit Go.Shelf Go.Tm Go.Lx

def wordB (s : ByteArray) : Bool := nameB s && !isKey s.data.toList
/-- terms that are right in themselves -/
inductive Rt : Go.Tm.T → Prop
  | num (n : Int) (h0 : 0 ≤ n) (h1 : n ≤ 2147483647) : Rt (.node 1 ⟨#[]⟩ n [])
  | var (s : ByteArray) (h : wordB s = true) : Rt (.node 2 s 0 [])
  | fn (s : ByteArray) (a : Go.Tm.T) (h : wordB s = true) (ha : Rt a) : Rt (.node 3 s 0 [a])
  | app (a b : Go.Tm.T) (ha : Rt a) (hb : Rt b) : Rt (.node 4 ⟨#[]⟩ 0 [a, b])
  | lt (s : ByteArray) (a b : Go.Tm.T) (h : wordB s = true) (ha : Rt a) (hb : Rt b) : Rt (.node 5 s 0 [a, b])
  | cond (a b c : Go.Tm.T) (ha : Rt a) (hb : Rt b) (hc : Rt c) : Rt (.node 6 ⟨#[]⟩ 0 [a, b, c])
  | loop (a b : Go.Tm.T) (ha : Rt a) (hb : Rt b) : Rt (.node 7 ⟨#[]⟩ 0 [a, b])
  | raise (a : Go.Tm.T) (ha : Rt a) : Rt (.node 8 ⟨#[]⟩ 0 [a])
  | tri (s : ByteArray) (a b : Go.Tm.T) (h : wordB s = true) (ha : Rt a) (hb : Rt b) : Rt (.node 9 s 0 [a, b])
  | get (a : Go.Tm.T) (ha : Rt a) : Rt (.node 10 ⟨#[]⟩ 0 [a])
  | put (a b : Go.Tm.T) (ha : Rt a) (hb : Rt b) : Rt (.node 11 ⟨#[]⟩ 0 [a, b])
  | op (s : ByteArray) (a b : Go.Tm.T) (h : opB s.data.toList = true) (ha : Rt a) (hb : Rt b) : Rt (.node 12 s 0 [a, b])
  | sq (a b : Go.Tm.T) (ha : Rt a) (hb : Rt b) : Rt (.node 13 ⟨#[]⟩ 0 [a, b])

theorem empty_of {s : ByteArray} (h : (s.size == 0) = true) : s = ⟨#[]⟩ := by
  have h : s.size = 0 := by simpa using h
  cases s with
  | mk d =>
    have : d.size = 0 := h
    rw [Array.eq_empty_of_size_eq_zero this]
theorem kids_0 {ks : List Go.Tm.T} (h : (ks.length == 0) = true) : ks = [] := List.eq_nil_of_length_eq_zero (by simpa using h)
theorem kids_1 {ks : List Go.Tm.T} (h : (ks.length == 1) = true) : ∃ a, ks = [a] := by
  match ks, h with
  | [a], _ => exact ⟨a, rfl⟩
theorem kids_2 {ks : List Go.Tm.T} (h : (ks.length == 2) = true) : ∃ a b, ks = [a, b] := by
  match ks, h with
  | [a, b], _ => exact ⟨a, b, rfl⟩
theorem kids_3 {ks : List Go.Tm.T} (h : (ks.length == 3) = true) : ∃ a b c, ks = [a, b, c] := by
  match ks, h with
  | [a, b, c], _ => exact ⟨a, b, c, rfl⟩
theorem nodesTs_mem : ∀ {ks : List Go.Tm.T}, nodesTs ks = true → ∀ u ∈ ks, nodesT u = true
  | [], _, u, hu => by cases hu
  | t :: ts, h, u, hu => by
    rw [nodesTs, Bool.and_eq_true] at h
    rcases List.mem_cons.1 hu with rfl | hu
    · exact h.1
    · exact nodesTs_mem h.2 u hu
theorem size_mem : ∀ {ks : List Go.Tm.T} {u : Go.Tm.T}, u ∈ ks → u.size ≤ sizes ks
  | [], u, hu => by cases hu
  | t :: ts, u, hu => by
    rw [sizes]
    rcases List.mem_cons.1 hu with rfl | hu
    · omega
    · have := size_mem hu; omega
theorem rt_of : ∀ (n : Nat) (t : Go.Tm.T), t.size ≤ n → nodesT t = true → Rt t
  | 0, t, h, _ => by have := size_pos t; omega
  | n + 1, .node k s num ks, hn, h => by
    rw [nodesT, Bool.and_eq_true] at h
    rw [T.size] at hn
    have IH : ∀ u ∈ ks, Rt u := fun u hu => rt_of n u (by have := size_mem hu; omega) (nodesTs_mem h.2 u hu)
    obtain ⟨hb, _⟩ := h
    unfold nodeB at hb
    rw [Bool.and_eq_true, Bool.and_eq_true, Bool.and_eq_true, decide_eq_true_eq, decide_eq_true_eq] at hb
    obtain ⟨⟨⟨h1, h2⟩, h3⟩, h4⟩ := hb
    have h1 : 1 ≤ k := h1
    have h2 : k ≤ 13 := h2
    have h3 : (ks.length == kidsTab.getD k.toNat 0) = true := h3
    unfold fieldsB at h4
    have e1 : (T.node k s num ks).kind = k := rfl
    have e2 : (T.node k s num ks).name = s := rfl
    have e3 : (T.node k s num ks).num = num := rfl
    rw [e1, e2, e3] at h4
    obtain rfl | rfl | rfl | rfl | rfl | rfl | rfl | rfl | rfl | rfl | rfl | rfl | rfl : k = 1 ∨ k = 2 ∨ k = 3 ∨ k = 4 ∨ k = 5 ∨ k = 6 ∨ k = 7 ∨ k = 8 ∨ k = 9 ∨ k = 10 ∨ k = 11 ∨ k = 12 ∨ k = 13 := by omega
    · obtain rfl := kids_0 h3
      rw [if_pos rfl, Bool.and_eq_true, Bool.and_eq_true, decide_eq_true_eq, decide_eq_true_eq] at h4
      obtain ⟨⟨g1, g2⟩, g3⟩ := h4
      obtain rfl := empty_of g1
      exact .num num g2 g3
    · obtain rfl := kids_0 h3
      rw [if_neg (by decide), if_pos (by decide), Bool.and_eq_true, Bool.and_eq_true, beq_iff_eq] at h4
      obtain ⟨⟨rfl, g2⟩, g3⟩ := h4
      exact .var s (by unfold wordB; rw [g2, g3]; rfl)
    · obtain ⟨a, rfl⟩ := kids_1 h3
      rw [if_neg (by decide), if_pos (by decide), Bool.and_eq_true, Bool.and_eq_true, beq_iff_eq] at h4
      obtain ⟨⟨rfl, g2⟩, g3⟩ := h4
      exact .fn s a (by unfold wordB; rw [g2, g3]; rfl) (IH _ (by simp))
    · obtain ⟨a, b, rfl⟩ := kids_2 h3
      rw [if_neg (by decide), if_neg (by decide), if_neg (by decide), Bool.and_eq_true, beq_iff_eq] at h4
      obtain ⟨rfl, g2⟩ := h4
      obtain rfl := empty_of g2
      exact .app a b (IH _ (by simp)) (IH _ (by simp))
    · obtain ⟨a, b, rfl⟩ := kids_2 h3
      rw [if_neg (by decide), if_pos (by decide), Bool.and_eq_true, Bool.and_eq_true, beq_iff_eq] at h4
      obtain ⟨⟨rfl, g2⟩, g3⟩ := h4
      exact .lt s a b (by unfold wordB; rw [g2, g3]; rfl) (IH _ (by simp)) (IH _ (by simp))
    · obtain ⟨a, b, c, rfl⟩ := kids_3 h3
      rw [if_neg (by decide), if_neg (by decide), if_neg (by decide), Bool.and_eq_true, beq_iff_eq] at h4
      obtain ⟨rfl, g2⟩ := h4
      obtain rfl := empty_of g2
      exact .cond a b c (IH _ (by simp)) (IH _ (by simp)) (IH _ (by simp))
    · obtain ⟨a, b, rfl⟩ := kids_2 h3
      rw [if_neg (by decide), if_neg (by decide), if_neg (by decide), Bool.and_eq_true, beq_iff_eq] at h4
      obtain ⟨rfl, g2⟩ := h4
      obtain rfl := empty_of g2
      exact .loop a b (IH _ (by simp)) (IH _ (by simp))
    · obtain ⟨a, rfl⟩ := kids_1 h3
      rw [if_neg (by decide), if_neg (by decide), if_neg (by decide), Bool.and_eq_true, beq_iff_eq] at h4
      obtain ⟨rfl, g2⟩ := h4
      obtain rfl := empty_of g2
      exact .raise a (IH _ (by simp))
    · obtain ⟨a, b, rfl⟩ := kids_2 h3
      rw [if_neg (by decide), if_pos (by decide), Bool.and_eq_true, Bool.and_eq_true, beq_iff_eq] at h4
      obtain ⟨⟨rfl, g2⟩, g3⟩ := h4
      exact .tri s a b (by unfold wordB; rw [g2, g3]; rfl) (IH _ (by simp)) (IH _ (by simp))
    · obtain ⟨a, rfl⟩ := kids_1 h3
      rw [if_neg (by decide), if_neg (by decide), if_neg (by decide), Bool.and_eq_true, beq_iff_eq] at h4
      obtain ⟨rfl, g2⟩ := h4
      obtain rfl := empty_of g2
      exact .get a (IH _ (by simp))
    · obtain ⟨a, b, rfl⟩ := kids_2 h3
      rw [if_neg (by decide), if_neg (by decide), if_neg (by decide), Bool.and_eq_true, beq_iff_eq] at h4
      obtain ⟨rfl, g2⟩ := h4
      obtain rfl := empty_of g2
      exact .put a b (IH _ (by simp)) (IH _ (by simp))
    · obtain ⟨a, b, rfl⟩ := kids_2 h3
      rw [if_neg (by decide), if_neg (by decide), if_pos (by decide), Bool.and_eq_true, beq_iff_eq] at h4
      obtain ⟨rfl, g2⟩ := h4
      exact .op s a b g2 (IH _ (by simp)) (IH _ (by simp))
    · obtain ⟨a, b, rfl⟩ := kids_2 h3
      rw [if_neg (by decide), if_neg (by decide), if_neg (by decide), Bool.and_eq_true, beq_iff_eq] at h4
      obtain ⟨rfl, g2⟩ := h4
      obtain rfl := empty_of g2
      exact .sq a b (IH _ (by simp)) (IH _ (by simp))
theorem wordB_iff {s : ByteArray} : wordB s = true ↔ nameB s = true ∧ isKey s.data.toList = false := by
  unfold wordB
  rw [Bool.and_eq_true]
  cases isKey s.data.toList <;> simp
theorem rt_nodes {t : Go.Tm.T} (h : Rt t) : nodesT t = true := by
  induction h with
  | num n h0 h1 => simp [nodesT, nodesTs, nodeB, fieldsB, T.kind, T.name, T.num, T.kids, kidsTab, h0, h1, ByteArray.size]
  | var s h => obtain ⟨h1, h2⟩ := wordB_iff.1 h; simp [nodesT, nodesTs, nodeB, fieldsB, T.kind, T.name, T.num, T.kids, kidsTab, wordK, h1, h2]
  | fn s a h ha ia => obtain ⟨h1, h2⟩ := wordB_iff.1 h; simp [nodesT, nodesTs, nodeB, fieldsB, T.kind, T.name, T.num, T.kids, kidsTab, wordK, h1, h2, ia]
  | app a b ha hb ia ib => simp [nodesT, nodesTs, nodeB, fieldsB, T.kind, T.name, T.num, T.kids, kidsTab, wordK, ia, ib, ByteArray.size]
  | lt s a b h ha hb ia ib => obtain ⟨h1, h2⟩ := wordB_iff.1 h; simp [nodesT, nodesTs, nodeB, fieldsB, T.kind, T.name, T.num, T.kids, kidsTab, wordK, h1, h2, ia, ib]
  | cond a b c ha hb hc ia ib ic => simp [nodesT, nodesTs, nodeB, fieldsB, T.kind, T.name, T.num, T.kids, kidsTab, wordK, ia, ib, ic, ByteArray.size]
  | loop a b ha hb ia ib => simp [nodesT, nodesTs, nodeB, fieldsB, T.kind, T.name, T.num, T.kids, kidsTab, wordK, ia, ib, ByteArray.size]
  | raise a ha ia => simp [nodesT, nodesTs, nodeB, fieldsB, T.kind, T.name, T.num, T.kids, kidsTab, wordK, ia, ByteArray.size]
  | tri s a b h ha hb ia ib => obtain ⟨h1, h2⟩ := wordB_iff.1 h; simp [nodesT, nodesTs, nodeB, fieldsB, T.kind, T.name, T.num, T.kids, kidsTab, wordK, h1, h2, ia, ib]
  | get a ha ia => simp [nodesT, nodesTs, nodeB, fieldsB, T.kind, T.name, T.num, T.kids, kidsTab, wordK, ia, ByteArray.size]
  | put a b ha hb ia ib => simp [nodesT, nodesTs, nodeB, fieldsB, T.kind, T.name, T.num, T.kids, kidsTab, wordK, ia, ib, ByteArray.size]
  | op s a b h ha hb ia ib => simp [nodesT, nodesTs, nodeB, fieldsB, T.kind, T.name, T.num, T.kids, kidsTab, wordK, h, ia, ib]
  | sq a b ha hb ia ib => simp [nodesT, nodesTs, nodeB, fieldsB, T.kind, T.name, T.num, T.kids, kidsTab, wordK, ia, ib, ByteArray.size]

/-! the tokens -/
def kTok (t : List UInt8) : Tok := ⟨3, t, 0⟩
def mTok (t : List UInt8) : Tok := ⟨4, t, 0⟩
def nTok (t : List UInt8) : Tok := ⟨1, t, 0⟩
def dTok (n : Int) : Tok := ⟨2, Lib.itoa n, n⟩
def leafK (k : Int) : Bool := k == 1 || k == 2
def wrapK (k : Int) (l : List Tok) : List Tok := if leafK k = true then l else mTok [40] :: (l ++ [mTok [41]])
/-- what a term is laid of: tokens of its own, and its kids -/
def partsK (k : Int) (s : List UInt8) (n : Int) : List (Tok ⊕ Nat) :=
  if k = 1 then [.inl (dTok n)]
  else if k = 2 then [.inl (nTok s)]
  else if k = 3 then [.inl (kTok [102, 117, 110]), .inl (nTok s), .inl (mTok [61, 62]), .inr 0]
  else if k = 4 then [.inr 0, .inr 1]
  else if k = 5 then [.inl (kTok [108, 101, 116]), .inl (nTok s), .inl (mTok [61]), .inr 0, .inl (kTok [105, 110]), .inr 1]
  else if k = 6 then [.inl (kTok [105, 102]), .inr 0, .inl (kTok [116, 104, 101, 110]), .inr 1, .inl (kTok [101, 108, 115, 101]), .inr 2]
  else if k = 7 then [.inl (kTok [119, 104, 105, 108, 101]), .inr 0, .inl (kTok [100, 111]), .inr 1]
  else if k = 8 then [.inl (kTok [114, 97, 105, 115, 101]), .inr 0]
  else if k = 9 then [.inl (kTok [116, 114, 121]), .inr 0, .inl (kTok [119, 105, 116, 104]), .inl (nTok s), .inl (mTok [61, 62]), .inr 1]
  else if k = 10 then [.inl (mTok [33]), .inr 0]
  else if k = 11 then [.inr 0, .inl (mTok [58, 61]), .inr 1]
  else if k = 12 then [.inr 0, .inl (mTok s), .inr 1]
  else if k = 13 then [.inr 0, .inl (mTok [59]), .inr 1]
  else []
def layP (K : List (List Tok)) : Tok ⊕ Nat → List Tok
  | .inl x => [x]
  | .inr i => K.getD i []
mutual
def toksT : Go.Tm.T → List Tok
  | .node k s n ks => (partsK k s.data.toList n).flatMap (layP (kidToks ks))
def kidToks : List Go.Tm.T → List (List Tok)
  | [] => []
  | t :: ts => wrapK t.kind (toksT t) :: kidToks ts
end
def kidT (t : Go.Tm.T) : List Tok := wrapK t.kind (toksT t)
theorem kidToks_eq : ∀ ks : List Go.Tm.T, kidToks ks = ks.map kidT
  | [] => by rw [kidToks]; rfl
  | t :: ts => by rw [kidToks, kidToks_eq ts]; rfl
theorem toks_1 (s n ks) : toksT (.node 1 s n ks) = [dTok n] := by rw [toksT]; rfl
theorem toks_2 (s n ks) : toksT (.node 2 s n ks) = [nTok s.data.toList] := by rw [toksT]; rfl
theorem toks_3 (s n a) : toksT (.node 3 s n [a]) = kTok [102, 117, 110] :: nTok s.data.toList :: mTok [61, 62] :: kidT a := by
  rw [toksT, kidToks_eq]; simp [partsK, layP]
theorem toks_4 (s n a b) : toksT (.node 4 s n [a, b]) = kidT a ++ kidT b := by
  rw [toksT, kidToks_eq]; simp [partsK, layP]
theorem toks_5 (s n a b) : toksT (.node 5 s n [a, b]) = kTok [108, 101, 116] :: nTok s.data.toList :: mTok [61] :: (kidT a ++ kTok [105, 110] :: kidT b) := by
  rw [toksT, kidToks_eq]; simp [partsK, layP]
theorem toks_6 (s n a b c) : toksT (.node 6 s n [a, b, c]) = kTok [105, 102] :: (kidT a ++ kTok [116, 104, 101, 110] :: (kidT b ++ kTok [101, 108, 115, 101] :: kidT c)) := by
  rw [toksT, kidToks_eq]; simp [partsK, layP]
theorem toks_7 (s n a b) : toksT (.node 7 s n [a, b]) = kTok [119, 104, 105, 108, 101] :: (kidT a ++ kTok [100, 111] :: kidT b) := by
  rw [toksT, kidToks_eq]; simp [partsK, layP]
theorem toks_8 (s n a) : toksT (.node 8 s n [a]) = kTok [114, 97, 105, 115, 101] :: kidT a := by
  rw [toksT, kidToks_eq]; simp [partsK, layP]
theorem toks_9 (s n a b) : toksT (.node 9 s n [a, b]) = kTok [116, 114, 121] :: (kidT a ++ kTok [119, 105, 116, 104] :: nTok s.data.toList :: mTok [61, 62] :: kidT b) := by
  rw [toksT, kidToks_eq]; simp [partsK, layP]
theorem toks_10 (s n a) : toksT (.node 10 s n [a]) = mTok [33] :: kidT a := by
  rw [toksT, kidToks_eq]; simp [partsK, layP]
theorem toks_11 (s n a b) : toksT (.node 11 s n [a, b]) = kidT a ++ mTok [58, 61] :: kidT b := by
  rw [toksT, kidToks_eq]; simp [partsK, layP]
theorem toks_12 (s n a b) : toksT (.node 12 s n [a, b]) = kidT a ++ mTok s.data.toList :: kidT b := by
  rw [toksT, kidToks_eq]; simp [partsK, layP]
theorem toks_13 (s n a b) : toksT (.node 13 s n [a, b]) = kidT a ++ mTok [59] :: kidT b := by
  rw [toksT, kidToks_eq]; simp [partsK, layP]

/-! all are right, and short -/
theorem digit_of (d : Nat) (h : d < 10) : isDigit (UInt8.ofNat (48 + d)) = true ∧ (UInt8.ofNat (48 + d)).toNat - 48 = d := by
  have : ∀ i : Fin 10, isDigit (UInt8.ofNat (48 + i.val)) = true ∧ (UInt8.ofNat (48 + i.val)).toNat - 48 = i.val := by decide
  exact this ⟨d, h⟩
theorem valL_app : ∀ (a b : List UInt8) (acc : Nat), valL acc (a ++ b) = valL (valL acc a) b
  | [], _, _ => rfl
  | _ :: a, b, _ => valL_app a b _
theorem dec_all (u : Nat) : (Lib.decDigits u).all isDigit = true ∧ valL 0 (Lib.decDigits u) = u := by
  induction u using Nat.strongRecOn with
  | _ u ih =>
    rw [Lib.decDigits]
    split
    · rename_i h
      have := digit_of u h
      refine ⟨by rw [List.all_cons, this.1]; rfl, ?_⟩
      show 0 * 10 + ((UInt8.ofNat (48 + u)).toNat - 48) = u
      rw [this.2]; omega
    · rename_i h
      obtain ⟨h1, h2⟩ := ih (u / 10) (by omega)
      have := digit_of (u % 10) (by omega)
      refine ⟨by rw [List.all_append, h1, List.all_cons, this.1]; rfl, ?_⟩
      rw [valL_app, h2]
      show u / 10 * 10 + ((UInt8.ofNat (48 + u % 10)).toNat - 48) = u
      rw [this.2]; omega
theorem itoa_dec {n : Int} (h : 0 ≤ n) : Lib.itoa n = Lib.decDigits n.toNat := by unfold Lib.itoa; rw [if_neg (by omega)]
theorem itoa_ne {n : Int} (h : 0 ≤ n) : Lib.itoa n ≠ [] := fun e => by
  have h1 := Lib.decDigits_length n.toNat
  rw [← itoa_dec h, e] at h1
  have := Lib.nDigits_pos n.toNat
  simp at h1; omega
theorem itoa_digits {n : Int} (h : 0 ≤ n) : (Lib.itoa n).all isDigit = true := by rw [itoa_dec h]; exact (dec_all _).1
theorem itoa_len {n : Int} (h : 0 ≤ n) (h2 : n ≤ 2147483647) : (Lib.itoa n).length ≤ 10 := by
  rw [itoa_dec h, Lib.decDigits_length]
  exact nDigits_le 9 _ (by omega)
theorem headRun_digit {t : List UInt8} (h : t.all isDigit = true) (hne : t ≠ []) : headRun t = (2, t.length) := by
  cases t with
  | nil => exact absurd rfl hne
  | cons c r =>
    have hc : isDigit c = true := by rw [List.all_cons, Bool.and_eq_true] at h; exact h.1
    have hl := digit_not_letter hc
    have hr := runL_all h
    have h48 := isDigit_iff.1 hc
    rw [headRun_cons, if_neg (fun e => by subst e; revert hc; decide), if_neg (fun e => by rcases e with rfl | rfl <;> revert hc <;> decide), if_neg (fun e => by rcases e with rfl | rfl <;> revert hc <;> decide), if_neg (fun e => by
      have : ∀ c ∈ marks1, isDigit c = false := by decide
      rw [this c e] at hc; cases hc), hl, if_neg (by decide), hc, if_pos rfl, hr]
theorem d_right {n : Int} (h : 0 ≤ n) (h2 : n ≤ 2147483647) : Go.Lx.rightT (dTok n) = true := by
  have hd := itoa_digits h
  have hne := itoa_ne h
  have hh := headRun_digit hd hne
  refine right_mk hne (by show (headRun (Lib.itoa n)).2 = _; rw [hh]; rfl) ?_
  show tokL (headRun (Lib.itoa n)).1 (Lib.itoa n) = _
  rw [hh]
  have e1 : tokL 2 (Lib.itoa n) = numL (Lib.itoa n) := by unfold tokL; rw [if_neg (by simp), if_neg (by simp), if_pos rfl]
  show tokL 2 (Lib.itoa n) = _
  rw [e1, numL_ref hne hd]
  have hv : valL 0 (Lib.itoa n) = n.toNat := by rw [itoa_dec h]; exact (dec_all _).2
  unfold refNum
  rw [if_pos ⟨by cases he : Lib.itoa n with
    | nil => exact absurd he hne
    | cons a b => simp, itoa_len h h2, hd, by rw [hv]; omega, by rw [hv, itoa_dec h]⟩, hv]
  show some (⟨2, Lib.itoa n, (n.toNat : Int)⟩ : Tok) = some ⟨2, Lib.itoa n, n⟩
  rw [Int.toNat_of_nonneg h]
theorem n_right {s : ByteArray} (h : wordB s = true) : Go.Lx.rightT (nTok s.data.toList) = true := by
  obtain ⟨h1, h2⟩ := wordB_iff.1 h
  have h1 : nameL s.data.toList = true := h1
  show Go.Lx.rightT ⟨1, s.data.toList, 0⟩ = true
  rw [name_right, h1, h2]; rfl
theorem op_cases {s : ByteArray} (h : opB s.data.toList = true) : s.data.toList = [43] ∨ s.data.toList = [45] ∨ s.data.toList = [42] ∨ s.data.toList = [60] ∨ s.data.toList = [61] := by
  unfold opB opL at h
  simp at h
  rcases h with h | h | h | h | h
  · exact .inl h.symm
  · exact .inr (.inl h.symm)
  · exact .inr (.inr (.inl h.symm))
  · exact .inr (.inr (.inr (.inl h.symm)))
  · exact .inr (.inr (.inr (.inr h.symm)))
/-- right, and of at most sixteen bytes -/
def okTok (x : Tok) : Bool := Go.Lx.rightT x && decide (x.text.length ≤ 16)
theorem ok_d {n : Int} (h : 0 ≤ n) (h2 : n ≤ 2147483647) : okTok (dTok n) = true := by
  unfold okTok
  rw [d_right h h2, Bool.true_and, decide_eq_true_eq]
  have := itoa_len h h2
  show (Lib.itoa n).length ≤ 16
  omega
theorem ok_n {s : ByteArray} (h : wordB s = true) : okTok (nTok s.data.toList) = true := by
  unfold okTok
  rw [n_right h, Bool.true_and, decide_eq_true_eq]
  obtain ⟨h1, h2⟩ := wordB_iff.1 h
  have h3 : nameL s.data.toList = true := h1
  exact (headRun_name h3).2.2
theorem ok_op {s : ByteArray} (h : opB s.data.toList = true) : okTok (mTok s.data.toList) = true := by
  rcases op_cases h with e | e | e | e | e <;> rw [e] <;> decide
theorem ok_wrap {k : Int} {l : List Tok} (h : l.all okTok = true) : (wrapK k l).all okTok = true := by
  unfold wrapK
  split
  · exact h
  · rw [List.all_cons, List.all_append, h]; decide
theorem kk (t : List UInt8) (h : okTok (kTok t) = true) : okTok (kTok t) = true := h
theorem toks_ok {t : Go.Tm.T} (h : Rt t) : (toksT t).all okTok = true := by
  have c1 : okTok (kTok [102, 117, 110]) = true := by decide
  have c2 : okTok (kTok [108, 101, 116]) = true := by decide
  have c3 : okTok (kTok [105, 110]) = true := by decide
  have c4 : okTok (kTok [105, 102]) = true := by decide
  have c5 : okTok (kTok [116, 104, 101, 110]) = true := by decide
  have c6 : okTok (kTok [101, 108, 115, 101]) = true := by decide
  have c7 : okTok (kTok [119, 104, 105, 108, 101]) = true := by decide
  have c8 : okTok (kTok [100, 111]) = true := by decide
  have c9 : okTok (kTok [114, 97, 105, 115, 101]) = true := by decide
  have c10 : okTok (kTok [116, 114, 121]) = true := by decide
  have c11 : okTok (kTok [119, 105, 116, 104]) = true := by decide
  have m1 : okTok (mTok [61, 62]) = true := by decide
  have m2 : okTok (mTok [61]) = true := by decide
  have m3 : okTok (mTok [33]) = true := by decide
  have m4 : okTok (mTok [58, 61]) = true := by decide
  have m5 : okTok (mTok [59]) = true := by decide
  have K : ∀ {a : Go.Tm.T}, (toksT a).all okTok = true → (kidT a).all okTok = true := fun h => ok_wrap h
  induction h with
  | num n h0 h1 => rw [toks_1]; simp only [List.all_cons, List.all_nil, ok_d h0 h1, Bool.and_self]
  | var s h => rw [toks_2]; simp only [List.all_cons, List.all_nil, ok_n h, Bool.and_self]
  | fn s a h ha ia => rw [toks_3]; simp only [List.all_cons, c1, m1, ok_n h, K ia, Bool.and_self]
  | app a b ha hb ia ib => rw [toks_4]; simp only [List.all_append, K ia, K ib, Bool.and_self]
  | lt s a b h ha hb ia ib => rw [toks_5]; simp only [List.all_cons, List.all_append, c2, c3, m2, ok_n h, K ia, K ib, Bool.and_self]
  | cond a b c ha hb hc ia ib ic => rw [toks_6]; simp only [List.all_cons, List.all_append, c4, c5, c6, K ia, K ib, K ic, Bool.and_self]
  | loop a b ha hb ia ib => rw [toks_7]; simp only [List.all_cons, List.all_append, c7, c8, K ia, K ib, Bool.and_self]
  | raise a ha ia => rw [toks_8]; simp only [List.all_cons, c9, K ia, Bool.and_self]
  | tri s a b h ha hb ia ib => rw [toks_9]; simp only [List.all_cons, List.all_append, c10, c11, m1, ok_n h, K ia, K ib, Bool.and_self]
  | get a ha ia => rw [toks_10]; simp only [List.all_cons, m3, K ia, Bool.and_self]
  | put a b ha hb ia ib => rw [toks_11]; simp only [List.all_cons, List.all_append, m4, K ia, K ib, Bool.and_self]
  | op s a b h ha hb ia ib => rw [toks_12]; simp only [List.all_cons, List.all_append, ok_op h, K ia, K ib, Bool.and_self]
  | sq a b ha hb ia ib => rw [toks_13]; simp only [List.all_cons, List.all_append, m5, K ia, K ib, Bool.and_self]
theorem toks_right {t : Go.Tm.T} (h : Rt t) : Go.Lx.rightL (toksT t) = true := by
  unfold Go.Lx.rightL
  rw [List.all_eq_true]
  intro x hx
  have := List.all_eq_true.1 (toks_ok h) x hx
  unfold okTok at this
  rw [Bool.and_eq_true] at this
  exact this.1
theorem toks_short {t : Go.Tm.T} (h : Rt t) : ∀ x ∈ toksT t, x.text.length ≤ 16 := fun x hx => by
  have := List.all_eq_true.1 (toks_ok h) x hx
  unfold okTok at this
  rw [Bool.and_eq_true, decide_eq_true_eq] at this
  exact this.2
theorem kid_len (t : Go.Tm.T) : (kidT t).length ≤ (toksT t).length + 2 := by
  unfold kidT wrapK
  split <;> simp
theorem toks_len {t : Go.Tm.T} (h : Rt t) : (toksT t).length + 2 ≤ 6 * t.size ∧ 1 ≤ (toksT t).length := by
  have K := kid_len
  have P : ∀ a : Go.Tm.T, 1 ≤ (toksT a).length → 1 ≤ (kidT a).length := fun a h => by
    unfold kidT wrapK
    split
    · exact h
    · simp
  induction h with
  | num n h0 h1 => rw [toks_1, T.size, sizes]; simp
  | var s h => rw [toks_2, T.size, sizes]; simp
  | fn s a h ha ia => have := K a; rw [toks_3, T.size, sizes, sizes]; simp; omega
  | app a b ha hb ia ib => have := K a; have := K b; have := P a ia.2; rw [toks_4, T.size, sizes, sizes, sizes]; simp; omega
  | lt s a b h ha hb ia ib => have := K a; have := K b; rw [toks_5, T.size, sizes, sizes, sizes]; simp; omega
  | cond a b c ha hb hc ia ib ic => have := K a; have := K b; have := K c; rw [toks_6, T.size, sizes, sizes, sizes, sizes]; simp; omega
  | loop a b ha hb ia ib => have := K a; have := K b; rw [toks_7, T.size, sizes, sizes, sizes]; simp; omega
  | raise a ha ia => have := K a; rw [toks_8, T.size, sizes, sizes]; simp; omega
  | tri s a b h ha hb ia ib => have := K a; have := K b; rw [toks_9, T.size, sizes, sizes, sizes]; simp; omega
  | get a ha ia => have := K a; rw [toks_10, T.size, sizes, sizes]; simp; omega
  | put a b ha hb ia ib => have := K a; have := K b; rw [toks_11, T.size, sizes, sizes, sizes]; simp; omega
  | op s a b h ha hb ia ib => have := K a; have := K b; rw [toks_12, T.size, sizes, sizes, sizes]; simp; omega
  | sq a b ha hb ia ib => have := K a; have := K b; rw [toks_13, T.size, sizes, sizes, sizes]; simp; omega
def printL (l : List Tok) : List UInt8 := Lib.join (l.map (·.text)) [32]
theorem print_len : ∀ (l : List Tok), (∀ x ∈ l, x.text.length ≤ 16) → (printL l).length ≤ 17 * l.length
  | [], _ => by unfold printL; rw [List.map_nil, Lib.join_nil]; simp
  | x :: l, h => by
    unfold printL
    rw [List.map_cons, Lib.join_cons, List.length_append]
    have h1 := h x (by simp)
    have h2 : ∀ l : List Tok, (∀ x ∈ l, x.text.length ≤ 16) → (Lib.joinTail [32] (l.map (·.text))).length ≤ 17 * l.length := fun l h => by
      unfold Lib.joinTail
      induction l with
      | nil => simp
      | cons y l ih =>
        have g1 := h y (by simp)
        have g2 := ih (fun x hx => h x (by simp [hx]))
        simp at g2 ⊢
        omega
    have := h2 l (fun x hx => h x (by simp [hx]))
    rw [List.length_cons]; omega
theorem show_len {t : Go.Tm.T} (h : Rt t) : (printL (toksT t)).length ≤ 102 * t.size := by
  have h1 := print_len _ (toks_short h)
  have h2 := (toks_len h).1
  omega
theorem print_inj {a b : List Tok} (ha : Go.Lx.rightL a = true) (hb : Go.Lx.rightL b = true) (h : printL a = printL b) : a = b := by
  have h1 := lexL_print a ha
  have h2 := lexL_print b hb
  unfold printL at h
  rw [h, h2] at h1
  injection h1 with h1
  exact h1.symm
end Go.Proofs.YtpdombmpmhnolaaGreatDoor
namespace Go.Proofs.YtpdombmpmhnolaaGreatDoor
open Go.RowKit Go.Shelf Go.Tm Go.Lx

theorem letter_first {s : ByteArray} (h : wordB s = true) : ∃ c r, s.data.toList = c :: r ∧ isLetter c = true := by
  obtain ⟨h1, h2⟩ := wordB_iff.1 h
  have h3 : nameL s.data.toList = true := h1
  cases hs : s.data.toList with
  | nil => rw [hs] at h3; cases h3
  | cons c r =>
    rw [hs] at h3
    unfold nameL at h3
    rw [Bool.and_eq_true, Bool.and_eq_true] at h3
    exact ⟨c, r, rfl, h3.1.2⟩
theorem digit_first {n : Int} (h : 0 ≤ n) : ∃ c r, Lib.itoa n = c :: r ∧ isDigit c = true := by
  have h1 := itoa_digits h
  have h2 := itoa_ne h
  cases hs : Lib.itoa n with
  | nil => exact absurd hs h2
  | cons c r =>
    rw [hs, List.all_cons, Bool.and_eq_true] at h1
    exact ⟨c, r, rfl, h1.1⟩

/-! what a parenthesis closes -/
def isO (x : Tok) : Bool := x == mTok [40]
def isC (x : Tok) : Bool := x == mTok [41]
def cut : Nat → List Tok → List Tok × List Tok
  | _, [] => ([], [])
  | d, x :: l => if isO x = true then (x :: (cut (d + 1) l).1, (cut (d + 1) l).2)
    else if isC x = true then (match d with | 0 => ([], l) | d + 1 => (x :: (cut d l).1, (cut d l).2))
    else (x :: (cut d l).1, (cut d l).2)
theorem cut_cons (d : Nat) (x : Tok) (l : List Tok) : cut d (x :: l) = if isO x = true then (x :: (cut (d + 1) l).1, (cut (d + 1) l).2)
    else if isC x = true then (match d with | 0 => ([], l) | d + 1 => (x :: (cut d l).1, (cut d l).2))
    else (x :: (cut d l).1, (cut d l).2) := by cases d <;> rfl
def Bal (B : List Tok) : Prop := ∀ d l, cut d (B ++ l) = (B ++ (cut d l).1, (cut d l).2)
theorem bal_nil : Bal [] := fun _ _ => rfl
theorem bal_app {A B : List Tok} (ha : Bal A) (hb : Bal B) : Bal (A ++ B) := fun d l => by
  rw [List.append_assoc, ha d (B ++ l), hb d l, List.append_assoc]
theorem bal_one {x : Tok} (h1 : isO x = false) (h2 : isC x = false) : Bal [x] := fun d l => by
  show cut d (x :: l) = _
  rw [cut_cons, if_neg (by rw [h1]; decide), if_neg (by rw [h2]; decide)]; rfl
theorem bal_cons {x : Tok} {B : List Tok} (h1 : isO x = false) (h2 : isC x = false) (hb : Bal B) : Bal (x :: B) := bal_app (bal_one h1 h2) hb
theorem bal_wrap {B : List Tok} (hb : Bal B) : Bal (mTok [40] :: (B ++ [mTok [41]])) := fun d l => by
  show cut d (mTok [40] :: (B ++ [mTok [41]] ++ l)) = _
  rw [cut_cons, if_pos (by decide), List.append_assoc, hb (d + 1)]
  show (mTok [40] :: (B ++ (cut (d + 1) (mTok [41] :: l)).1), (cut (d + 1) (mTok [41] :: l)).2) = _
  have e : cut (d + 1) (mTok [41] :: l) = (mTok [41] :: (cut d l).1, (cut d l).2) := by
    rw [cut_cons, if_neg (by decide), if_pos (by decide)]
  rw [e]
  simp
theorem cut_wrap {B : List Tok} (hb : Bal B) (r : List Tok) : cut 0 (B ++ mTok [41] :: r) = (B, r) := by
  rw [hb 0]
  have e : cut 0 (mTok [41] :: r) = ([], r) := by
    rw [cut_cons, if_neg (by decide), if_pos (by decide)]
  rw [e, List.append_nil]
theorem isO_k {k : Int} {t : List UInt8} {n : Int} (h : k ≠ 4) : isO ⟨k, t, n⟩ = false := by
  unfold isO mTok
  rw [beq_eq_false_iff_ne]; intro e; injection e with e1; exact h e1
theorem isC_k {k : Int} {t : List UInt8} {n : Int} (h : k ≠ 4) : isC ⟨k, t, n⟩ = false := by
  unfold isC mTok
  rw [beq_eq_false_iff_ne]; intro e; injection e with e1; exact h e1
theorem bal_k {k : Int} {t : List UInt8} {n : Int} (h : k ≠ 4) {B : List Tok} (hb : Bal B) : Bal ((⟨k, t, n⟩ : Tok) :: B) := bal_cons (isO_k h) (isC_k h) hb
theorem bal_kid {t : Go.Tm.T} (h : Bal (toksT t)) : Bal (kidT t) := by
  unfold kidT wrapK
  split
  · exact h
  · exact bal_wrap h
theorem bal_op {s : ByteArray} (h : opB s.data.toList = true) {B : List Tok} (hb : Bal B) : Bal (mTok s.data.toList :: B) := by
  rcases op_cases h with e | e | e | e | e <;> rw [e] <;> exact bal_cons (by decide) (by decide) hb
theorem toks_bal {t : Go.Tm.T} (h : Rt t) : Bal (toksT t) := by
  have K : ∀ {a : Go.Tm.T}, Bal (toksT a) → Bal (kidT a) := bal_kid
  induction h with
  | num n h0 h1 => rw [toks_1]; exact bal_k (by decide) bal_nil
  | var s h => rw [toks_2]; exact bal_k (by decide) bal_nil
  | fn s a h ha ia => rw [toks_3]; exact bal_k (by decide) (bal_k (by decide) (bal_cons (by decide) (by decide) (K ia)))
  | app a b ha hb ia ib => rw [toks_4]; exact bal_app (K ia) (K ib)
  | lt s a b h ha hb ia ib => rw [toks_5]; exact bal_k (by decide) (bal_k (by decide) (bal_cons (by decide) (by decide) (bal_app (K ia) (bal_k (by decide) (K ib)))))
  | cond a b c ha hb hc ia ib ic => rw [toks_6]; exact bal_k (by decide) (bal_app (K ia) (bal_k (by decide) (bal_app (K ib) (bal_k (by decide) (K ic)))))
  | loop a b ha hb ia ib => rw [toks_7]; exact bal_k (by decide) (bal_app (K ia) (bal_k (by decide) (K ib)))
  | raise a ha ia => rw [toks_8]; exact bal_k (by decide) (K ia)
  | tri s a b h ha hb ia ib => rw [toks_9]; exact bal_k (by decide) (bal_app (K ia) (bal_k (by decide) (bal_k (by decide) (bal_cons (by decide) (by decide) (K ib)))))
  | get a ha ia => rw [toks_10]; exact bal_cons (by decide) (by decide) (K ia)
  | put a b ha hb ia ib => rw [toks_11]; exact bal_app (K ia) (bal_cons (by decide) (by decide) (K ib))
  | op s a b h ha hb ia ib => rw [toks_12]; exact bal_app (K ia) (bal_op h (K ib))
  | sq a b ha hb ia ib => rw [toks_13]; exact bal_app (K ia) (bal_cons (by decide) (by decide) (K ib))

/-! unlike terms -/
theorem itoa_inj {m n : Int} (hm : 0 ≤ m) (hn : 0 ≤ n) (h : Lib.itoa m = Lib.itoa n) : m = n := by
  rw [itoa_dec hm, itoa_dec hn] at h
  have h1 := (dec_all m.toNat).2
  have h2 := (dec_all n.toNat).2
  rw [h, h2] at h1
  omega
theorem leaf_toks {t : Go.Tm.T} (h : Rt t) (hl : leafK t.kind = true) : ∃ x, toksT t = [x] ∧ (x.kind = 1 ∨ x.kind = 2) := by
  cases h with
  | num n h0 h1 => exact ⟨_, toks_1 _ _ _, .inr rfl⟩
  | var s h => exact ⟨_, toks_2 _ _ _, .inl rfl⟩
  | _ => cases hl
theorem leaf_inj {t u : Go.Tm.T} (ht : Rt t) (hu : Rt u) (lt : leafK t.kind = true) (lu : leafK u.kind = true) (h : toksT t = toksT u) : t = u := by
  cases ht with
  | num n h0 h1 =>
    cases hu with
    | num m g0 g1 =>
      rw [toks_1, toks_1] at h
      injection h with h
      injection h with _ _ h
      rw [h]
    | var s g =>
      rw [toks_1, toks_2] at h
      injection h with h
      injection h with h
      cases h
    | _ => cases lu
  | var s h0 =>
    cases hu with
    | num m g0 g1 =>
      rw [toks_1, toks_2] at h
      injection h with h
      injection h with h
      cases h
    | var r g =>
      rw [toks_2, toks_2] at h
      injection h with h
      injection h with _ h
      have : s = r := by
        cases s; cases r
        rw [ByteArray.mk.injEq]
        exact Array.toList_inj.1 h
      rw [this]
    | _ => cases lu
  | _ => cases lt
theorem kid_leaf {t : Go.Tm.T} (h : leafK t.kind = true) : kidT t = toksT t := by unfold kidT wrapK; rw [if_pos h]
theorem kid_wrap {t : Go.Tm.T} (h : leafK t.kind = false) : kidT t = mTok [40] :: (toksT t ++ [mTok [41]]) := by unfold kidT wrapK; rw [if_neg (by rw [h]; decide)]
theorem kid_split {a u : Go.Tm.T} (ha : Rt a) (hu : Rt u) (IH : leafK a.kind = false → ∀ u, Rt u → toksT a = toksT u → a = u) {r q : List Tok} (h : kidT a ++ r = kidT u ++ q) : a = u ∧ r = q := by
  cases la : leafK a.kind with
  | true =>
    obtain ⟨x, hx, kx⟩ := leaf_toks ha la
    rw [kid_leaf la, hx] at h
    cases lu : leafK u.kind with
    | true =>
      obtain ⟨y, hy, ky⟩ := leaf_toks hu lu
      rw [kid_leaf lu, hy] at h
      injection h with h1 h2
      exact ⟨leaf_inj ha hu la lu (by rw [hx, hy, h1]), h2⟩
    | false =>
      rw [kid_wrap lu] at h
      injection h with h1 h2
      rw [h1] at kx
      rcases kx with kx | kx <;> cases kx
  | false =>
    rw [kid_wrap la] at h
    cases lu : leafK u.kind with
    | true =>
      obtain ⟨y, hy, ky⟩ := leaf_toks hu lu
      rw [kid_leaf lu, hy] at h
      injection h with h1 h2
      rw [← h1] at ky
      rcases ky with ky | ky <;> cases ky
    | false =>
      rw [kid_wrap lu] at h
      injection h with h1 h2
      have h2 : (toksT a ++ [mTok [41]]) ++ r = (toksT u ++ [mTok [41]]) ++ q := h2
      rw [List.append_assoc, List.append_assoc] at h2
      have e1 := cut_wrap (toks_bal ha) r
      have e2 := cut_wrap (toks_bal hu) q
      have h2 : toksT a ++ mTok [41] :: r = toksT u ++ mTok [41] :: q := h2
      rw [h2, e2] at e1
      injection e1 with e3 e4
      exact ⟨IH la u hu e3.symm, e4.symm⟩
/-- by the first token: which kind; 0: it begins with a kid -/
def cls : List Tok → Int
  | [] => 0
  | x :: _ => if x = kTok [102, 117, 110] then 3 else if x = kTok [108, 101, 116] then 5 else if x = kTok [105, 102] then 6 else if x = kTok [119, 104, 105, 108, 101] then 7 else if x = kTok [114, 97, 105, 115, 101] then 8 else if x = kTok [116, 114, 121] then 9 else if x = mTok [33] then 10 else 0
theorem cls_kid {a : Go.Tm.T} (ha : Rt a) (r : List Tok) : cls (kidT a ++ r) = 0 := by
  cases la : leafK a.kind with
  | true =>
    obtain ⟨x, hx, kx⟩ := leaf_toks ha la
    rw [kid_leaf la, hx]
    show cls (x :: r) = 0
    have n3 : ∀ t, x ≠ kTok t := fun t e => by rw [e] at kx; rcases kx with kx | kx <;> cases kx
    have n4 : ∀ t, x ≠ mTok t := fun t e => by rw [e] at kx; rcases kx with kx | kx <;> cases kx
    show (if _ then _ else _ : Int) = 0
    rw [if_neg (n3 _), if_neg (n3 _), if_neg (n3 _), if_neg (n3 _), if_neg (n3 _), if_neg (n3 _), if_neg (n4 _)]
  | false => rw [kid_wrap la]; rfl
/-- its first kid, or itself; what stands behind -/
def hdT (t : Go.Tm.T) : Go.Tm.T := if leafK t.kind = true then t else t.kids.getD 0 default
def tlT (t : Go.Tm.T) : List Tok := (toksT t).drop (kidT (hdT t)).length
def infK (k : Int) : Bool := k == 1 || k == 2 || k == 4 || k == 11 || k == 12 || k == 13
/-- by what stands behind the first kid -/
def cls2 : List Tok → Int
  | [] => 1
  | x :: _ => if x = mTok [58, 61] then 11 else if x = mTok [59] then 13 else if x = mTok [43] ∨ x = mTok [45] ∨ x = mTok [42] ∨ x = mTok [60] ∨ x = mTok [61] then 12 else 4
theorem cls2_kid {a : Go.Tm.T} (ha : Rt a) : cls2 (kidT a) = 4 := by
  cases la : leafK a.kind with
  | true =>
    obtain ⟨x, hx, kx⟩ := leaf_toks ha la
    rw [kid_leaf la, hx]
    have n4 : ∀ t, x ≠ mTok t := fun t e => by rw [e] at kx; rcases kx with kx | kx <;> cases kx
    show (if _ then _ else _ : Int) = 4
    rw [if_neg (n4 _), if_neg (n4 _), if_neg (fun h => by rcases h with h | h | h | h | h <;> exact n4 _ h)]
  | false => rw [kid_wrap la]; rfl
theorem cls2_op {s : ByteArray} (h : opB s.data.toList = true) (r : List Tok) : cls2 (mTok s.data.toList :: r) = 12 := by
  rcases op_cases h with e | e | e | e | e <;> rw [e] <;> rfl
theorem str_inj {s r : ByteArray} (h : s.data.toList = r.data.toList) : s = r := by
  cases s; cases r
  rw [ByteArray.mk.injEq]
  exact Array.toList_inj.1 h
/-- the shape of one that begins with a kid -/
theorem inf_shape {t : Go.Tm.T} (h : Rt t) (hk : infK t.kind = true) : Rt (hdT t) ∧ toksT t = kidT (hdT t) ++ tlT t ∧
    ((leafK t.kind = true ∧ hdT t = t ∧ tlT t = []) ∨ (t.kind = 4 ∧ ∃ a b, t = .node 4 ⟨#[]⟩ 0 [a, b] ∧ Rt b ∧ hdT t = a ∧ tlT t = kidT b) ∨ (t.kind = 11 ∧ ∃ a b, t = .node 11 ⟨#[]⟩ 0 [a, b] ∧ Rt b ∧ hdT t = a ∧ tlT t = mTok [58, 61] :: kidT b) ∨
     (t.kind = 12 ∧ ∃ s a b, t = .node 12 s 0 [a, b] ∧ opB s.data.toList = true ∧ Rt b ∧ hdT t = a ∧ tlT t = mTok s.data.toList :: kidT b) ∨ (t.kind = 13 ∧ ∃ a b, t = .node 13 ⟨#[]⟩ 0 [a, b] ∧ Rt b ∧ hdT t = a ∧ tlT t = mTok [59] :: kidT b)) := by
  have D : ∀ (a : Go.Tm.T) (l : List Tok), (kidT a ++ l).drop (kidT a).length = l := fun a l => by simp
  have hs := h
  cases h with
  | num n h0 h1 =>
    have e1 : hdT (.node 1 ⟨#[]⟩ n []) = .node 1 ⟨#[]⟩ n [] := rfl
    have e2 : tlT (.node 1 ⟨#[]⟩ n []) = [] := by unfold tlT; rw [e1, kid_leaf rfl]; simp
    exact ⟨hs, by rw [e1, e2, kid_leaf rfl, List.append_nil], .inl ⟨rfl, e1, e2⟩⟩
  | var s h =>
    have e1 : hdT (.node 2 s 0 []) = .node 2 s 0 [] := rfl
    have e2 : tlT (.node 2 s 0 []) = [] := by unfold tlT; rw [e1, kid_leaf rfl]; simp
    exact ⟨hs, by rw [e1, e2, kid_leaf rfl, List.append_nil], .inl ⟨rfl, e1, e2⟩⟩
  | app a b ha hb =>
    have e1 : hdT (.node 4 ⟨#[]⟩ 0 [a, b]) = a := rfl
    have e2 : tlT (.node 4 ⟨#[]⟩ 0 [a, b]) = kidT b := by unfold tlT; rw [e1, toks_4, D]
    exact ⟨ha, by rw [e1, e2, toks_4], .inr (.inl ⟨rfl, a, b, rfl, hb, e1, e2⟩)⟩
  | put a b ha hb =>
    have e1 : hdT (.node 11 ⟨#[]⟩ 0 [a, b]) = a := rfl
    have e2 : tlT (.node 11 ⟨#[]⟩ 0 [a, b]) = mTok [58, 61] :: kidT b := by unfold tlT; rw [e1, toks_11, D]
    exact ⟨ha, by rw [e1, e2, toks_11], .inr (.inr (.inl ⟨rfl, a, b, rfl, hb, e1, e2⟩))⟩
  | op s a b h ha hb =>
    have e1 : hdT (.node 12 s 0 [a, b]) = a := rfl
    have e2 : tlT (.node 12 s 0 [a, b]) = mTok s.data.toList :: kidT b := by unfold tlT; rw [e1, toks_12, D]
    exact ⟨ha, by rw [e1, e2, toks_12], .inr (.inr (.inr (.inl ⟨rfl, s, a, b, rfl, h, hb, e1, e2⟩)))⟩
  | sq a b ha hb =>
    have e1 : hdT (.node 13 ⟨#[]⟩ 0 [a, b]) = a := rfl
    have e2 : tlT (.node 13 ⟨#[]⟩ 0 [a, b]) = mTok [59] :: kidT b := by unfold tlT; rw [e1, toks_13, D]
    exact ⟨ha, by rw [e1, e2, toks_13], .inr (.inr (.inr (.inr ⟨rfl, a, b, rfl, hb, e1, e2⟩)))⟩
  | _ => cases hk
theorem cls_inf {t : Go.Tm.T} (h : Rt t) (hk : infK t.kind = true) : cls (toksT t) = 0 := by
  obtain ⟨h1, h2, _⟩ := inf_shape h hk
  rw [h2]
  exact cls_kid h1 _
theorem cls_pre {t : Go.Tm.T} (h : Rt t) (hk : infK t.kind = false) : cls (toksT t) = t.kind := by
  cases h with
  | fn s a h ha => rw [toks_3]; rfl
  | lt s a b h ha hb => rw [toks_5]; rfl
  | cond a b c ha hb hc => rw [toks_6]; rfl
  | loop a b ha hb => rw [toks_7]; rfl
  | raise a ha => rw [toks_8]; rfl
  | tri s a b h ha hb => rw [toks_9]; rfl
  | get a ha => rw [toks_10]; rfl
  | _ => cases hk
theorem cls2_tl {t : Go.Tm.T} (h : Rt t) (hk : infK t.kind = true) : cls2 (tlT t) = if leafK t.kind = true then 1 else t.kind := by
  obtain ⟨_, _, h3⟩ := inf_shape h hk
  rcases h3 with ⟨h1, h2, h3⟩ | ⟨h1, a, b, _, hb, _, h3⟩ | ⟨h1, a, b, _, hb, _, h3⟩ | ⟨h1, s, a, b, _, ho, hb, _, h3⟩ | ⟨h1, a, b, _, hb, _, h3⟩
  · rw [h3, if_pos h1]; rfl
  · rw [h3, h1, cls2_kid hb]; rfl
  · rw [h3, h1]; rfl
  · rw [h3, h1, cls2_op ho]; rfl
  · rw [h3, h1]; rfl
/-- both begin with a kid -/
theorem inj_inf {t : Go.Tm.T} (ht : Rt t) (hk : infK t.kind = true) (IH : ∀ a ∈ t.kids, ∀ u, Rt u → toksT a = toksT u → a = u) : ∀ u, Rt u → infK u.kind = true → toksT t = toksT u → t = u := by
  intro u hu hl h
  obtain ⟨p1, p2, p3⟩ := inf_shape ht hk
  obtain ⟨q1, q2, q3⟩ := inf_shape hu hl
  have c1 := cls2_tl ht hk
  have c2 := cls2_tl hu hl
  rw [p2, q2] at h
  have hI : leafK (hdT t).kind = false → ∀ u, Rt u → toksT (hdT t) = toksT u → hdT t = u := by
    intro hlf
    refine IH (hdT t) ?_
    rcases p3 with ⟨h1, h2, h3⟩ | ⟨h1, a, b, e, hb, h2, h3⟩ | ⟨h1, a, b, e, hb, h2, h3⟩ | ⟨h1, s, a, b, e, ho, hb, h2, h3⟩ | ⟨h1, a, b, e, hb, h2, h3⟩
    · rw [h2, h1] at hlf; cases hlf
    all_goals rw [h2, e]; exact List.mem_cons_self
  obtain ⟨hh, ht2⟩ := kid_split p1 q1 hI h
  rw [ht2, c2] at c1
  have K : ∀ b c : Go.Tm.T, Rt b → Rt c → (∀ u, Rt u → toksT b = toksT u → b = u) → kidT b = kidT c → b = c := fun b c hb hc ib e =>
    (kid_split hb hc (fun _ => ib) (r := []) (q := []) (by rw [e])).1
  rcases p3 with ⟨h1, h2, h3⟩ | ⟨h1, a, b, e, hb, h2, h3⟩ | ⟨h1, a, b, e, hb, h2, h3⟩ | ⟨h1, s, a, b, e, ho, hb, h2, h3⟩ | ⟨h1, a, b, e, hb, h2, h3⟩ <;>
  rcases q3 with ⟨g1, g2, g3⟩ | ⟨g1, a', b', e', hb', g2, g3⟩ | ⟨g1, a', b', e', hb', g2, g3⟩ | ⟨g1, s', a', b', e', ho', hb', g2, g3⟩ | ⟨g1, a', b', e', hb', g2, g3⟩
  · rw [← h2, hh, g2]
  all_goals first
    | (exfalso; simp only [h1, g1] at c1; revert c1; simp [leafK]; done)
    | skip
  · rw [h2, g2] at hh
    subst hh
    rw [h3, g3] at ht2
    rw [e, e', K b b' hb hb' (IH b (by rw [e]; simp [T.kids])) ht2]
  · rw [h2, g2] at hh
    subst hh
    rw [h3, g3] at ht2
    injection ht2 with _ ht2
    rw [e, e', K b b' hb hb' (IH b (by rw [e]; simp [T.kids])) ht2]
  · rw [h2, g2] at hh
    subst hh
    rw [h3, g3] at ht2
    injection ht2 with hm ht2
    injection hm with _ hm
    rw [e, e', K b b' hb hb' (IH b (by rw [e]; simp [T.kids])) ht2, str_inj hm]
  · rw [h2, g2] at hh
    subst hh
    rw [h3, g3] at ht2
    injection ht2 with _ ht2
    rw [e, e', K b b' hb hb' (IH b (by rw [e]; simp [T.kids])) ht2]
theorem inj_name {s r : ByteArray} (h : nTok s.data.toList = nTok r.data.toList) : s = r := by
  injection h with _ h
  exact str_inj h
/-- UNLIKE TERMS HAVE UNLIKE TOKENS. -/
theorem toks_inj {t : Go.Tm.T} (ht : Rt t) : ∀ u, Rt u → toksT t = toksT u → t = u := by
  have S : ∀ {a u : Go.Tm.T}, Rt a → Rt u → (∀ u, Rt u → toksT a = toksT u → a = u) → ∀ {r q : List Tok}, kidT a ++ r = kidT u ++ q → a = u ∧ r = q := fun ha hu ih _ _ h => kid_split ha hu (fun _ => ih) h
  have S0 : ∀ {a u : Go.Tm.T}, Rt a → Rt u → (∀ u, Rt u → toksT a = toksT u → a = u) → kidT a = kidT u → a = u := fun ha hu ih h => (kid_split ha hu (fun _ => ih) (r := []) (q := []) (by rw [h])).1
  have X : ∀ {t u : Go.Tm.T}, Rt t → Rt u → toksT t = toksT u → infK t.kind = infK u.kind ∧ (infK t.kind = false → t.kind = u.kind) := by
    intro t u ht hu h
    have hc := congrArg cls h
    have P : ∀ {t : Go.Tm.T}, Rt t → t.kind ≠ 0 := fun h e => by
      cases h <;> simp [T.kind] at e
    cases h1 : infK t.kind with
    | true =>
      rw [cls_inf ht h1] at hc
      cases h2 : infK u.kind with
      | true => exact ⟨rfl, fun e => by cases e⟩
      | false => rw [cls_pre hu h2] at hc; exact absurd hc.symm (P hu)
    | false =>
      rw [cls_pre ht h1] at hc
      cases h2 : infK u.kind with
      | true => rw [cls_inf hu h2] at hc; exact absurd hc (P ht)
      | false => rw [cls_pre hu h2] at hc; exact ⟨rfl, fun _ => hc⟩
  have hs := ht
  induction ht with
  | num n h0 h1 => exact fun u hu h => inj_inf hs rfl (fun a ha => by cases ha) u hu (X hs hu h).1.symm h
  | var s h0 => exact fun u hu h => inj_inf hs rfl (fun a ha => by cases ha) u hu (X hs hu h).1.symm h
  | app a b ha hb ia ib => exact fun u hu h => inj_inf hs rfl (fun c hc => by
      rcases List.mem_cons.1 hc with rfl | hc
      · exact ia ha
      · obtain rfl := List.mem_singleton.1 hc; exact ib hb) u hu (X hs hu h).1.symm h
  | put a b ha hb ia ib => exact fun u hu h => inj_inf hs rfl (fun c hc => by
      rcases List.mem_cons.1 hc with rfl | hc
      · exact ia ha
      · obtain rfl := List.mem_singleton.1 hc; exact ib hb) u hu (X hs hu h).1.symm h
  | op s a b h0 ha hb ia ib => exact fun u hu h => inj_inf hs rfl (fun c hc => by
      rcases List.mem_cons.1 hc with rfl | hc
      · exact ia ha
      · obtain rfl := List.mem_singleton.1 hc; exact ib hb) u hu (X hs hu h).1.symm h
  | sq a b ha hb ia ib => exact fun u hu h => inj_inf hs rfl (fun c hc => by
      rcases List.mem_cons.1 hc with rfl | hc
      · exact ia ha
      · obtain rfl := List.mem_singleton.1 hc; exact ib hb) u hu (X hs hu h).1.symm h
  | fn s a h0 ha ia =>
    intro u hu h
    have hk := (X hs hu h).2 rfl
    cases hu with
    | fn s' a' h0' ha' =>
      rw [toks_3, toks_3] at h
      injection h with _ h; injection h with h1 h; injection h with _ h
      rw [inj_name h1, S0 ha ha' (ia ha) h]
    | _ => cases hk
  | lt s a b h0 ha hb ia ib =>
    intro u hu h
    have hk := (X hs hu h).2 rfl
    cases hu with
    | lt s' a' b' h0' ha' hb' =>
      rw [toks_5, toks_5] at h
      injection h with _ h; injection h with h1 h; injection h with _ h
      obtain ⟨h2, h⟩ := S ha ha' (ia ha) h
      injection h with _ h
      rw [inj_name h1, h2, S0 hb hb' (ib hb) h]
    | _ => cases hk
  | cond a b c ha hb hc ia ib ic =>
    intro u hu h
    have hk := (X hs hu h).2 rfl
    cases hu with
    | cond a' b' c' ha' hb' hc' =>
      rw [toks_6, toks_6] at h
      injection h with _ h
      obtain ⟨h2, h⟩ := S ha ha' (ia ha) h
      injection h with _ h
      obtain ⟨h3, h⟩ := S hb hb' (ib hb) h
      injection h with _ h
      rw [h2, h3, S0 hc hc' (ic hc) h]
    | _ => cases hk
  | loop a b ha hb ia ib =>
    intro u hu h
    have hk := (X hs hu h).2 rfl
    cases hu with
    | loop a' b' ha' hb' =>
      rw [toks_7, toks_7] at h
      injection h with _ h
      obtain ⟨h2, h⟩ := S ha ha' (ia ha) h
      injection h with _ h
      rw [h2, S0 hb hb' (ib hb) h]
    | _ => cases hk
  | raise a ha ia =>
    intro u hu h
    have hk := (X hs hu h).2 rfl
    cases hu with
    | raise a' ha' =>
      rw [toks_8, toks_8] at h
      injection h with _ h
      rw [S0 ha ha' (ia ha) h]
    | _ => cases hk
  | tri s a b h0 ha hb ia ib =>
    intro u hu h
    have hk := (X hs hu h).2 rfl
    cases hu with
    | tri s' a' b' h0' ha' hb' =>
      rw [toks_9, toks_9] at h
      injection h with _ h
      obtain ⟨h2, h⟩ := S ha ha' (ia ha) h
      injection h with _ h; injection h with h1 h; injection h with _ h
      rw [inj_name h1, h2, S0 hb hb' (ib hb) h]
    | _ => cases hk
  | get a ha ia =>
    intro u hu h
    have hk := (X hs hu h).2 rfl
    cases hu with
    | get a' ha' =>
      rw [toks_10, toks_10] at h
      injection h with _ h
      rw [S0 ha ha' (ia ha) h]
    | _ => cases hk
end Go.Proofs.YtpdombmpmhnolaaGreatDoor
namespace Go.Proofs.YtpdombmpmhnolaaGreatDoor
open Go.RowKit Go.Shelf Go.Tm Go.Lx

/-- how many more `(` than `)` -/
def parI (l : List Tok) : Int := (l.countP (fun x => x.text == [40]) : Nat) - (l.countP (fun x => x.text == [41]) : Nat)
theorem parI_app (a b : List Tok) : parI (a ++ b) = parI a + parI b := by
  unfold parI; rw [List.countP_append, List.countP_append]; push_cast; omega
theorem parI_cons (x : Tok) (b : List Tok) : parI (x :: b) = parI [x] + parI b := parI_app [x] b
/-- never below nought, and nought at the end -/
structure Par (l : List Tok) : Prop where
  up : ∀ k, 0 ≤ parI (l.take k)
  all : parI l = 0
theorem par_nil : Par [] := ⟨fun k => by rw [List.take_nil]; decide, rfl⟩
theorem par_app {a b : List Tok} (ha : Par a) (hb : Par b) : Par (a ++ b) :=
  ⟨fun k => by
    rw [List.take_append, parI_app]
    have h1 := ha.up k
    have h2 := hb.up (k - a.length)
    omega, by rw [parI_app, ha.all, hb.all]; rfl⟩
theorem par_one {x : Tok} (h1 : x.text ≠ [40]) (h2 : x.text ≠ [41]) : Par [x] := by
  have e : parI [x] = 0 := by
    unfold parI
    rw [List.countP_singleton, List.countP_singleton]
    simp [h1, h2]
  exact ⟨fun k => by
    cases k with
    | zero => rw [List.take_zero]; decide
    | succ k => rw [List.take_succ_cons, List.take_nil, e]; decide, e⟩
theorem par_cons {x : Tok} (h1 : x.text ≠ [40]) (h2 : x.text ≠ [41]) {b : List Tok} (hb : Par b) : Par (x :: b) := par_app (par_one h1 h2) hb
theorem par_wrap {b : List Tok} (hb : Par b) : Par (mTok [40] :: (b ++ [mTok [41]])) := by
  have e1 : parI [mTok [40]] = 1 := by decide
  have e2 : parI [mTok [41]] = -1 := by decide
  refine ⟨fun k => ?_, by rw [parI_cons, parI_app, hb.all, e1, e2]; decide⟩
  cases k with
  | zero => rw [List.take_zero]; decide
  | succ k =>
    rw [List.take_succ_cons, parI_cons, e1, List.take_append, parI_app]
    have h1 := hb.up k
    have h2 : -1 ≤ parI ([mTok [41]].take (k - b.length)) := by
      cases k - b.length with
      | zero => rw [List.take_zero]; decide
      | succ j => rw [List.take_succ_cons, List.take_nil, e2]; decide
    omega
theorem par_kid {t : Go.Tm.T} (h : Par (toksT t)) : Par (kidT t) := by
  unfold kidT wrapK
  split
  · exact h
  · exact par_wrap h
theorem letter_mark {c : UInt8} (h : isLetter c = true) (m : UInt8) (hm : isLetter m = false) : c ≠ m := fun e => by rw [e, hm] at h; cases h
theorem name_not {s : ByteArray} (h : wordB s = true) (m : UInt8) (hm : isLetter m = false) (r : List UInt8) : s.data.toList ≠ m :: r := fun e => by
  obtain ⟨c, q, h1, h2⟩ := letter_first h
  rw [h1] at e
  injection e with e1
  exact letter_mark h2 m hm e1
theorem num_not {n : Int} (h : 0 ≤ n) (m : UInt8) (hm : isDigit m = false) (r : List UInt8) : Lib.itoa n ≠ m :: r := fun e => by
  obtain ⟨c, q, h1, h2⟩ := digit_first h
  rw [h1] at e
  injection e with e1
  rw [e1, hm] at h2; cases h2
theorem par_op {s : ByteArray} (h : opB s.data.toList = true) {b : List Tok} (hb : Par b) : Par (mTok s.data.toList :: b) := by
  rcases op_cases h with e | e | e | e | e <;> rw [e] <;> exact par_cons (by decide) (by decide) hb
theorem par_name {s : ByteArray} (h : wordB s = true) {b : List Tok} (hb : Par b) : Par (nTok s.data.toList :: b) := par_cons (name_not h 40 (by decide) []) (name_not h 41 (by decide) []) hb
theorem toks_par {t : Go.Tm.T} (h : Rt t) : Par (toksT t) := by
  have K : ∀ {a : Go.Tm.T}, Par (toksT a) → Par (kidT a) := par_kid
  induction h with
  | num n h0 h1 => rw [toks_1]; exact par_cons (num_not h0 40 (by decide) []) (num_not h0 41 (by decide) []) par_nil
  | var s h => rw [toks_2]; exact par_name h par_nil
  | fn s a h ha ia => rw [toks_3]; exact par_cons (by decide) (by decide) (par_name h (par_cons (by decide) (by decide) (K ia)))
  | app a b ha hb ia ib => rw [toks_4]; exact par_app (K ia) (K ib)
  | lt s a b h ha hb ia ib => rw [toks_5]; exact par_cons (by decide) (by decide) (par_name h (par_cons (by decide) (by decide) (par_app (K ia) (par_cons (by decide) (by decide) (K ib)))))
  | cond a b c ha hb hc ia ib ic => rw [toks_6]; exact par_cons (by decide) (by decide) (par_app (K ia) (par_cons (by decide) (by decide) (par_app (K ib) (par_cons (by decide) (by decide) (K ic)))))
  | loop a b ha hb ia ib => rw [toks_7]; exact par_cons (by decide) (by decide) (par_app (K ia) (par_cons (by decide) (by decide) (K ib)))
  | raise a ha ia => rw [toks_8]; exact par_cons (by decide) (by decide) (K ia)
  | tri s a b h ha hb ia ib => rw [toks_9]; exact par_cons (by decide) (by decide) (par_app (K ia) (par_cons (by decide) (by decide) (par_name h (par_cons (by decide) (by decide) (K ib)))))
  | get a ha ia => rw [toks_10]; exact par_cons (by decide) (by decide) (K ia)
  | put a b ha hb ia ib => rw [toks_11]; exact par_app (K ia) (par_cons (by decide) (by decide) (K ib))
  | op s a b h ha hb ia ib => rw [toks_12]; exact par_app (K ia) (par_op h (K ib))
  | sq a b ha hb ia ib => rw [toks_13]; exact par_app (K ia) (par_cons (by decide) (by decide) (K ib))

/-! how many -/
def cntW (w : List UInt8) (l : List Tok) : Nat := l.countP (fun x => x.text == w)
mutual
def kcount (K : Int) : Go.Tm.T → Nat
  | .node k _ _ ks => (if k = K then 1 else 0) + kcounts K ks
def kcounts (K : Int) : List Go.Tm.T → Nat
  | [] => 0
  | t :: ts => kcount K t + kcounts K ts
end
def ownC (k : Int) : List (List UInt8) := (partsK k [] 0).filterMap fun p => match p with
  | .inl x => if x.kind = 3 ∨ x.kind = 4 then some x.text else none
  | .inr _ => none
/-- a keyword, or a mark, that stands just at one kind -/
structure Wd (w : List UInt8) (K : Int) : Prop where
  o : ([40] == w) = false
  c : ([41] == w) = false
  nm : ∀ s, wordB s = true → (s.data.toList == w) = false
  nu : ∀ n : Int, 0 ≤ n → (Lib.itoa n == w) = false
  op : ∀ s : ByteArray, opB s.data.toList = true → (s.data.toList == w) = false
  k1 : K ≠ 1
  k2 : K ≠ 2
  k3 : (List.countP (· == w) [[102, 117, 110], [61, 62]]) = if (3 : Int) = K then 1 else 0
  k4 : K ≠ 4
  k5 : (List.countP (· == w) [[108, 101, 116], [61], [105, 110]]) = if (5 : Int) = K then 1 else 0
  k6 : (List.countP (· == w) [[105, 102], [116, 104, 101, 110], [101, 108, 115, 101]]) = if (6 : Int) = K then 1 else 0
  k7 : (List.countP (· == w) [[119, 104, 105, 108, 101], [100, 111]]) = if (7 : Int) = K then 1 else 0
  k8 : (List.countP (· == w) [[114, 97, 105, 115, 101]]) = if (8 : Int) = K then 1 else 0
  k9 : (List.countP (· == w) [[116, 114, 121], [119, 105, 116, 104], [61, 62]]) = if (9 : Int) = K then 1 else 0
  k10 : (List.countP (· == w) [[33]]) = if (10 : Int) = K then 1 else 0
  k11 : (List.countP (· == w) [[58, 61]]) = if (11 : Int) = K then 1 else 0
  k12 : K ≠ 12
  k13 : (List.countP (· == w) [[59]]) = if (13 : Int) = K then 1 else 0
theorem cnt_kid {w : List UInt8} {K : Int} (H : Wd w K) (a : Go.Tm.T) : cntW w (kidT a) = cntW w (toksT a) := by
  unfold kidT wrapK
  split
  · rfl
  · unfold cntW
    rw [List.countP_cons, List.countP_append, List.countP_singleton]
    have e1 : ((mTok [40]).text == w) = false := H.o
    have e2 : ((mTok [41]).text == w) = false := H.c
    rw [e1, e2]; simp
theorem toks_cnt {w : List UInt8} {K : Int} (H : Wd w K) {t : Go.Tm.T} (h : Rt t) : cntW w (toksT t) = kcount K t := by
  have C := fun a => cnt_kid H a
  have c0 : ∀ (x : Tok) (l : List Tok), cntW w (x :: l) = cntW w l + if (x.text == w) = true then 1 else 0 := fun x l => List.countP_cons ..
  have c1 : ∀ (a b : List Tok), cntW w (a ++ b) = cntW w a + cntW w b := fun a b => List.countP_append ..
  have c2 : cntW w [] = 0 := rfl
  have ek : ∀ t, (kTok t).text = t := fun _ => rfl
  have em : ∀ t, (mTok t).text = t := fun _ => rfl
  have en : ∀ t, (nTok t).text = t := fun _ => rfl
  induction h with
  | num n h0 h1 =>
    rw [toks_1, kcount, kcounts, if_neg (Ne.symm H.k1), c0, c2]
    have : ((dTok n).text == w) = false := H.nu n h0
    rw [this]; rfl
  | var s h =>
    rw [toks_2, kcount, kcounts, if_neg (Ne.symm H.k2), c0, c2, en, H.nm s h]; rfl
  | fn s a h ha ia =>
    have := H.k3
    simp only [List.countP_cons, List.countP_nil] at this
    rw [toks_3, kcount, kcounts, kcounts, c0, c0, c0, C, ia, en, ek, em, H.nm s h, ← this]
    simp; omega
  | app a b ha hb ia ib => rw [toks_4, kcount, kcounts, kcounts, kcounts, if_neg (Ne.symm H.k4), c1, C, C, ia, ib]; omega
  | lt s a b h ha hb ia ib =>
    have := H.k5
    simp only [List.countP_cons, List.countP_nil] at this
    rw [toks_5, kcount, kcounts, kcounts, kcounts, c0, c0, c0, c1, c0, C, C, ia, ib, en, ek, ek, em, H.nm s h, ← this]
    simp; omega
  | cond a b c ha hb hc ia ib ic =>
    have := H.k6
    simp only [List.countP_cons, List.countP_nil] at this
    rw [toks_6, kcount, kcounts, kcounts, kcounts, kcounts, c0, c1, c0, c1, c0, C, C, C, ia, ib, ic, ek, ek, ek, ← this]
    omega
  | loop a b ha hb ia ib =>
    have := H.k7
    simp only [List.countP_cons, List.countP_nil] at this
    rw [toks_7, kcount, kcounts, kcounts, kcounts, c0, c1, c0, C, C, ia, ib, ek, ek, ← this]
    omega
  | raise a ha ia =>
    have := H.k8
    simp only [List.countP_cons, List.countP_nil] at this
    rw [toks_8, kcount, kcounts, kcounts, c0, C, ia, ek, ← this]
    omega
  | tri s a b h ha hb ia ib =>
    have := H.k9
    simp only [List.countP_cons, List.countP_nil] at this
    rw [toks_9, kcount, kcounts, kcounts, kcounts, c0, c1, c0, c0, c0, C, C, ia, ib, en, ek, ek, em, H.nm s h, ← this]
    simp; omega
  | get a ha ia =>
    have := H.k10
    simp only [List.countP_cons, List.countP_nil] at this
    rw [toks_10, kcount, kcounts, kcounts, c0, C, ia, em, ← this]
    omega
  | put a b ha hb ia ib =>
    have := H.k11
    simp only [List.countP_cons, List.countP_nil] at this
    rw [toks_11, kcount, kcounts, kcounts, kcounts, c1, c0, C, C, ia, ib, em, ← this]
    omega
  | op s a b h ha hb ia ib =>
    rw [toks_12, kcount, kcounts, kcounts, kcounts, if_neg (Ne.symm H.k12), c1, c0, C, C, ia, ib, em, H.op s h]
    simp
  | sq a b ha hb ia ib =>
    have := H.k13
    simp only [List.countP_cons, List.countP_nil] at this
    rw [toks_13, kcount, kcounts, kcounts, kcounts, c1, c0, C, C, ia, ib, em, ← this]
    omega
theorem key_not {w : List UInt8} (hk : isKey w = true) (s : ByteArray) (h : wordB s = true) : (s.data.toList == w) = false := by
  rw [beq_eq_false_iff_ne]
  intro e
  have := (wordB_iff.1 h).2
  rw [e, hk] at this; cases this
theorem wd_mk {w : List UInt8} {K : Int} (c : UInt8) (r : List UInt8) (hw : w = c :: r) (hd : isDigit c = false) (nm : ∀ s, wordB s = true → (s.data.toList == w) = false)
    (op : w ≠ [43] ∧ w ≠ [45] ∧ w ≠ [42] ∧ w ≠ [60] ∧ w ≠ [61]) (o : ([40] == w) = false) (c' : ([41] == w) = false) (k1 : K ≠ 1) (k2 : K ≠ 2) (k4 : K ≠ 4) (k12 : K ≠ 12)
    (k3 : (List.countP (· == w) [[102, 117, 110], [61, 62]]) = if (3 : Int) = K then 1 else 0)
    (k5 : (List.countP (· == w) [[108, 101, 116], [61], [105, 110]]) = if (5 : Int) = K then 1 else 0)
    (k6 : (List.countP (· == w) [[105, 102], [116, 104, 101, 110], [101, 108, 115, 101]]) = if (6 : Int) = K then 1 else 0)
    (k7 : (List.countP (· == w) [[119, 104, 105, 108, 101], [100, 111]]) = if (7 : Int) = K then 1 else 0)
    (k8 : (List.countP (· == w) [[114, 97, 105, 115, 101]]) = if (8 : Int) = K then 1 else 0)
    (k9 : (List.countP (· == w) [[116, 114, 121], [119, 105, 116, 104], [61, 62]]) = if (9 : Int) = K then 1 else 0)
    (k10 : (List.countP (· == w) [[33]]) = if (10 : Int) = K then 1 else 0)
    (k11 : (List.countP (· == w) [[58, 61]]) = if (11 : Int) = K then 1 else 0)
    (k13 : (List.countP (· == w) [[59]]) = if (13 : Int) = K then 1 else 0) : Wd w K where
  o := o
  c := c'
  nm := nm
  nu n h := by rw [beq_eq_false_iff_ne, hw]; exact num_not h c hd r
  op s h := by
    rw [beq_eq_false_iff_ne]
    rcases op_cases h with e | e | e | e | e <;> rw [e]
    · exact Ne.symm op.1
    · exact Ne.symm op.2.1
    · exact Ne.symm op.2.2.1
    · exact Ne.symm op.2.2.2.1
    · exact Ne.symm op.2.2.2.2
  k1 := k1
  k2 := k2
  k3 := k3
  k4 := k4
  k5 := k5
  k6 := k6
  k7 := k7
  k8 := k8
  k9 := k9
  k10 := k10
  k11 := k11
  k12 := k12
  k13 := k13
theorem wd_fun : Wd [102, 117, 110] 3 := wd_mk 102 _ rfl (by decide) (key_not (by decide)) (by decide) (by decide) (by decide) (by decide) (by decide) (by decide) (by decide) (by decide) (by decide) (by decide) (by decide) (by decide) (by decide) (by decide) (by decide) (by decide)
theorem wd_let : Wd [108, 101, 116] 5 := wd_mk 108 _ rfl (by decide) (key_not (by decide)) (by decide) (by decide) (by decide) (by decide) (by decide) (by decide) (by decide) (by decide) (by decide) (by decide) (by decide) (by decide) (by decide) (by decide) (by decide) (by decide)
theorem wd_else : Wd [101, 108, 115, 101] 6 := wd_mk 101 _ rfl (by decide) (key_not (by decide)) (by decide) (by decide) (by decide) (by decide) (by decide) (by decide) (by decide) (by decide) (by decide) (by decide) (by decide) (by decide) (by decide) (by decide) (by decide) (by decide)
theorem wd_while : Wd [119, 104, 105, 108, 101] 7 := wd_mk 119 _ rfl (by decide) (key_not (by decide)) (by decide) (by decide) (by decide) (by decide) (by decide) (by decide) (by decide) (by decide) (by decide) (by decide) (by decide) (by decide) (by decide) (by decide) (by decide) (by decide)
theorem wd_raise : Wd [114, 97, 105, 115, 101] 8 := wd_mk 114 _ rfl (by decide) (key_not (by decide)) (by decide) (by decide) (by decide) (by decide) (by decide) (by decide) (by decide) (by decide) (by decide) (by decide) (by decide) (by decide) (by decide) (by decide) (by decide) (by decide)
theorem wd_try : Wd [116, 114, 121] 9 := wd_mk 116 _ rfl (by decide) (key_not (by decide)) (by decide) (by decide) (by decide) (by decide) (by decide) (by decide) (by decide) (by decide) (by decide) (by decide) (by decide) (by decide) (by decide) (by decide) (by decide) (by decide)
theorem mark_not {c : UInt8} (hc : isLetter c = false) (r : List UInt8) (s : ByteArray) (h : wordB s = true) : (s.data.toList == c :: r) = false := by
  rw [beq_eq_false_iff_ne]
  exact name_not h c hc r
theorem wd_seq : Wd [59] 13 := wd_mk 59 _ rfl (by decide) (mark_not (by decide) _) (by decide) (by decide) (by decide) (by decide) (by decide) (by decide) (by decide) (by decide) (by decide) (by decide) (by decide) (by decide) (by decide) (by decide) (by decide) (by decide)
theorem wd_set : Wd [58, 61] 11 := wd_mk 58 _ rfl (by decide) (mark_not (by decide) _) (by decide) (by decide) (by decide) (by decide) (by decide) (by decide) (by decide) (by decide) (by decide) (by decide) (by decide) (by decide) (by decide) (by decide) (by decide) (by decide)
theorem wd_get : Wd [33] 10 := wd_mk 33 _ rfl (by decide) (mark_not (by decide) _) (by decide) (by decide) (by decide) (by decide) (by decide) (by decide) (by decide) (by decide) (by decide) (by decide) (by decide) (by decide) (by decide) (by decide) (by decide) (by decide)
end Go.Proofs.YtpdombmpmhnolaaGreatDoor
