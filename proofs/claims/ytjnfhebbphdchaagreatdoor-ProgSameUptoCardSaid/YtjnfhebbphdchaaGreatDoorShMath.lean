/-
  What is shown of a term that is right, by its tree: its tokens; they are right, and few. No condition.
  What is shown of unlike terms is unlike;
  Parentheses close what they open;
-/
import Derived.Test.YtjnfhebbphdchaaGreatDoorTmRight
import Derived.Test.YtjnfhebbphdchaaGreatDoorLxMath
namespace Go.Proofs.YtjnfhebbphdchaaGreatDoor
open Go.RowKit Go.Shelf Go.Tm Go.Lx
def wordB (s : ByteArray) : Bool := nameB s && !isKey s.data.toList
inductive Rt : Go.Tm.T -> Prop
 | num (n : Int) (h0 : 0 <= n) (h1 : n <= 2147483647) : Rt (.node 1 ⟨#[]⟩ n [])
 | var (s : ByteArray) (h : wordB s = true) : Rt (.node 2 s 0 [])
 | fn (s : ByteArray) (a : Go.Tm.T) (h : wordB s = true) (ha : Rt a) : Rt (.node 3 s 0 [a])
 | app (a b : Go.Tm.T) (ha : Rt a) (hb : Rt b) : Rt (.node 4 ⟨#[]⟩ 0 [a, b])
 | lt (s : ByteArray) (a b : Go.Tm.T) (h : wordB s = true) (ha : Rt a) (hb : Rt b) : Rt (.node 5 s 0 [a, b])
 | cond (a b c : Go.Tm.T) (ha : Rt a) (hb : Rt b) (hc : Rt c) : Rt (.node 6 ⟨#[]⟩ 0 [a, b, c])
 | loop (a b : Go.Tm.T) (ha : Rt a) (hb : Rt b) : Rt (.node 7 ⟨#[]⟩ 0 [a, b])
 | raise (a : Go.Tm.T) (ha : Rt a) : Rt (.node 8 ⟨#[]⟩ 0 [a])
 | tri (s : ByteArray) (a b : Go.Tm.T) (h : wordB s = true) (ha : Rt a) (hb : Rt b) : Rt (.node 9 s 0 [a, b])
 | get (a : Go.Tm.T) (ha : Rt a) : Rt (.node 10 ⟨#[]⟩ 0 [a])
 | put (a b : Go.Tm.T) (ha : Rt a) (hb : Rt b) : Rt (.node 11 ⟨#[]⟩ 0 [a, b])
 | op (s : ByteArray) (a b : Go.Tm.T) (h : opB s.data.toList = true) (ha : Rt a) (hb : Rt b) : Rt (.node 12 s 0 [a, b])
 | sq (a b : Go.Tm.T) (ha : Rt a) (hb : Rt b) : Rt (.node 13 ⟨#[]⟩ 0 [a, b])
theorem qcF {s : ByteArray} (h : (s.size == 0) = true) : s = ⟨#[]⟩ := by
 have h : s.size = 0 := by simpa using h
 cases s with
 | mk d =>
   have : d.size = 0 := h
   rw [Array.eq_empty_of_size_eq_zero this]
theorem qrh {ks : List Go.Tm.T} (h : (ks.length == 0) = true) : ks = [] := List.eq_nil_of_length_eq_zero (by simpa using h)
theorem qnT {ks : List Go.Tm.T} (h : (ks.length == 1) = true) : ∃ a, ks = [a] := by
 match ks, h with
 | [a], _ => exact ⟨a, rfl⟩
theorem qgy {ks : List Go.Tm.T} (h : (ks.length == 2) = true) : ∃ a b, ks = [a, b] := by
 match ks, h with
 | [a, b], _ => exact ⟨a, b, rfl⟩
theorem qsB {ks : List Go.Tm.T} (h : (ks.length == 3) = true) : ∃ a b c, ks = [a, b, c] := by
 match ks, h with
 | [a, b, c], _ => exact ⟨a, b, c, rfl⟩
theorem qgz : ∀ {ks : List Go.Tm.T}, qbl ks = true -> ∀ u ∈ ks, qbH u = true
 | [], _, u, hu => by cases hu
 | t :: ts, h, u, hu => by
   rw [qbl, Bool.and_eq_true] at h
   rcases List.mem_cons.1 hu with rfl | hu
   . exact h.1
   . exact qgz h.2 u hu
theorem qlt : ∀ {ks : List Go.Tm.T} {u : Go.Tm.T}, u ∈ ks -> u.size <= sizes ks
 | [], u, hu => by cases hu
 | t :: ts, u, hu => by
   rw [sizes]
   rcases List.mem_cons.1 hu with rfl | hu
   . omega
   . have := qlt hu; omega
theorem rt_of : ∀ (n : Nat) (t : Go.Tm.T), t.size <= n -> qbH t = true -> Rt t
 | 0, t, h, _ => by have := qil t; omega
 | n + 1, .node k s num ks, hn, h => by
   rw [qbH, Bool.and_eq_true] at h
   rw [T.size] at hn
   have IH : ∀ u ∈ ks, Rt u := fun u hu => rt_of n u (by have := qlt hu; omega) (qgz h.2 u hu)
   obtain ⟨hb, _⟩ := h
   unfold nodeB at hb
   rw [Bool.and_eq_true, Bool.and_eq_true, Bool.and_eq_true, decide_eq_true_eq, decide_eq_true_eq] at hb
   obtain ⟨⟨⟨h1, h2⟩, h3⟩, h4⟩ := hb
   have h1 : 1 <= k := h1
   have h2 : k <= 13 := h2
   have h3 : (ks.length == qav.getD k.toNat 0) = true := h3
   unfold qay at h4
   have e1 : (T.node k s num ks).kind = k := rfl
   have e2 : (T.node k s num ks).name = s := rfl
   have e3 : (T.node k s num ks).num = num := rfl
   rw [e1, e2, e3] at h4
   obtain rfl | rfl | rfl | rfl | rfl | rfl | rfl | rfl | rfl | rfl | rfl | rfl | rfl : k = 1 ∨ k = 2 ∨ k = 3 ∨ k = 4 ∨ k = 5 ∨ k = 6 ∨ k = 7 ∨ k = 8 ∨ k = 9 ∨ k = 10 ∨ k = 11 ∨ k = 12 ∨ k = 13 := by omega
   . obtain rfl := qrh h3
     rw [if_pos rfl, Bool.and_eq_true, Bool.and_eq_true, decide_eq_true_eq, decide_eq_true_eq] at h4
     obtain ⟨⟨g1, g2⟩, g3⟩ := h4
     obtain rfl := qcF g1
     exact .num num g2 g3
   . obtain rfl := qrh h3
     rw [if_neg (by decide), if_pos (by decide), Bool.and_eq_true, Bool.and_eq_true, beq_iff_eq] at h4
     obtain ⟨⟨rfl, g2⟩, g3⟩ := h4
     exact .var s (by unfold wordB; rw [g2, g3]; rfl)
   . obtain ⟨a, rfl⟩ := qnT h3
     rw [if_neg (by decide), if_pos (by decide), Bool.and_eq_true, Bool.and_eq_true, beq_iff_eq] at h4
     obtain ⟨⟨rfl, g2⟩, g3⟩ := h4
     exact .fn s a (by unfold wordB; rw [g2, g3]; rfl) (IH _ (by simp))
   . obtain ⟨a, b, rfl⟩ := qgy h3
     rw [if_neg (by decide), if_neg (by decide), if_neg (by decide), Bool.and_eq_true, beq_iff_eq] at h4
     obtain ⟨rfl, g2⟩ := h4
     obtain rfl := qcF g2
     exact .app a b (IH _ (by simp)) (IH _ (by simp))
   . obtain ⟨a, b, rfl⟩ := qgy h3
     rw [if_neg (by decide), if_pos (by decide), Bool.and_eq_true, Bool.and_eq_true, beq_iff_eq] at h4
     obtain ⟨⟨rfl, g2⟩, g3⟩ := h4
     exact .lt s a b (by unfold wordB; rw [g2, g3]; rfl) (IH _ (by simp)) (IH _ (by simp))
   . obtain ⟨a, b, c, rfl⟩ := qsB h3
     rw [if_neg (by decide), if_neg (by decide), if_neg (by decide), Bool.and_eq_true, beq_iff_eq] at h4
     obtain ⟨rfl, g2⟩ := h4
     obtain rfl := qcF g2
     exact .cond a b c (IH _ (by simp)) (IH _ (by simp)) (IH _ (by simp))
   . obtain ⟨a, b, rfl⟩ := qgy h3
     rw [if_neg (by decide), if_neg (by decide), if_neg (by decide), Bool.and_eq_true, beq_iff_eq] at h4
     obtain ⟨rfl, g2⟩ := h4
     obtain rfl := qcF g2
     exact .loop a b (IH _ (by simp)) (IH _ (by simp))
   . obtain ⟨a, rfl⟩ := qnT h3
     rw [if_neg (by decide), if_neg (by decide), if_neg (by decide), Bool.and_eq_true, beq_iff_eq] at h4
     obtain ⟨rfl, g2⟩ := h4
     obtain rfl := qcF g2
     exact .raise a (IH _ (by simp))
   . obtain ⟨a, b, rfl⟩ := qgy h3
     rw [if_neg (by decide), if_pos (by decide), Bool.and_eq_true, Bool.and_eq_true, beq_iff_eq] at h4
     obtain ⟨⟨rfl, g2⟩, g3⟩ := h4
     exact .tri s a b (by unfold wordB; rw [g2, g3]; rfl) (IH _ (by simp)) (IH _ (by simp))
   . obtain ⟨a, rfl⟩ := qnT h3
     rw [if_neg (by decide), if_neg (by decide), if_neg (by decide), Bool.and_eq_true, beq_iff_eq] at h4
     obtain ⟨rfl, g2⟩ := h4
     obtain rfl := qcF g2
     exact .get a (IH _ (by simp))
   . obtain ⟨a, b, rfl⟩ := qgy h3
     rw [if_neg (by decide), if_neg (by decide), if_neg (by decide), Bool.and_eq_true, beq_iff_eq] at h4
     obtain ⟨rfl, g2⟩ := h4
     obtain rfl := qcF g2
     exact .put a b (IH _ (by simp)) (IH _ (by simp))
   . obtain ⟨a, b, rfl⟩ := qgy h3
     rw [if_neg (by decide), if_neg (by decide), if_pos (by decide), Bool.and_eq_true, beq_iff_eq] at h4
     obtain ⟨rfl, g2⟩ := h4
     exact .op s a b g2 (IH _ (by simp)) (IH _ (by simp))
   . obtain ⟨a, b, rfl⟩ := qgy h3
     rw [if_neg (by decide), if_neg (by decide), if_neg (by decide), Bool.and_eq_true, beq_iff_eq] at h4
     obtain ⟨rfl, g2⟩ := h4
     obtain rfl := qcF g2
     exact .sq a b (IH _ (by simp)) (IH _ (by simp))
theorem qbK {s : ByteArray} : wordB s = true ↔ nameB s = true /\ isKey s.data.toList = false := by
 unfold wordB
 rw [Bool.and_eq_true]
 cases isKey s.data.toList <;> simp
theorem qpT {t : Go.Tm.T} (h : Rt t) : qbH t = true := by
 induction h with
 | num n h0 h1 => simp [qbH, qbl, nodeB, qay, T.kind, T.name, T.num, T.kids, qav, h0, h1, ByteArray.size]
 | var s h => obtain ⟨h1, h2⟩ := qbK.1 h; simp [qbH, qbl, nodeB, qay, T.kind, T.name, T.num, T.kids, qav, wordK, h1, h2]
 | fn s a h ha ia => obtain ⟨h1, h2⟩ := qbK.1 h; simp [qbH, qbl, nodeB, qay, T.kind, T.name, T.num, T.kids, qav, wordK, h1, h2, ia]
 | app a b ha hb ia ib => simp [qbH, qbl, nodeB, qay, T.kind, T.name, T.num, T.kids, qav, wordK, ia, ib, ByteArray.size]
 | lt s a b h ha hb ia ib => obtain ⟨h1, h2⟩ := qbK.1 h; simp [qbH, qbl, nodeB, qay, T.kind, T.name, T.num, T.kids, qav, wordK, h1, h2, ia, ib]
 | cond a b c ha hb hc ia ib ic => simp [qbH, qbl, nodeB, qay, T.kind, T.name, T.num, T.kids, qav, wordK, ia, ib, ic, ByteArray.size]
 | loop a b ha hb ia ib => simp [qbH, qbl, nodeB, qay, T.kind, T.name, T.num, T.kids, qav, wordK, ia, ib, ByteArray.size]
 | raise a ha ia => simp [qbH, qbl, nodeB, qay, T.kind, T.name, T.num, T.kids, qav, wordK, ia, ByteArray.size]
 | tri s a b h ha hb ia ib => obtain ⟨h1, h2⟩ := qbK.1 h; simp [qbH, qbl, nodeB, qay, T.kind, T.name, T.num, T.kids, qav, wordK, h1, h2, ia, ib]
 | get a ha ia => simp [qbH, qbl, nodeB, qay, T.kind, T.name, T.num, T.kids, qav, wordK, ia, ByteArray.size]
 | put a b ha hb ia ib => simp [qbH, qbl, nodeB, qay, T.kind, T.name, T.num, T.kids, qav, wordK, ia, ib, ByteArray.size]
 | op s a b h ha hb ia ib => simp [qbH, qbl, nodeB, qay, T.kind, T.name, T.num, T.kids, qav, wordK, h, ia, ib]
 | sq a b ha hb ia ib => simp [qbH, qbl, nodeB, qay, T.kind, T.name, T.num, T.kids, qav, wordK, ia, ib, ByteArray.size]
/-! the tokens -/
def kTok (t : List UInt8) : Tok := ⟨3, t, 0⟩
def mTok (t : List UInt8) : Tok := ⟨4, t, 0⟩
def nTok (t : List UInt8) : Tok := ⟨1, t, 0⟩
def dTok (n : Int) : Tok := ⟨2, Lib.itoa n, n⟩
def leafK (k : Int) : Bool := k == 1 || k == 2
def wrapK (k : Int) (l : List Tok) : List Tok := if leafK k = true then l else mTok [40] :: (l ++ [mTok [41]])
def qdo (k : Int) (s : List UInt8) (n : Int) : List (Tok ⊕ Nat) :=
 if k = 1 then [.inl (dTok n)]
 else if k = 2 then [.inl (nTok s)]
 else if k = 3 then [.inl (kTok [102, 117, 110]), .inl (nTok s), .inl (mTok [61, 62]), .inr 0]
 else if k = 4 then [.inr 0, .inr 1]
 else if k = 5 then [.inl (kTok [108, 101, 116]), .inl (nTok s), .inl (mTok [61]), .inr 0, .inl (kTok [105, 110]), .inr 1]
 else if k = 6 then [.inl (kTok [105, 102]), .inr 0, .inl (kTok [116, 104, 101, 110]), .inr 1, .inl (kTok [101, 108, 115, 101]), .inr 2]
 else if k = 7 then [.inl (kTok [119, 104, 105, 108, 101]), .inr 0, .inl (kTok [100, 111]), .inr 1]
 else if k = 8 then [.inl (kTok [114, 97, 105, 115, 101]), .inr 0]
 else if k = 9 then [.inl (kTok [116, 114, 121]), .inr 0, .inl (kTok [119, 105, 116, 104]), .inl (nTok s), .inl (mTok [61, 62]), .inr 1]
 else if k = 10 then [.inl (mTok [33]), .inr 0]
 else if k = 11 then [.inr 0, .inl (mTok [58, 61]), .inr 1]
 else if k = 12 then [.inr 0, .inl (mTok s), .inr 1]
 else if k = 13 then [.inr 0, .inl (mTok [59]), .inr 1]
 else []
def layP (K : List (List Tok)) : Tok ⊕ Nat -> List Tok
 | .inl x => [x]
 | .inr i => K.getD i []
mutual
def toksT : Go.Tm.T -> List Tok
 | .node k s n ks => (qdo k s.data.toList n).flatMap (layP (qgA ks))
def qgA : List Go.Tm.T -> List (List Tok)
 | [] => []
 | t :: ts => wrapK t.kind (toksT t) :: qgA ts
end
def kidT (t : Go.Tm.T) : List Tok := wrapK t.kind (toksT t)
theorem qbb : ∀ ks : List Go.Tm.T, qgA ks = ks.map kidT
 | [] => by rw [qgA]; rfl
 | t :: ts => by rw [qgA, qbb ts]; rfl
theorem qdp (s n ks) : toksT (.node 1 s n ks) = [dTok n] := by rw [toksT]; rfl
theorem qed (s n ks) : toksT (.node 2 s n ks) = [nTok s.data.toList] := by rw [toksT]; rfl
theorem qfL (s n a) : toksT (.node 3 s n [a]) = kTok [102, 117, 110] :: nTok s.data.toList :: mTok [61, 62] :: kidT a := by
 rw [toksT, qbb]; simp [qdo, layP]
theorem qfM (s n a b) : toksT (.node 4 s n [a, b]) = kidT a ++ kidT b := by
 rw [toksT, qbb]; simp [qdo, layP]
theorem qfN (s n a b) : toksT (.node 5 s n [a, b]) = kTok [108, 101, 116] :: nTok s.data.toList :: mTok [61] :: (kidT a ++ kTok [105, 110] :: kidT b) := by
 rw [toksT, qbb]; simp [qdo, layP]
theorem qfO (s n a b c) : toksT (.node 6 s n [a, b, c]) = kTok [105, 102] :: (kidT a ++ kTok [116, 104, 101, 110] :: (kidT b ++ kTok [101, 108, 115, 101] :: kidT c)) := by
 rw [toksT, qbb]; simp [qdo, layP]
theorem qfP (s n a b) : toksT (.node 7 s n [a, b]) = kTok [119, 104, 105, 108, 101] :: (kidT a ++ kTok [100, 111] :: kidT b) := by
 rw [toksT, qbb]; simp [qdo, layP]
theorem qfQ (s n a) : toksT (.node 8 s n [a]) = kTok [114, 97, 105, 115, 101] :: kidT a := by
 rw [toksT, qbb]; simp [qdo, layP]
theorem qfR (s n a b) : toksT (.node 9 s n [a, b]) = kTok [116, 114, 121] :: (kidT a ++ kTok [119, 105, 116, 104] :: nTok s.data.toList :: mTok [61, 62] :: kidT b) := by
 rw [toksT, qbb]; simp [qdo, layP]
theorem qdA (s n a) : toksT (.node 10 s n [a]) = mTok [33] :: kidT a := by
 rw [toksT, qbb]; simp [qdo, layP]
theorem qdB (s n a b) : toksT (.node 11 s n [a, b]) = kidT a ++ mTok [58, 61] :: kidT b := by
 rw [toksT, qbb]; simp [qdo, layP]
theorem qdC (s n a b) : toksT (.node 12 s n [a, b]) = kidT a ++ mTok s.data.toList :: kidT b := by
 rw [toksT, qbb]; simp [qdo, layP]
theorem qdD (s n a b) : toksT (.node 13 s n [a, b]) = kidT a ++ mTok [59] :: kidT b := by
 rw [toksT, qbb]; simp [qdo, layP]
/-! all are right, and short -/
theorem qlu (d : Nat) (h : d < 10) : qat (UInt8.ofNat (48 + d)) = true /\ (UInt8.ofNat (48 + d)).toNat - 48 = d := by
 have : ∀ i : Fin 10, qat (UInt8.ofNat (48 + i.val)) = true /\ (UInt8.ofNat (48 + i.val)).toNat - 48 = i.val := by decide
 exact this ⟨d, h⟩
theorem qlv : ∀ (a b : List UInt8) (acc : Nat), valL acc (a ++ b) = valL (valL acc a) b
 | [], _, _ => rfl
 | _ :: a, b, _ => qlv a b _
theorem qnU (u : Nat) : (Lib.decDigits u).all qat = true /\ valL 0 (Lib.decDigits u) = u := by
 induction u using Nat.strongRecOn with
 | _ u ih =>
   rw [Lib.decDigits]
   split
   . rename_i h
     have := qlu u h
     refine ⟨by rw [List.all_cons, this.1]; rfl, ?_⟩
     show 0 * 10 + ((UInt8.ofNat (48 + u)).toNat - 48) = u
     rw [this.2]; omega
   . rename_i h
     obtain ⟨h1, h2⟩ := ih (u / 10) (by omega)
     have := qlu (u % 10) (by omega)
     refine ⟨by rw [List.all_append, h1, List.all_cons, this.1]; rfl, ?_⟩
     rw [qlv, h2]
     show u / 10 * 10 + ((UInt8.ofNat (48 + u % 10)).toNat - 48) = u
     rw [this.2]; omega
theorem qes {n : Int} (h : 0 <= n) : Lib.itoa n = Lib.decDigits n.toNat := by unfold Lib.itoa; rw [if_neg (by omega)]
theorem qnV {n : Int} (h : 0 <= n) : Lib.itoa n ≠ [] := fun e => by
 have h1 := Lib.decDigits_length n.toNat
 rw [<- qes h, e] at h1
 have := Lib.nDigits_pos n.toNat
 simp at h1; omega
theorem qgB {n : Int} (h : 0 <= n) : (Lib.itoa n).all qat = true := by rw [qes h]; exact (qnU _).1
theorem qfZ {n : Int} (h : 0 <= n) (h2 : n <= 2147483647) : (Lib.itoa n).length <= 10 := by
 rw [qes h, Lib.decDigits_length]
 exact qfd 9 _ (by omega)
theorem qiq {t : List UInt8} (h : t.all qat = true) (hne : t ≠ []) : qak t = (2, t.length) := by
 cases t with
 | nil => exact absurd rfl hne
 | cons c r =>
   have hc : qat c = true := by rw [List.all_cons, Bool.and_eq_true] at h; exact h.1
   have hl := qdn hc
   have hr := qfW h
   have h48 := qeg.1 hc
   rw [qaD, if_neg (fun e => by subst e; revert hc; decide), if_neg (fun e => by rcases e with rfl | rfl <;> revert hc <;> decide), if_neg (fun e => by rcases e with rfl | rfl <;> revert hc <;> decide), if_neg (fun e => by
     have : ∀ c ∈ qdm, qat c = false := by decide
     rw [this c e] at hc; cases hc), hl, if_neg (by decide), hc, if_pos rfl, hr]
theorem qkt {n : Int} (h : 0 <= n) (h2 : n <= 2147483647) : Go.Lx.qai (dTok n) = true := by
 have hd := qgB h
 have hne := qnV h
 have hh := qiq hd hne
 refine qem hne (by show (qak (Lib.itoa n)).2 = _; rw [hh]; rfl) ?_
 show tokL (qak (Lib.itoa n)).1 (Lib.itoa n) = _
 rw [hh]
 have e1 : tokL 2 (Lib.itoa n) = numL (Lib.itoa n) := by unfold tokL; rw [if_neg (by simp), if_neg (by simp), if_pos rfl]
 show tokL 2 (Lib.itoa n) = _
 rw [e1, qij hne hd]
 have hv : valL 0 (Lib.itoa n) = n.toNat := by rw [qes h]; exact (qnU _).2
 unfold qfJ
 rw [if_pos ⟨by cases he : Lib.itoa n with
   | nil => exact absurd he hne
   | cons a b => simp, qfZ h h2, hd, by rw [hv]; omega, by rw [hv, qes h]⟩, hv]
 show some (⟨2, Lib.itoa n, (n.toNat : Int)⟩ : Tok) = some ⟨2, Lib.itoa n, n⟩
 rw [Int.toNat_of_nonneg h]
theorem qfo {s : ByteArray} (h : wordB s = true) : Go.Lx.qai (nTok s.data.toList) = true := by
 obtain ⟨h1, h2⟩ := qbK.1 h
 have h1 : nameL s.data.toList = true := h1
 show Go.Lx.qai ⟨1, s.data.toList, 0⟩ = true
 rw [qhF, h1, h2]; rfl
theorem qet {s : ByteArray} (h : opB s.data.toList = true) : s.data.toList = [43] ∨ s.data.toList = [45] ∨ s.data.toList = [42] ∨ s.data.toList = [60] ∨ s.data.toList = [61] := by
 unfold opB opL at h
 simp at h
 rcases h with h | h | h | h | h
 . exact .inl h.symm
 . exact .inr (.inl h.symm)
 . exact .inr (.inr (.inl h.symm))
 . exact .inr (.inr (.inr (.inl h.symm)))
 . exact .inr (.inr (.inr (.inr h.symm)))
def okTok (x : Tok) : Bool := Go.Lx.qai x && decide (x.text.length <= 16)
theorem ok_d {n : Int} (h : 0 <= n) (h2 : n <= 2147483647) : okTok (dTok n) = true := by
 unfold okTok
 rw [qkt h h2, Bool.true_and, decide_eq_true_eq]
 have := qfZ h h2
 show (Lib.itoa n).length <= 16
 omega
theorem ok_n {s : ByteArray} (h : wordB s = true) : okTok (nTok s.data.toList) = true := by
 unfold okTok
 rw [qfo h, Bool.true_and, decide_eq_true_eq]
 obtain ⟨h1, h2⟩ := qbK.1 h
 have h3 : nameL s.data.toList = true := h1
 exact (qdr h3).2.2
theorem ok_op {s : ByteArray} (h : opB s.data.toList = true) : okTok (mTok s.data.toList) = true := by
 rcases qet h with e | e | e | e | e <;> rw [e] <;> decide
theorem qrG {k : Int} {l : List Tok} (h : l.all okTok = true) : (wrapK k l).all okTok = true := by
 unfold wrapK
 split
 . exact h
 . rw [List.all_cons, List.all_append, h]; decide
theorem kk (t : List UInt8) (h : okTok (kTok t) = true) : okTok (kTok t) = true := h
theorem qnW {t : Go.Tm.T} (h : Rt t) : (toksT t).all okTok = true := by
 have c1 : okTok (kTok [102, 117, 110]) = true := by decide
 have c2 : okTok (kTok [108, 101, 116]) = true := by decide
 have c3 : okTok (kTok [105, 110]) = true := by decide
 have c4 : okTok (kTok [105, 102]) = true := by decide
 have c5 : okTok (kTok [116, 104, 101, 110]) = true := by decide
 have c6 : okTok (kTok [101, 108, 115, 101]) = true := by decide
 have c7 : okTok (kTok [119, 104, 105, 108, 101]) = true := by decide
 have c8 : okTok (kTok [100, 111]) = true := by decide
 have c9 : okTok (kTok [114, 97, 105, 115, 101]) = true := by decide
 have c10 : okTok (kTok [116, 114, 121]) = true := by decide
 have c11 : okTok (kTok [119, 105, 116, 104]) = true := by decide
 have m1 : okTok (mTok [61, 62]) = true := by decide
 have m2 : okTok (mTok [61]) = true := by decide
 have m3 : okTok (mTok [33]) = true := by decide
 have m4 : okTok (mTok [58, 61]) = true := by decide
 have m5 : okTok (mTok [59]) = true := by decide
 have K : ∀ {a : Go.Tm.T}, (toksT a).all okTok = true -> (kidT a).all okTok = true := fun h => qrG h
 induction h with
 | num n h0 h1 => rw [qdp]; simp only [List.all_cons, List.all_nil, ok_d h0 h1, Bool.and_self]
 | var s h => rw [qed]; simp only [List.all_cons, List.all_nil, ok_n h, Bool.and_self]
 | fn s a h ha ia => rw [qfL]; simp only [List.all_cons, c1, m1, ok_n h, K ia, Bool.and_self]
 | app a b ha hb ia ib => rw [qfM]; simp only [List.all_append, K ia, K ib, Bool.and_self]
 | lt s a b h ha hb ia ib => rw [qfN]; simp only [List.all_cons, List.all_append, c2, c3, m2, ok_n h, K ia, K ib, Bool.and_self]
 | cond a b c ha hb hc ia ib ic => rw [qfO]; simp only [List.all_cons, List.all_append, c4, c5, c6, K ia, K ib, K ic, Bool.and_self]
 | loop a b ha hb ia ib => rw [qfP]; simp only [List.all_cons, List.all_append, c7, c8, K ia, K ib, Bool.and_self]
 | raise a ha ia => rw [qfQ]; simp only [List.all_cons, c9, K ia, Bool.and_self]
 | tri s a b h ha hb ia ib => rw [qfR]; simp only [List.all_cons, List.all_append, c10, c11, m1, ok_n h, K ia, K ib, Bool.and_self]
 | get a ha ia => rw [qdA]; simp only [List.all_cons, m3, K ia, Bool.and_self]
 | put a b ha hb ia ib => rw [qdB]; simp only [List.all_cons, List.all_append, m4, K ia, K ib, Bool.and_self]
 | op s a b h ha hb ia ib => rw [qdC]; simp only [List.all_cons, List.all_append, ok_op h, K ia, K ib, Bool.and_self]
 | sq a b ha hb ia ib => rw [qdD]; simp only [List.all_cons, List.all_append, m5, K ia, K ib, Bool.and_self]
theorem qdU {t : Go.Tm.T} (h : Rt t) : Go.Lx.qao (toksT t) = true := by
 unfold Go.Lx.qao
 rw [List.all_eq_true]
 intro x hx
 have := List.all_eq_true.1 (qnW h) x hx
 unfold okTok at this
 rw [Bool.and_eq_true] at this
 exact this.1
theorem qmF {t : Go.Tm.T} (h : Rt t) : ∀ x ∈ toksT t, x.text.length <= 16 := fun x hx => by
 have := List.all_eq_true.1 (qnW h) x hx
 unfold okTok at this
 rw [Bool.and_eq_true, decide_eq_true_eq] at this
 exact this.2
theorem qrH (t : Go.Tm.T) : (kidT t).length <= (toksT t).length + 2 := by
 unfold kidT wrapK
 split <;> simp
theorem qeu {t : Go.Tm.T} (h : Rt t) : (toksT t).length + 2 <= 6 * t.size /\ 1 <= (toksT t).length := by
 have K := qrH
 have P : ∀ a : Go.Tm.T, 1 <= (toksT a).length -> 1 <= (kidT a).length := fun a h => by
   unfold kidT wrapK
   split
   . exact h
   . simp
 induction h with
 | num n h0 h1 => rw [qdp, T.size, sizes]; simp
 | var s h => rw [qed, T.size, sizes]; simp
 | fn s a h ha ia => have := K a; rw [qfL, T.size, sizes, sizes]; simp; omega
 | app a b ha hb ia ib => have := K a; have := K b; have := P a ia.2; rw [qfM, T.size, sizes, sizes, sizes]; simp; omega
 | lt s a b h ha hb ia ib => have := K a; have := K b; rw [qfN, T.size, sizes, sizes, sizes]; simp; omega
 | cond a b c ha hb hc ia ib ic => have := K a; have := K b; have := K c; rw [qfO, T.size, sizes, sizes, sizes, sizes]; simp; omega
 | loop a b ha hb ia ib => have := K a; have := K b; rw [qfP, T.size, sizes, sizes, sizes]; simp; omega
 | raise a ha ia => have := K a; rw [qfQ, T.size, sizes, sizes]; simp; omega
 | tri s a b h ha hb ia ib => have := K a; have := K b; rw [qfR, T.size, sizes, sizes, sizes]; simp; omega
 | get a ha ia => have := K a; rw [qdA, T.size, sizes, sizes]; simp; omega
 | put a b ha hb ia ib => have := K a; have := K b; rw [qdB, T.size, sizes, sizes, sizes]; simp; omega
 | op s a b h ha hb ia ib => have := K a; have := K b; rw [qdC, T.size, sizes, sizes, sizes]; simp; omega
 | sq a b ha hb ia ib => have := K a; have := K b; rw [qdD, T.size, sizes, sizes, sizes]; simp; omega
def qaS (l : List Tok) : List UInt8 := Lib.join (l.map (·.text)) [32]
theorem qnX : ∀ (l : List Tok), (∀ x ∈ l, x.text.length <= 16) -> (qaS l).length <= 17 * l.length
 | [], _ => by unfold qaS; rw [List.map_nil, Lib.join_nil]; simp
 | x :: l, h => by
   unfold qaS
   rw [List.map_cons, Lib.join_cons, List.length_append]
   have h1 := h x (by simp)
   have h2 : ∀ l : List Tok, (∀ x ∈ l, x.text.length <= 16) -> (Lib.joinTail [32] (l.map (·.text))).length <= 17 * l.length := fun l h => by
     unfold Lib.joinTail
     induction l with
     | nil => simp
     | cons y l ih =>
       have g1 := h y (by simp)
       have g2 := ih (fun x hx => h x (by simp [hx]))
       simp at g2 ⊢
       omega
   have := h2 l (fun x hx => h x (by simp [hx]))
   rw [List.length_cons]; omega
theorem qpU {t : Go.Tm.T} (h : Rt t) : (qaS (toksT t)).length <= 102 * t.size := by
 have h1 := qnX _ (qmF h)
 have h2 := (qeu h).1
 omega
theorem qjg {s : ByteArray} (h : wordB s = true) : ∃ c r, s.data.toList = c :: r /\ qas c = true := by
 obtain ⟨h1, h2⟩ := qbK.1 h
 have h3 : nameL s.data.toList = true := h1
 cases hs : s.data.toList with
 | nil => rw [hs] at h3; cases h3
 | cons c r =>
   rw [hs] at h3
   unfold nameL at h3
   rw [Bool.and_eq_true, Bool.and_eq_true] at h3
   exact ⟨c, r, rfl, h3.1.2⟩
theorem qgC {n : Int} (h : 0 <= n) : ∃ c r, Lib.itoa n = c :: r /\ qat c = true := by
 have h1 := qgB h
 have h2 := qnV h
 cases hs : Lib.itoa n with
 | nil => exact absurd hs h2
 | cons c r =>
   rw [hs, List.all_cons, Bool.and_eq_true] at h1
   exact ⟨c, r, rfl, h1.1⟩
/-! what a parenthesis closes -/
def isO (x : Tok) : Bool := x == mTok [40]
def isC (x : Tok) : Bool := x == mTok [41]
def cut : Nat -> List Tok -> List Tok × List Tok
 | _, [] => ([], [])
 | d, x :: l => if isO x = true then (x :: (cut (d + 1) l).1, (cut (d + 1) l).2)
   else if isC x = true then (match d with | 0 => ([], l) | d + 1 => (x :: (cut d l).1, (cut d l).2))
   else (x :: (cut d l).1, (cut d l).2)
theorem qdV {t : Go.Tm.T} (h : leafK t.kind = true) : kidT t = toksT t := by unfold kidT wrapK; rw [if_pos h]
theorem qev {t : Go.Tm.T} (h : leafK t.kind = false) : kidT t = mTok [40] :: (toksT t ++ [mTok [41]]) := by unfold kidT wrapK; rw [if_neg (by rw [h]; decide)]
def parI (l : List Tok) : Int := (l.countP (fun x => x.text == [40]) : Nat) - (l.countP (fun x => x.text == [41]) : Nat)
theorem qde (a b : List Tok) : parI (a ++ b) = parI a + parI b := by
 unfold parI; rw [List.countP_append, List.countP_append]; push_cast; omega
theorem qew (x : Tok) (b : List Tok) : parI (x :: b) = parI [x] + parI b := qde [x] b
structure Par (l : List Tok) : Prop where
 up : ∀ k, 0 <= parI (l.take k)
 all : parI l = 0
theorem qnY : Par [] := ⟨fun k => by rw [List.take_nil]; decide, rfl⟩
theorem qcO {a b : List Tok} (ha : Par a) (hb : Par b) : Par (a ++ b) :=
 ⟨fun k => by
   rw [List.take_append, qde]
   have h1 := ha.up k
   have h2 := hb.up (k - a.length)
   omega, by rw [qde, ha.all, hb.all]; rfl⟩
theorem qku {x : Tok} (h1 : x.text ≠ [40]) (h2 : x.text ≠ [41]) : Par [x] := by
 have e : parI [x] = 0 := by
   unfold parI
   rw [List.countP_singleton, List.countP_singleton]
   simp [h1, h2]
 exact ⟨fun k => by
   cases k with
   | zero => rw [List.take_zero]; decide
   | succ k => rw [List.take_succ_cons, List.take_nil, e]; decide, e⟩
theorem qaQ {x : Tok} (h1 : x.text ≠ [40]) (h2 : x.text ≠ [41]) {b : List Tok} (hb : Par b) : Par (x :: b) := qcO (qku h1 h2) hb
theorem qpV {b : List Tok} (hb : Par b) : Par (mTok [40] :: (b ++ [mTok [41]])) := by
 have e1 : parI [mTok [40]] = 1 := by decide
 have e2 : parI [mTok [41]] = -1 := by decide
 refine ⟨fun k => ?_, by rw [qew, qde, hb.all, e1, e2]; decide⟩
 cases k with
 | zero => rw [List.take_zero]; decide
 | succ k =>
   rw [List.take_succ_cons, qew, e1, List.take_append, qde]
   have h1 := hb.up k
   have h2 : -1 <= parI ([mTok [41]].take (k - b.length)) := by
     cases k - b.length with
     | zero => rw [List.take_zero]; decide
     | succ j => rw [List.take_succ_cons, List.take_nil, e2]; decide
   omega
theorem qcP {t : Go.Tm.T} (h : Par (toksT t)) : Par (kidT t) := by
 unfold kidT wrapK
 split
 . exact h
 . exact qpV h
theorem qkv {c : UInt8} (h : qas c = true) (m : UInt8) (hm : qas m = false) : c ≠ m := fun e => by rw [e, hm] at h; cases h
theorem qga {s : ByteArray} (h : wordB s = true) (m : UInt8) (hm : qas m = false) (r : List UInt8) : s.data.toList ≠ m :: r := fun e => by
 obtain ⟨c, q, h1, h2⟩ := qjg h
 rw [h1] at e
 injection e with e1
 exact qkv h2 m hm e1
theorem qir {n : Int} (h : 0 <= n) (m : UInt8) (hm : qat m = false) (r : List UInt8) : Lib.itoa n ≠ m :: r := fun e => by
 obtain ⟨c, q, h1, h2⟩ := qgC h
 rw [h1] at e
 injection e with e1
 rw [e1, hm] at h2; cases h2
theorem qsC {s : ByteArray} (h : opB s.data.toList = true) {b : List Tok} (hb : Par b) : Par (mTok s.data.toList :: b) := by
 rcases qet h with e | e | e | e | e <;> rw [e] <;> exact qaQ (by decide) (by decide) hb
theorem qgb {s : ByteArray} (h : wordB s = true) {b : List Tok} (hb : Par b) : Par (nTok s.data.toList :: b) := qaQ (qga h 40 (by decide) []) (qga h 41 (by decide) []) hb
theorem qcg {t : Go.Tm.T} (h : Rt t) : Par (toksT t) := by
 have K : ∀ {a : Go.Tm.T}, Par (toksT a) -> Par (kidT a) := qcP
 induction h with
 | num n h0 h1 => rw [qdp]; exact qaQ (qir h0 40 (by decide) []) (qir h0 41 (by decide) []) qnY
 | var s h => rw [qed]; exact qgb h qnY
 | fn s a h ha ia => rw [qfL]; exact qaQ (by decide) (by decide) (qgb h (qaQ (by decide) (by decide) (K ia)))
 | app a b ha hb ia ib => rw [qfM]; exact qcO (K ia) (K ib)
 | lt s a b h ha hb ia ib => rw [qfN]; exact qaQ (by decide) (by decide) (qgb h (qaQ (by decide) (by decide) (qcO (K ia) (qaQ (by decide) (by decide) (K ib)))))
 | cond a b c ha hb hc ia ib ic => rw [qfO]; exact qaQ (by decide) (by decide) (qcO (K ia) (qaQ (by decide) (by decide) (qcO (K ib) (qaQ (by decide) (by decide) (K ic)))))
 | loop a b ha hb ia ib => rw [qfP]; exact qaQ (by decide) (by decide) (qcO (K ia) (qaQ (by decide) (by decide) (K ib)))
 | raise a ha ia => rw [qfQ]; exact qaQ (by decide) (by decide) (K ia)
 | tri s a b h ha hb ia ib => rw [qfR]; exact qaQ (by decide) (by decide) (qcO (K ia) (qaQ (by decide) (by decide) (qgb h (qaQ (by decide) (by decide) (K ib)))))
 | get a ha ia => rw [qdA]; exact qaQ (by decide) (by decide) (K ia)
 | put a b ha hb ia ib => rw [qdB]; exact qcO (K ia) (qaQ (by decide) (by decide) (K ib))
 | op s a b h ha hb ia ib => rw [qdC]; exact qcO (K ia) (qsC h (K ib))
 | sq a b ha hb ia ib => rw [qdD]; exact qcO (K ia) (qaQ (by decide) (by decide) (K ib))
mutual
def qsD (K : Int) : Go.Tm.T -> Nat
 | .node k _ _ ks => (if k = K then 1 else 0) + qnZ K ks
def qnZ (K : Int) : List Go.Tm.T -> Nat
 | [] => 0
 | t :: ts => qsD K t + qnZ K ts
end
end Go.Proofs.YtjnfhebbphdchaaGreatDoor
