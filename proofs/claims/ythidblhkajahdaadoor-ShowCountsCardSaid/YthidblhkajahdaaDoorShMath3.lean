/-
  Parentheses close what they open; how many tokens have a keyword's text. No condition.
-/
import Derived.Test.YthidblhkajahdaaDoorShMath2
namespace Go.Proofs.YthidblhkajahdaaDoor
open Go.RowKit Go.Shelf Go.Tm Go.Lx

/-- how many more `(` than `)` -/
def parI (l : List Tok) : Int := (l.countP (fun x => x.text == [40]) : Nat) - (l.countP (fun x => x.text == [41]) : Nat)
theorem parI_app (a b : List Tok) : parI (a ++ b) = parI a + parI b := by
  unfold parI; rw [List.countP_append, List.countP_append]; push_cast; omega
theorem parI_cons (x : Tok) (b : List Tok) : parI (x :: b) = parI [x] + parI b := parI_app [x] b
/-- never below nought, and nought at the end -/
structure Par (l : List Tok) : Prop where
  up : ∀ k, 0 ≤ parI (l.take k)
  all : parI l = 0
theorem par_nil : Par [] := ⟨fun k => by rw [List.take_nil]; decide, rfl⟩
theorem par_app {a b : List Tok} (ha : Par a) (hb : Par b) : Par (a ++ b) :=
  ⟨fun k => by
    rw [List.take_append, parI_app]
    have h1 := ha.up k
    have h2 := hb.up (k - a.length)
    omega, by rw [parI_app, ha.all, hb.all]; rfl⟩
theorem par_one {x : Tok} (h1 : x.text ≠ [40]) (h2 : x.text ≠ [41]) : Par [x] := by
  have e : parI [x] = 0 := by
    unfold parI
    rw [List.countP_singleton, List.countP_singleton]
    simp [h1, h2]
  exact ⟨fun k => by
    cases k with
    | zero => rw [List.take_zero]; decide
    | succ k => rw [List.take_succ_cons, List.take_nil, e]; decide, e⟩
theorem par_cons {x : Tok} (h1 : x.text ≠ [40]) (h2 : x.text ≠ [41]) {b : List Tok} (hb : Par b) : Par (x :: b) := par_app (par_one h1 h2) hb
theorem par_wrap {b : List Tok} (hb : Par b) : Par (mTok [40] :: (b ++ [mTok [41]])) := by
  have e1 : parI [mTok [40]] = 1 := by decide
  have e2 : parI [mTok [41]] = -1 := by decide
  refine ⟨fun k => ?_, by rw [parI_cons, parI_app, hb.all, e1, e2]; decide⟩
  cases k with
  | zero => rw [List.take_zero]; decide
  | succ k =>
    rw [List.take_succ_cons, parI_cons, e1, List.take_append, parI_app]
    have h1 := hb.up k
    have h2 : -1 ≤ parI ([mTok [41]].take (k - b.length)) := by
      cases k - b.length with
      | zero => rw [List.take_zero]; decide
      | succ j => rw [List.take_succ_cons, List.take_nil, e2]; decide
    omega
theorem par_kid {t : Go.Tm.T} (h : Par (toksT t)) : Par (kidT t) := by
  unfold kidT wrapK
  split
  · exact h
  · exact par_wrap h
theorem letter_mark {c : UInt8} (h : isLetter c = true) (m : UInt8) (hm : isLetter m = false) : c ≠ m := fun e => by rw [e, hm] at h; cases h
theorem name_not {s : ByteArray} (h : wordB s = true) (m : UInt8) (hm : isLetter m = false) (r : List UInt8) : s.data.toList ≠ m :: r := fun e => by
  obtain ⟨c, q, h1, h2⟩ := letter_first h
  rw [h1] at e
  injection e with e1
  exact letter_mark h2 m hm e1
theorem num_not {n : Int} (h : 0 ≤ n) (m : UInt8) (hm : isDigit m = false) (r : List UInt8) : Lib.itoa n ≠ m :: r := fun e => by
  obtain ⟨c, q, h1, h2⟩ := digit_first h
  rw [h1] at e
  injection e with e1
  rw [e1, hm] at h2; cases h2
theorem par_op {s : ByteArray} (h : opB s.data.toList = true) {b : List Tok} (hb : Par b) : Par (mTok s.data.toList :: b) := by
  rcases op_cases h with e | e | e | e | e <;> rw [e] <;> exact par_cons (by decide) (by decide) hb
theorem par_name {s : ByteArray} (h : wordB s = true) {b : List Tok} (hb : Par b) : Par (nTok s.data.toList :: b) := par_cons (name_not h 40 (by decide) []) (name_not h 41 (by decide) []) hb
theorem toks_par {t : Go.Tm.T} (h : Rt t) : Par (toksT t) := by
  have K : ∀ {a : Go.Tm.T}, Par (toksT a) → Par (kidT a) := par_kid
  induction h with
  | num n h0 h1 => rw [toks_1]; exact par_cons (num_not h0 40 (by decide) []) (num_not h0 41 (by decide) []) par_nil
  | var s h => rw [toks_2]; exact par_name h par_nil
  | fn s a h ha ia => rw [toks_3]; exact par_cons (by decide) (by decide) (par_name h (par_cons (by decide) (by decide) (K ia)))
  | app a b ha hb ia ib => rw [toks_4]; exact par_app (K ia) (K ib)
  | lt s a b h ha hb ia ib => rw [toks_5]; exact par_cons (by decide) (by decide) (par_name h (par_cons (by decide) (by decide) (par_app (K ia) (par_cons (by decide) (by decide) (K ib)))))
  | cond a b c ha hb hc ia ib ic => rw [toks_6]; exact par_cons (by decide) (by decide) (par_app (K ia) (par_cons (by decide) (by decide) (par_app (K ib) (par_cons (by decide) (by decide) (K ic)))))
  | loop a b ha hb ia ib => rw [toks_7]; exact par_cons (by decide) (by decide) (par_app (K ia) (par_cons (by decide) (by decide) (K ib)))
  | raise a ha ia => rw [toks_8]; exact par_cons (by decide) (by decide) (K ia)
  | tri s a b h ha hb ia ib => rw [toks_9]; exact par_cons (by decide) (by decide) (par_app (K ia) (par_cons (by decide) (by decide) (par_name h (par_cons (by decide) (by decide) (K ib)))))
  | get a ha ia => rw [toks_10]; exact par_cons (by decide) (by decide) (K ia)
  | put a b ha hb ia ib => rw [toks_11]; exact par_app (K ia) (par_cons (by decide) (by decide) (K ib))
  | op s a b h ha hb ia ib => rw [toks_12]; exact par_app (K ia) (par_op h (K ib))
  | sq a b ha hb ia ib => rw [toks_13]; exact par_app (K ia) (par_cons (by decide) (by decide) (K ib))

/-! how many -/
def cntW (w : List UInt8) (l : List Tok) : Nat := l.countP (fun x => x.text == w)
mutual
def kcount (K : Int) : Go.Tm.T → Nat
  | .node k _ _ ks => (if k = K then 1 else 0) + kcounts K ks
def kcounts (K : Int) : List Go.Tm.T → Nat
  | [] => 0
  | t :: ts => kcount K t + kcounts K ts
end
def ownC (k : Int) : List (List UInt8) := (partsK k [] 0).filterMap fun p => match p with
  | .inl x => if x.kind = 3 ∨ x.kind = 4 then some x.text else none
  | .inr _ => none
/-- a keyword, or a mark, that stands just at one kind -/
structure Wd (w : List UInt8) (K : Int) : Prop where
  o : ([40] == w) = false
  c : ([41] == w) = false
  nm : ∀ s, wordB s = true → (s.data.toList == w) = false
  nu : ∀ n : Int, 0 ≤ n → (Lib.itoa n == w) = false
  op : ∀ s : ByteArray, opB s.data.toList = true → (s.data.toList == w) = false
  k1 : K ≠ 1
  k2 : K ≠ 2
  k3 : (List.countP (· == w) [[102, 117, 110], [61, 62]]) = if (3 : Int) = K then 1 else 0
  k4 : K ≠ 4
  k5 : (List.countP (· == w) [[108, 101, 116], [61], [105, 110]]) = if (5 : Int) = K then 1 else 0
  k6 : (List.countP (· == w) [[105, 102], [116, 104, 101, 110], [101, 108, 115, 101]]) = if (6 : Int) = K then 1 else 0
  k7 : (List.countP (· == w) [[119, 104, 105, 108, 101], [100, 111]]) = if (7 : Int) = K then 1 else 0
  k8 : (List.countP (· == w) [[114, 97, 105, 115, 101]]) = if (8 : Int) = K then 1 else 0
  k9 : (List.countP (· == w) [[116, 114, 121], [119, 105, 116, 104], [61, 62]]) = if (9 : Int) = K then 1 else 0
  k10 : (List.countP (· == w) [[33]]) = if (10 : Int) = K then 1 else 0
  k11 : (List.countP (· == w) [[58, 61]]) = if (11 : Int) = K then 1 else 0
  k12 : K ≠ 12
  k13 : (List.countP (· == w) [[59]]) = if (13 : Int) = K then 1 else 0
theorem cnt_kid {w : List UInt8} {K : Int} (H : Wd w K) (a : Go.Tm.T) : cntW w (kidT a) = cntW w (toksT a) := by
  unfold kidT wrapK
  split
  · rfl
  · unfold cntW
    rw [List.countP_cons, List.countP_append, List.countP_singleton]
    have e1 : ((mTok [40]).text == w) = false := H.o
    have e2 : ((mTok [41]).text == w) = false := H.c
    rw [e1, e2]; simp
theorem toks_cnt {w : List UInt8} {K : Int} (H : Wd w K) {t : Go.Tm.T} (h : Rt t) : cntW w (toksT t) = kcount K t := by
  have C := fun a => cnt_kid H a
  have c0 : ∀ (x : Tok) (l : List Tok), cntW w (x :: l) = cntW w l + if (x.text == w) = true then 1 else 0 := fun x l => List.countP_cons ..
  have c1 : ∀ (a b : List Tok), cntW w (a ++ b) = cntW w a + cntW w b := fun a b => List.countP_append ..
  have c2 : cntW w [] = 0 := rfl
  have ek : ∀ t, (kTok t).text = t := fun _ => rfl
  have em : ∀ t, (mTok t).text = t := fun _ => rfl
  have en : ∀ t, (nTok t).text = t := fun _ => rfl
  induction h with
  | num n h0 h1 =>
    rw [toks_1, kcount, kcounts, if_neg (Ne.symm H.k1), c0, c2]
    have : ((dTok n).text == w) = false := H.nu n h0
    rw [this]; rfl
  | var s h =>
    rw [toks_2, kcount, kcounts, if_neg (Ne.symm H.k2), c0, c2, en, H.nm s h]; rfl
  | fn s a h ha ia =>
    have := H.k3
    simp only [List.countP_cons, List.countP_nil] at this
    rw [toks_3, kcount, kcounts, kcounts, c0, c0, c0, C, ia, en, ek, em, H.nm s h, ← this]
    simp; omega
  | app a b ha hb ia ib => rw [toks_4, kcount, kcounts, kcounts, kcounts, if_neg (Ne.symm H.k4), c1, C, C, ia, ib]; omega
  | lt s a b h ha hb ia ib =>
    have := H.k5
    simp only [List.countP_cons, List.countP_nil] at this
    rw [toks_5, kcount, kcounts, kcounts, kcounts, c0, c0, c0, c1, c0, C, C, ia, ib, en, ek, ek, em, H.nm s h, ← this]
    simp; omega
  | cond a b c ha hb hc ia ib ic =>
    have := H.k6
    simp only [List.countP_cons, List.countP_nil] at this
    rw [toks_6, kcount, kcounts, kcounts, kcounts, kcounts, c0, c1, c0, c1, c0, C, C, C, ia, ib, ic, ek, ek, ek, ← this]
    omega
  | loop a b ha hb ia ib =>
    have := H.k7
    simp only [List.countP_cons, List.countP_nil] at this
    rw [toks_7, kcount, kcounts, kcounts, kcounts, c0, c1, c0, C, C, ia, ib, ek, ek, ← this]
    omega
  | raise a ha ia =>
    have := H.k8
    simp only [List.countP_cons, List.countP_nil] at this
    rw [toks_8, kcount, kcounts, kcounts, c0, C, ia, ek, ← this]
    omega
  | tri s a b h ha hb ia ib =>
    have := H.k9
    simp only [List.countP_cons, List.countP_nil] at this
    rw [toks_9, kcount, kcounts, kcounts, kcounts, c0, c1, c0, c0, c0, C, C, ia, ib, en, ek, ek, em, H.nm s h, ← this]
    simp; omega
  | get a ha ia =>
    have := H.k10
    simp only [List.countP_cons, List.countP_nil] at this
    rw [toks_10, kcount, kcounts, kcounts, c0, C, ia, em, ← this]
    omega
  | put a b ha hb ia ib =>
    have := H.k11
    simp only [List.countP_cons, List.countP_nil] at this
    rw [toks_11, kcount, kcounts, kcounts, kcounts, c1, c0, C, C, ia, ib, em, ← this]
    omega
  | op s a b h ha hb ia ib =>
    rw [toks_12, kcount, kcounts, kcounts, kcounts, if_neg (Ne.symm H.k12), c1, c0, C, C, ia, ib, em, H.op s h]
    simp
  | sq a b ha hb ia ib =>
    have := H.k13
    simp only [List.countP_cons, List.countP_nil] at this
    rw [toks_13, kcount, kcounts, kcounts, kcounts, c1, c0, C, C, ia, ib, em, ← this]
    omega
theorem key_not {w : List UInt8} (hk : isKey w = true) (s : ByteArray) (h : wordB s = true) : (s.data.toList == w) = false := by
  rw [beq_eq_false_iff_ne]
  intro e
  have := (wordB_iff.1 h).2
  rw [e, hk] at this; cases this
theorem wd_mk {w : List UInt8} {K : Int} (c : UInt8) (r : List UInt8) (hw : w = c :: r) (hd : isDigit c = false) (nm : ∀ s, wordB s = true → (s.data.toList == w) = false)
    (op : w ≠ [43] ∧ w ≠ [45] ∧ w ≠ [42] ∧ w ≠ [60] ∧ w ≠ [61]) (o : ([40] == w) = false) (c' : ([41] == w) = false) (k1 : K ≠ 1) (k2 : K ≠ 2) (k4 : K ≠ 4) (k12 : K ≠ 12)
    (k3 : (List.countP (· == w) [[102, 117, 110], [61, 62]]) = if (3 : Int) = K then 1 else 0)
    (k5 : (List.countP (· == w) [[108, 101, 116], [61], [105, 110]]) = if (5 : Int) = K then 1 else 0)
    (k6 : (List.countP (· == w) [[105, 102], [116, 104, 101, 110], [101, 108, 115, 101]]) = if (6 : Int) = K then 1 else 0)
    (k7 : (List.countP (· == w) [[119, 104, 105, 108, 101], [100, 111]]) = if (7 : Int) = K then 1 else 0)
    (k8 : (List.countP (· == w) [[114, 97, 105, 115, 101]]) = if (8 : Int) = K then 1 else 0)
    (k9 : (List.countP (· == w) [[116, 114, 121], [119, 105, 116, 104], [61, 62]]) = if (9 : Int) = K then 1 else 0)
    (k10 : (List.countP (· == w) [[33]]) = if (10 : Int) = K then 1 else 0)
    (k11 : (List.countP (· == w) [[58, 61]]) = if (11 : Int) = K then 1 else 0)
    (k13 : (List.countP (· == w) [[59]]) = if (13 : Int) = K then 1 else 0) : Wd w K where
  o := o
  c := c'
  nm := nm
  nu n h := by rw [beq_eq_false_iff_ne, hw]; exact num_not h c hd r
  op s h := by
    rw [beq_eq_false_iff_ne]
    rcases op_cases h with e | e | e | e | e <;> rw [e]
    · exact Ne.symm op.1
    · exact Ne.symm op.2.1
    · exact Ne.symm op.2.2.1
    · exact Ne.symm op.2.2.2.1
    · exact Ne.symm op.2.2.2.2
  k1 := k1
  k2 := k2
  k3 := k3
  k4 := k4
  k5 := k5
  k6 := k6
  k7 := k7
  k8 := k8
  k9 := k9
  k10 := k10
  k11 := k11
  k12 := k12
  k13 := k13
theorem wd_fun : Wd [102, 117, 110] 3 := wd_mk 102 _ rfl (by decide) (key_not (by decide)) (by decide) (by decide) (by decide) (by decide) (by decide) (by decide) (by decide) (by decide) (by decide) (by decide) (by decide) (by decide) (by decide) (by decide) (by decide) (by decide)
theorem wd_let : Wd [108, 101, 116] 5 := wd_mk 108 _ rfl (by decide) (key_not (by decide)) (by decide) (by decide) (by decide) (by decide) (by decide) (by decide) (by decide) (by decide) (by decide) (by decide) (by decide) (by decide) (by decide) (by decide) (by decide) (by decide)
theorem wd_else : Wd [101, 108, 115, 101] 6 := wd_mk 101 _ rfl (by decide) (key_not (by decide)) (by decide) (by decide) (by decide) (by decide) (by decide) (by decide) (by decide) (by decide) (by decide) (by decide) (by decide) (by decide) (by decide) (by decide) (by decide) (by decide)
theorem wd_while : Wd [119, 104, 105, 108, 101] 7 := wd_mk 119 _ rfl (by decide) (key_not (by decide)) (by decide) (by decide) (by decide) (by decide) (by decide) (by decide) (by decide) (by decide) (by decide) (by decide) (by decide) (by decide) (by decide) (by decide) (by decide) (by decide)
theorem wd_raise : Wd [114, 97, 105, 115, 101] 8 := wd_mk 114 _ rfl (by decide) (key_not (by decide)) (by decide) (by decide) (by decide) (by decide) (by decide) (by decide) (by decide) (by decide) (by decide) (by decide) (by decide) (by decide) (by decide) (by decide) (by decide) (by decide)
theorem wd_try : Wd [116, 114, 121] 9 := wd_mk 116 _ rfl (by decide) (key_not (by decide)) (by decide) (by decide) (by decide) (by decide) (by decide) (by decide) (by decide) (by decide) (by decide) (by decide) (by decide) (by decide) (by decide) (by decide) (by decide) (by decide)
theorem mark_not {c : UInt8} (hc : isLetter c = false) (r : List UInt8) (s : ByteArray) (h : wordB s = true) : (s.data.toList == c :: r) = false := by
  rw [beq_eq_false_iff_ne]
  exact name_not h c hc r
theorem wd_seq : Wd [59] 13 := wd_mk 59 _ rfl (by decide) (mark_not (by decide) _) (by decide) (by decide) (by decide) (by decide) (by decide) (by decide) (by decide) (by decide) (by decide) (by decide) (by decide) (by decide) (by decide) (by decide) (by decide) (by decide)
theorem wd_set : Wd [58, 61] 11 := wd_mk 58 _ rfl (by decide) (mark_not (by decide) _) (by decide) (by decide) (by decide) (by decide) (by decide) (by decide) (by decide) (by decide) (by decide) (by decide) (by decide) (by decide) (by decide) (by decide) (by decide) (by decide)
theorem wd_get : Wd [33] 10 := wd_mk 33 _ rfl (by decide) (mark_not (by decide) _) (by decide) (by decide) (by decide) (by decide) (by decide) (by decide) (by decide) (by decide) (by decide) (by decide) (by decide) (by decide) (by decide) (by decide) (by decide) (by decide)
end Go.Proofs.YthidblhkajahdaaDoor
