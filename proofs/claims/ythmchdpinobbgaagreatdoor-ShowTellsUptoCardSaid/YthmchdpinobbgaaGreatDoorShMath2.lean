/-
  What is shown of unlike terms is unlike; parentheses close what they open; how many there are of each keyword. No condition.
-/
import Derived.Test.YthmchdpinobbgaaGreatDoorShMath
namespace Go.Proofs.YthmchdpinobbgaaGreatDoor
open Go.RowKit Go.Shelf Go.Tm Go.Lx

theorem letter_first {s : ByteArray} (h : wordB s = true) : ∃ c r, s.data.toList = c :: r ∧ isLetter c = true := by
  obtain ⟨h1, h2⟩ := wordB_iff.1 h
  have h3 : nameL s.data.toList = true := h1
  cases hs : s.data.toList with
  | nil => rw [hs] at h3; cases h3
  | cons c r =>
    rw [hs] at h3
    unfold nameL at h3
    rw [Bool.and_eq_true, Bool.and_eq_true] at h3
    exact ⟨c, r, rfl, h3.1.2⟩
theorem digit_first {n : Int} (h : 0 ≤ n) : ∃ c r, Lib.itoa n = c :: r ∧ isDigit c = true := by
  have h1 := itoa_digits h
  have h2 := itoa_ne h
  cases hs : Lib.itoa n with
  | nil => exact absurd hs h2
  | cons c r =>
    rw [hs, List.all_cons, Bool.and_eq_true] at h1
    exact ⟨c, r, rfl, h1.1⟩

/-! what a parenthesis closes -/
def isO (x : Tok) : Bool := x == mTok [40]
def isC (x : Tok) : Bool := x == mTok [41]
def cut : Nat → List Tok → List Tok × List Tok
  | _, [] => ([], [])
  | d, x :: l => if isO x = true then (x :: (cut (d + 1) l).1, (cut (d + 1) l).2)
    else if isC x = true then (match d with | 0 => ([], l) | d + 1 => (x :: (cut d l).1, (cut d l).2))
    else (x :: (cut d l).1, (cut d l).2)
theorem cut_cons (d : Nat) (x : Tok) (l : List Tok) : cut d (x :: l) = if isO x = true then (x :: (cut (d + 1) l).1, (cut (d + 1) l).2)
    else if isC x = true then (match d with | 0 => ([], l) | d + 1 => (x :: (cut d l).1, (cut d l).2))
    else (x :: (cut d l).1, (cut d l).2) := by cases d <;> rfl
def Bal (B : List Tok) : Prop := ∀ d l, cut d (B ++ l) = (B ++ (cut d l).1, (cut d l).2)
theorem bal_nil : Bal [] := fun _ _ => rfl
theorem bal_app {A B : List Tok} (ha : Bal A) (hb : Bal B) : Bal (A ++ B) := fun d l => by
  rw [List.append_assoc, ha d (B ++ l), hb d l, List.append_assoc]
theorem bal_one {x : Tok} (h1 : isO x = false) (h2 : isC x = false) : Bal [x] := fun d l => by
  show cut d (x :: l) = _
  rw [cut_cons, if_neg (by rw [h1]; decide), if_neg (by rw [h2]; decide)]; rfl
theorem bal_cons {x : Tok} {B : List Tok} (h1 : isO x = false) (h2 : isC x = false) (hb : Bal B) : Bal (x :: B) := bal_app (bal_one h1 h2) hb
theorem bal_wrap {B : List Tok} (hb : Bal B) : Bal (mTok [40] :: (B ++ [mTok [41]])) := fun d l => by
  show cut d (mTok [40] :: (B ++ [mTok [41]] ++ l)) = _
  rw [cut_cons, if_pos (by decide), List.append_assoc, hb (d + 1)]
  show (mTok [40] :: (B ++ (cut (d + 1) (mTok [41] :: l)).1), (cut (d + 1) (mTok [41] :: l)).2) = _
  have e : cut (d + 1) (mTok [41] :: l) = (mTok [41] :: (cut d l).1, (cut d l).2) := by
    rw [cut_cons, if_neg (by decide), if_pos (by decide)]
  rw [e]
  simp
theorem cut_wrap {B : List Tok} (hb : Bal B) (r : List Tok) : cut 0 (B ++ mTok [41] :: r) = (B, r) := by
  rw [hb 0]
  have e : cut 0 (mTok [41] :: r) = ([], r) := by
    rw [cut_cons, if_neg (by decide), if_pos (by decide)]
  rw [e, List.append_nil]
theorem isO_k {k : Int} {t : List UInt8} {n : Int} (h : k ≠ 4) : isO ⟨k, t, n⟩ = false := by
  unfold isO mTok
  rw [beq_eq_false_iff_ne]; intro e; injection e with e1; exact h e1
theorem isC_k {k : Int} {t : List UInt8} {n : Int} (h : k ≠ 4) : isC ⟨k, t, n⟩ = false := by
  unfold isC mTok
  rw [beq_eq_false_iff_ne]; intro e; injection e with e1; exact h e1
theorem bal_k {k : Int} {t : List UInt8} {n : Int} (h : k ≠ 4) {B : List Tok} (hb : Bal B) : Bal ((⟨k, t, n⟩ : Tok) :: B) := bal_cons (isO_k h) (isC_k h) hb
theorem bal_kid {t : Go.Tm.T} (h : Bal (toksT t)) : Bal (kidT t) := by
  unfold kidT wrapK
  split
  · exact h
  · exact bal_wrap h
theorem bal_op {s : ByteArray} (h : opB s.data.toList = true) {B : List Tok} (hb : Bal B) : Bal (mTok s.data.toList :: B) := by
  rcases op_cases h with e | e | e | e | e <;> rw [e] <;> exact bal_cons (by decide) (by decide) hb
theorem toks_bal {t : Go.Tm.T} (h : Rt t) : Bal (toksT t) := by
  have K : ∀ {a : Go.Tm.T}, Bal (toksT a) → Bal (kidT a) := bal_kid
  induction h with
  | num n h0 h1 => rw [toks_1]; exact bal_k (by decide) bal_nil
  | var s h => rw [toks_2]; exact bal_k (by decide) bal_nil
  | fn s a h ha ia => rw [toks_3]; exact bal_k (by decide) (bal_k (by decide) (bal_cons (by decide) (by decide) (K ia)))
  | app a b ha hb ia ib => rw [toks_4]; exact bal_app (K ia) (K ib)
  | lt s a b h ha hb ia ib => rw [toks_5]; exact bal_k (by decide) (bal_k (by decide) (bal_cons (by decide) (by decide) (bal_app (K ia) (bal_k (by decide) (K ib)))))
  | cond a b c ha hb hc ia ib ic => rw [toks_6]; exact bal_k (by decide) (bal_app (K ia) (bal_k (by decide) (bal_app (K ib) (bal_k (by decide) (K ic)))))
  | loop a b ha hb ia ib => rw [toks_7]; exact bal_k (by decide) (bal_app (K ia) (bal_k (by decide) (K ib)))
  | raise a ha ia => rw [toks_8]; exact bal_k (by decide) (K ia)
  | tri s a b h ha hb ia ib => rw [toks_9]; exact bal_k (by decide) (bal_app (K ia) (bal_k (by decide) (bal_k (by decide) (bal_cons (by decide) (by decide) (K ib)))))
  | get a ha ia => rw [toks_10]; exact bal_cons (by decide) (by decide) (K ia)
  | put a b ha hb ia ib => rw [toks_11]; exact bal_app (K ia) (bal_cons (by decide) (by decide) (K ib))
  | op s a b h ha hb ia ib => rw [toks_12]; exact bal_app (K ia) (bal_op h (K ib))
  | sq a b ha hb ia ib => rw [toks_13]; exact bal_app (K ia) (bal_cons (by decide) (by decide) (K ib))

/-! unlike terms -/
theorem itoa_inj {m n : Int} (hm : 0 ≤ m) (hn : 0 ≤ n) (h : Lib.itoa m = Lib.itoa n) : m = n := by
  rw [itoa_dec hm, itoa_dec hn] at h
  have h1 := (dec_all m.toNat).2
  have h2 := (dec_all n.toNat).2
  rw [h, h2] at h1
  omega
theorem leaf_toks {t : Go.Tm.T} (h : Rt t) (hl : leafK t.kind = true) : ∃ x, toksT t = [x] ∧ (x.kind = 1 ∨ x.kind = 2) := by
  cases h with
  | num n h0 h1 => exact ⟨_, toks_1 _ _ _, .inr rfl⟩
  | var s h => exact ⟨_, toks_2 _ _ _, .inl rfl⟩
  | _ => cases hl
theorem leaf_inj {t u : Go.Tm.T} (ht : Rt t) (hu : Rt u) (lt : leafK t.kind = true) (lu : leafK u.kind = true) (h : toksT t = toksT u) : t = u := by
  cases ht with
  | num n h0 h1 =>
    cases hu with
    | num m g0 g1 =>
      rw [toks_1, toks_1] at h
      injection h with h
      injection h with _ _ h
      rw [h]
    | var s g =>
      rw [toks_1, toks_2] at h
      injection h with h
      injection h with h
      cases h
    | _ => cases lu
  | var s h0 =>
    cases hu with
    | num m g0 g1 =>
      rw [toks_1, toks_2] at h
      injection h with h
      injection h with h
      cases h
    | var r g =>
      rw [toks_2, toks_2] at h
      injection h with h
      injection h with _ h
      have : s = r := by
        cases s; cases r
        rw [ByteArray.mk.injEq]
        exact Array.toList_inj.1 h
      rw [this]
    | _ => cases lu
  | _ => cases lt
theorem kid_leaf {t : Go.Tm.T} (h : leafK t.kind = true) : kidT t = toksT t := by unfold kidT wrapK; rw [if_pos h]
theorem kid_wrap {t : Go.Tm.T} (h : leafK t.kind = false) : kidT t = mTok [40] :: (toksT t ++ [mTok [41]]) := by unfold kidT wrapK; rw [if_neg (by rw [h]; decide)]
theorem kid_split {a u : Go.Tm.T} (ha : Rt a) (hu : Rt u) (IH : leafK a.kind = false → ∀ u, Rt u → toksT a = toksT u → a = u) {r q : List Tok} (h : kidT a ++ r = kidT u ++ q) : a = u ∧ r = q := by
  cases la : leafK a.kind with
  | true =>
    obtain ⟨x, hx, kx⟩ := leaf_toks ha la
    rw [kid_leaf la, hx] at h
    cases lu : leafK u.kind with
    | true =>
      obtain ⟨y, hy, ky⟩ := leaf_toks hu lu
      rw [kid_leaf lu, hy] at h
      injection h with h1 h2
      exact ⟨leaf_inj ha hu la lu (by rw [hx, hy, h1]), h2⟩
    | false =>
      rw [kid_wrap lu] at h
      injection h with h1 h2
      rw [h1] at kx
      rcases kx with kx | kx <;> cases kx
  | false =>
    rw [kid_wrap la] at h
    cases lu : leafK u.kind with
    | true =>
      obtain ⟨y, hy, ky⟩ := leaf_toks hu lu
      rw [kid_leaf lu, hy] at h
      injection h with h1 h2
      rw [← h1] at ky
      rcases ky with ky | ky <;> cases ky
    | false =>
      rw [kid_wrap lu] at h
      injection h with h1 h2
      have h2 : (toksT a ++ [mTok [41]]) ++ r = (toksT u ++ [mTok [41]]) ++ q := h2
      rw [List.append_assoc, List.append_assoc] at h2
      have e1 := cut_wrap (toks_bal ha) r
      have e2 := cut_wrap (toks_bal hu) q
      have h2 : toksT a ++ mTok [41] :: r = toksT u ++ mTok [41] :: q := h2
      rw [h2, e2] at e1
      injection e1 with e3 e4
      exact ⟨IH la u hu e3.symm, e4.symm⟩
/-- by the first token: which kind; 0: it begins with a kid -/
def cls : List Tok → Int
  | [] => 0
  | x :: _ => if x = kTok [102, 117, 110] then 3 else if x = kTok [108, 101, 116] then 5 else if x = kTok [105, 102] then 6 else if x = kTok [119, 104, 105, 108, 101] then 7 else if x = kTok [114, 97, 105, 115, 101] then 8 else if x = kTok [116, 114, 121] then 9 else if x = mTok [33] then 10 else 0
theorem cls_kid {a : Go.Tm.T} (ha : Rt a) (r : List Tok) : cls (kidT a ++ r) = 0 := by
  cases la : leafK a.kind with
  | true =>
    obtain ⟨x, hx, kx⟩ := leaf_toks ha la
    rw [kid_leaf la, hx]
    show cls (x :: r) = 0
    have n3 : ∀ t, x ≠ kTok t := fun t e => by rw [e] at kx; rcases kx with kx | kx <;> cases kx
    have n4 : ∀ t, x ≠ mTok t := fun t e => by rw [e] at kx; rcases kx with kx | kx <;> cases kx
    show (if _ then _ else _ : Int) = 0
    rw [if_neg (n3 _), if_neg (n3 _), if_neg (n3 _), if_neg (n3 _), if_neg (n3 _), if_neg (n3 _), if_neg (n4 _)]
  | false => rw [kid_wrap la]; rfl
/-- its first kid, or itself; what stands behind -/
def hdT (t : Go.Tm.T) : Go.Tm.T := if leafK t.kind = true then t else t.kids.getD 0 default
def tlT (t : Go.Tm.T) : List Tok := (toksT t).drop (kidT (hdT t)).length
def infK (k : Int) : Bool := k == 1 || k == 2 || k == 4 || k == 11 || k == 12 || k == 13
/-- by what stands behind the first kid -/
def cls2 : List Tok → Int
  | [] => 1
  | x :: _ => if x = mTok [58, 61] then 11 else if x = mTok [59] then 13 else if x = mTok [43] ∨ x = mTok [45] ∨ x = mTok [42] ∨ x = mTok [60] ∨ x = mTok [61] then 12 else 4
theorem cls2_kid {a : Go.Tm.T} (ha : Rt a) : cls2 (kidT a) = 4 := by
  cases la : leafK a.kind with
  | true =>
    obtain ⟨x, hx, kx⟩ := leaf_toks ha la
    rw [kid_leaf la, hx]
    have n4 : ∀ t, x ≠ mTok t := fun t e => by rw [e] at kx; rcases kx with kx | kx <;> cases kx
    show (if _ then _ else _ : Int) = 4
    rw [if_neg (n4 _), if_neg (n4 _), if_neg (fun h => by rcases h with h | h | h | h | h <;> exact n4 _ h)]
  | false => rw [kid_wrap la]; rfl
theorem cls2_op {s : ByteArray} (h : opB s.data.toList = true) (r : List Tok) : cls2 (mTok s.data.toList :: r) = 12 := by
  rcases op_cases h with e | e | e | e | e <;> rw [e] <;> rfl
theorem str_inj {s r : ByteArray} (h : s.data.toList = r.data.toList) : s = r := by
  cases s; cases r
  rw [ByteArray.mk.injEq]
  exact Array.toList_inj.1 h
/-- the shape of one that begins with a kid -/
theorem inf_shape {t : Go.Tm.T} (h : Rt t) (hk : infK t.kind = true) : Rt (hdT t) ∧ toksT t = kidT (hdT t) ++ tlT t ∧
    ((leafK t.kind = true ∧ hdT t = t ∧ tlT t = []) ∨ (t.kind = 4 ∧ ∃ a b, t = .node 4 ⟨#[]⟩ 0 [a, b] ∧ Rt b ∧ hdT t = a ∧ tlT t = kidT b) ∨ (t.kind = 11 ∧ ∃ a b, t = .node 11 ⟨#[]⟩ 0 [a, b] ∧ Rt b ∧ hdT t = a ∧ tlT t = mTok [58, 61] :: kidT b) ∨
     (t.kind = 12 ∧ ∃ s a b, t = .node 12 s 0 [a, b] ∧ opB s.data.toList = true ∧ Rt b ∧ hdT t = a ∧ tlT t = mTok s.data.toList :: kidT b) ∨ (t.kind = 13 ∧ ∃ a b, t = .node 13 ⟨#[]⟩ 0 [a, b] ∧ Rt b ∧ hdT t = a ∧ tlT t = mTok [59] :: kidT b)) := by
  have D : ∀ (a : Go.Tm.T) (l : List Tok), (kidT a ++ l).drop (kidT a).length = l := fun a l => by simp
  have hs := h
  cases h with
  | num n h0 h1 =>
    have e1 : hdT (.node 1 ⟨#[]⟩ n []) = .node 1 ⟨#[]⟩ n [] := rfl
    have e2 : tlT (.node 1 ⟨#[]⟩ n []) = [] := by unfold tlT; rw [e1, kid_leaf rfl]; simp
    exact ⟨hs, by rw [e1, e2, kid_leaf rfl, List.append_nil], .inl ⟨rfl, e1, e2⟩⟩
  | var s h =>
    have e1 : hdT (.node 2 s 0 []) = .node 2 s 0 [] := rfl
    have e2 : tlT (.node 2 s 0 []) = [] := by unfold tlT; rw [e1, kid_leaf rfl]; simp
    exact ⟨hs, by rw [e1, e2, kid_leaf rfl, List.append_nil], .inl ⟨rfl, e1, e2⟩⟩
  | app a b ha hb =>
    have e1 : hdT (.node 4 ⟨#[]⟩ 0 [a, b]) = a := rfl
    have e2 : tlT (.node 4 ⟨#[]⟩ 0 [a, b]) = kidT b := by unfold tlT; rw [e1, toks_4, D]
    exact ⟨ha, by rw [e1, e2, toks_4], .inr (.inl ⟨rfl, a, b, rfl, hb, e1, e2⟩)⟩
  | put a b ha hb =>
    have e1 : hdT (.node 11 ⟨#[]⟩ 0 [a, b]) = a := rfl
    have e2 : tlT (.node 11 ⟨#[]⟩ 0 [a, b]) = mTok [58, 61] :: kidT b := by unfold tlT; rw [e1, toks_11, D]
    exact ⟨ha, by rw [e1, e2, toks_11], .inr (.inr (.inl ⟨rfl, a, b, rfl, hb, e1, e2⟩))⟩
  | op s a b h ha hb =>
    have e1 : hdT (.node 12 s 0 [a, b]) = a := rfl
    have e2 : tlT (.node 12 s 0 [a, b]) = mTok s.data.toList :: kidT b := by unfold tlT; rw [e1, toks_12, D]
    exact ⟨ha, by rw [e1, e2, toks_12], .inr (.inr (.inr (.inl ⟨rfl, s, a, b, rfl, h, hb, e1, e2⟩)))⟩
  | sq a b ha hb =>
    have e1 : hdT (.node 13 ⟨#[]⟩ 0 [a, b]) = a := rfl
    have e2 : tlT (.node 13 ⟨#[]⟩ 0 [a, b]) = mTok [59] :: kidT b := by unfold tlT; rw [e1, toks_13, D]
    exact ⟨ha, by rw [e1, e2, toks_13], .inr (.inr (.inr (.inr ⟨rfl, a, b, rfl, hb, e1, e2⟩)))⟩
  | _ => cases hk
theorem cls_inf {t : Go.Tm.T} (h : Rt t) (hk : infK t.kind = true) : cls (toksT t) = 0 := by
  obtain ⟨h1, h2, _⟩ := inf_shape h hk
  rw [h2]
  exact cls_kid h1 _
theorem cls_pre {t : Go.Tm.T} (h : Rt t) (hk : infK t.kind = false) : cls (toksT t) = t.kind := by
  cases h with
  | fn s a h ha => rw [toks_3]; rfl
  | lt s a b h ha hb => rw [toks_5]; rfl
  | cond a b c ha hb hc => rw [toks_6]; rfl
  | loop a b ha hb => rw [toks_7]; rfl
  | raise a ha => rw [toks_8]; rfl
  | tri s a b h ha hb => rw [toks_9]; rfl
  | get a ha => rw [toks_10]; rfl
  | _ => cases hk
theorem cls2_tl {t : Go.Tm.T} (h : Rt t) (hk : infK t.kind = true) : cls2 (tlT t) = if leafK t.kind = true then 1 else t.kind := by
  obtain ⟨_, _, h3⟩ := inf_shape h hk
  rcases h3 with ⟨h1, h2, h3⟩ | ⟨h1, a, b, _, hb, _, h3⟩ | ⟨h1, a, b, _, hb, _, h3⟩ | ⟨h1, s, a, b, _, ho, hb, _, h3⟩ | ⟨h1, a, b, _, hb, _, h3⟩
  · rw [h3, if_pos h1]; rfl
  · rw [h3, h1, cls2_kid hb]; rfl
  · rw [h3, h1]; rfl
  · rw [h3, h1, cls2_op ho]; rfl
  · rw [h3, h1]; rfl
/-- both begin with a kid -/
theorem inj_inf {t : Go.Tm.T} (ht : Rt t) (hk : infK t.kind = true) (IH : ∀ a ∈ t.kids, ∀ u, Rt u → toksT a = toksT u → a = u) : ∀ u, Rt u → infK u.kind = true → toksT t = toksT u → t = u := by
  intro u hu hl h
  obtain ⟨p1, p2, p3⟩ := inf_shape ht hk
  obtain ⟨q1, q2, q3⟩ := inf_shape hu hl
  have c1 := cls2_tl ht hk
  have c2 := cls2_tl hu hl
  rw [p2, q2] at h
  have hI : leafK (hdT t).kind = false → ∀ u, Rt u → toksT (hdT t) = toksT u → hdT t = u := by
    intro hlf
    refine IH (hdT t) ?_
    rcases p3 with ⟨h1, h2, h3⟩ | ⟨h1, a, b, e, hb, h2, h3⟩ | ⟨h1, a, b, e, hb, h2, h3⟩ | ⟨h1, s, a, b, e, ho, hb, h2, h3⟩ | ⟨h1, a, b, e, hb, h2, h3⟩
    · rw [h2, h1] at hlf; cases hlf
    all_goals rw [h2, e]; exact List.mem_cons_self
  obtain ⟨hh, ht2⟩ := kid_split p1 q1 hI h
  rw [ht2, c2] at c1
  have K : ∀ b c : Go.Tm.T, Rt b → Rt c → (∀ u, Rt u → toksT b = toksT u → b = u) → kidT b = kidT c → b = c := fun b c hb hc ib e =>
    (kid_split hb hc (fun _ => ib) (r := []) (q := []) (by rw [e])).1
  rcases p3 with ⟨h1, h2, h3⟩ | ⟨h1, a, b, e, hb, h2, h3⟩ | ⟨h1, a, b, e, hb, h2, h3⟩ | ⟨h1, s, a, b, e, ho, hb, h2, h3⟩ | ⟨h1, a, b, e, hb, h2, h3⟩ <;>
  rcases q3 with ⟨g1, g2, g3⟩ | ⟨g1, a', b', e', hb', g2, g3⟩ | ⟨g1, a', b', e', hb', g2, g3⟩ | ⟨g1, s', a', b', e', ho', hb', g2, g3⟩ | ⟨g1, a', b', e', hb', g2, g3⟩
  · rw [← h2, hh, g2]
  all_goals first
    | (exfalso; simp only [h1, g1] at c1; revert c1; simp [leafK]; done)
    | skip
  · rw [h2, g2] at hh
    subst hh
    rw [h3, g3] at ht2
    rw [e, e', K b b' hb hb' (IH b (by rw [e]; simp [T.kids])) ht2]
  · rw [h2, g2] at hh
    subst hh
    rw [h3, g3] at ht2
    injection ht2 with _ ht2
    rw [e, e', K b b' hb hb' (IH b (by rw [e]; simp [T.kids])) ht2]
  · rw [h2, g2] at hh
    subst hh
    rw [h3, g3] at ht2
    injection ht2 with hm ht2
    injection hm with _ hm
    rw [e, e', K b b' hb hb' (IH b (by rw [e]; simp [T.kids])) ht2, str_inj hm]
  · rw [h2, g2] at hh
    subst hh
    rw [h3, g3] at ht2
    injection ht2 with _ ht2
    rw [e, e', K b b' hb hb' (IH b (by rw [e]; simp [T.kids])) ht2]
theorem inj_name {s r : ByteArray} (h : nTok s.data.toList = nTok r.data.toList) : s = r := by
  injection h with _ h
  exact str_inj h
/-- UNLIKE TERMS HAVE UNLIKE TOKENS. -/
theorem toks_inj {t : Go.Tm.T} (ht : Rt t) : ∀ u, Rt u → toksT t = toksT u → t = u := by
  have S : ∀ {a u : Go.Tm.T}, Rt a → Rt u → (∀ u, Rt u → toksT a = toksT u → a = u) → ∀ {r q : List Tok}, kidT a ++ r = kidT u ++ q → a = u ∧ r = q := fun ha hu ih _ _ h => kid_split ha hu (fun _ => ih) h
  have S0 : ∀ {a u : Go.Tm.T}, Rt a → Rt u → (∀ u, Rt u → toksT a = toksT u → a = u) → kidT a = kidT u → a = u := fun ha hu ih h => (kid_split ha hu (fun _ => ih) (r := []) (q := []) (by rw [h])).1
  have X : ∀ {t u : Go.Tm.T}, Rt t → Rt u → toksT t = toksT u → infK t.kind = infK u.kind ∧ (infK t.kind = false → t.kind = u.kind) := by
    intro t u ht hu h
    have hc := congrArg cls h
    have P : ∀ {t : Go.Tm.T}, Rt t → t.kind ≠ 0 := fun h e => by
      cases h <;> simp [T.kind] at e
    cases h1 : infK t.kind with
    | true =>
      rw [cls_inf ht h1] at hc
      cases h2 : infK u.kind with
      | true => exact ⟨rfl, fun e => by cases e⟩
      | false => rw [cls_pre hu h2] at hc; exact absurd hc.symm (P hu)
    | false =>
      rw [cls_pre ht h1] at hc
      cases h2 : infK u.kind with
      | true => rw [cls_inf hu h2] at hc; exact absurd hc (P ht)
      | false => rw [cls_pre hu h2] at hc; exact ⟨rfl, fun _ => hc⟩
  have hs := ht
  induction ht with
  | num n h0 h1 => exact fun u hu h => inj_inf hs rfl (fun a ha => by cases ha) u hu (X hs hu h).1.symm h
  | var s h0 => exact fun u hu h => inj_inf hs rfl (fun a ha => by cases ha) u hu (X hs hu h).1.symm h
  | app a b ha hb ia ib => exact fun u hu h => inj_inf hs rfl (fun c hc => by
      rcases List.mem_cons.1 hc with rfl | hc
      · exact ia ha
      · obtain rfl := List.mem_singleton.1 hc; exact ib hb) u hu (X hs hu h).1.symm h
  | put a b ha hb ia ib => exact fun u hu h => inj_inf hs rfl (fun c hc => by
      rcases List.mem_cons.1 hc with rfl | hc
      · exact ia ha
      · obtain rfl := List.mem_singleton.1 hc; exact ib hb) u hu (X hs hu h).1.symm h
  | op s a b h0 ha hb ia ib => exact fun u hu h => inj_inf hs rfl (fun c hc => by
      rcases List.mem_cons.1 hc with rfl | hc
      · exact ia ha
      · obtain rfl := List.mem_singleton.1 hc; exact ib hb) u hu (X hs hu h).1.symm h
  | sq a b ha hb ia ib => exact fun u hu h => inj_inf hs rfl (fun c hc => by
      rcases List.mem_cons.1 hc with rfl | hc
      · exact ia ha
      · obtain rfl := List.mem_singleton.1 hc; exact ib hb) u hu (X hs hu h).1.symm h
  | fn s a h0 ha ia =>
    intro u hu h
    have hk := (X hs hu h).2 rfl
    cases hu with
    | fn s' a' h0' ha' =>
      rw [toks_3, toks_3] at h
      injection h with _ h; injection h with h1 h; injection h with _ h
      rw [inj_name h1, S0 ha ha' (ia ha) h]
    | _ => cases hk
  | lt s a b h0 ha hb ia ib =>
    intro u hu h
    have hk := (X hs hu h).2 rfl
    cases hu with
    | lt s' a' b' h0' ha' hb' =>
      rw [toks_5, toks_5] at h
      injection h with _ h; injection h with h1 h; injection h with _ h
      obtain ⟨h2, h⟩ := S ha ha' (ia ha) h
      injection h with _ h
      rw [inj_name h1, h2, S0 hb hb' (ib hb) h]
    | _ => cases hk
  | cond a b c ha hb hc ia ib ic =>
    intro u hu h
    have hk := (X hs hu h).2 rfl
    cases hu with
    | cond a' b' c' ha' hb' hc' =>
      rw [toks_6, toks_6] at h
      injection h with _ h
      obtain ⟨h2, h⟩ := S ha ha' (ia ha) h
      injection h with _ h
      obtain ⟨h3, h⟩ := S hb hb' (ib hb) h
      injection h with _ h
      rw [h2, h3, S0 hc hc' (ic hc) h]
    | _ => cases hk
  | loop a b ha hb ia ib =>
    intro u hu h
    have hk := (X hs hu h).2 rfl
    cases hu with
    | loop a' b' ha' hb' =>
      rw [toks_7, toks_7] at h
      injection h with _ h
      obtain ⟨h2, h⟩ := S ha ha' (ia ha) h
      injection h with _ h
      rw [h2, S0 hb hb' (ib hb) h]
    | _ => cases hk
  | raise a ha ia =>
    intro u hu h
    have hk := (X hs hu h).2 rfl
    cases hu with
    | raise a' ha' =>
      rw [toks_8, toks_8] at h
      injection h with _ h
      rw [S0 ha ha' (ia ha) h]
    | _ => cases hk
  | tri s a b h0 ha hb ia ib =>
    intro u hu h
    have hk := (X hs hu h).2 rfl
    cases hu with
    | tri s' a' b' h0' ha' hb' =>
      rw [toks_9, toks_9] at h
      injection h with _ h
      obtain ⟨h2, h⟩ := S ha ha' (ia ha) h
      injection h with _ h; injection h with h1 h; injection h with _ h
      rw [inj_name h1, h2, S0 hb hb' (ib hb) h]
    | _ => cases hk
  | get a ha ia =>
    intro u hu h
    have hk := (X hs hu h).2 rfl
    cases hu with
    | get a' ha' =>
      rw [toks_10, toks_10] at h
      injection h with _ h
      rw [S0 ha ha' (ia ha) h]
    | _ => cases hk
end Go.Proofs.YthmchdpinobbgaaGreatDoor
