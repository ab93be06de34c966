/-
  The parser as a machine with a plan, and what it reads of what is shown of a term. No condition.
  The machine ends, whatever it reads.
  The reader's stacks never run out:
  What a reader holds stays small.
  How deep parentheses stand in what is shown of a term:
  What is told of tokens:
  How great terms may be that a reader holds:
  What is told of what is shown of a right term, in parentheses, in rows, and with one too many.
  What is shown of a term that was read is at most five times as long as its tokens.
  Texts with parentheses set close:
  What is told of what the statements of chapter 5 parse.
  The examples of chapter 5.
  Parentheses, and Gets, nested deep.
-/
import Derived.Test.YtjnfhebbphdchaaGreatDoorShMath
namespace Go.Proofs.YtjnfhebbphdchaaGreatDoor.Pa
open Go.Tm Go.Lx
inductive Stp
 | seq | more | single | oper | appl | args | simple | name | operator | fin
 | word (s : List UInt8)
 | made (k : Int) (n : Nat)
structure PS where
 rest : List Tok
 plan : List Stp
 names : List ByteArray
 terms : List Go.Tm.T
 made : Nat
inductive Out
 | ok (σ : PS)
 | bad (σ : PS) (e : Nat)
def qaf (l : List Tok) : Tok := match l with
 | [] => ⟨0, [], 0⟩
 | x :: _ => x
def txB (l : List UInt8) : ByteArray := ⟨l.toArray⟩
def keepP (σ : PS) (k : Int) (nm : ByteArray) (num : Int) (n : Nat) : Out :=
 if 10000 < σ.made then .ok σ
 else if 10000 < σ.made + 1 then .bad { σ with made := σ.made + 1 } 1
 else .ok { σ with made := σ.made + 1, terms := σ.terms.take (σ.terms.length - n) ++ [.node k nm num (σ.terms.drop (σ.terms.length - n))] }
def thenP (σ : PS) (l : List Stp) : Out := .ok { σ with plan := l ++ σ.plan }
def wordP (s : List UInt8) (σ : PS) : Out := if (qaf σ.rest).text = s then .ok { σ with rest := σ.rest.tail } else .bad σ 2
def atP (x : Tok) : Bool := x.kind == 2 || x.kind == 1 || x.text == [40] || x.text == [33]
def opS (s : List UInt8) : Bool := s == [43] || s == [45] || s == [42] || s == [60] || s == [61]
def qbz (σ : PS) : Out :=
 let s := (qaf σ.rest).text
 if s = [102, 117, 110] then thenP σ [.word [102, 117, 110], .name, .word [61, 62], .seq, .made 3 1]
 else if s = [108, 101, 116] then thenP σ [.word [108, 101, 116], .name, .word [61], .seq, .word [105, 110], .seq, .made 5 2]
 else if s = [105, 102] then thenP σ [.word [105, 102], .seq, .word [116, 104, 101, 110], .seq, .word [101, 108, 115, 101], .seq, .made 6 3]
 else if s = [119, 104, 105, 108, 101] then thenP σ [.word [119, 104, 105, 108, 101], .seq, .word [100, 111], .seq, .made 7 2]
 else if s = [114, 97, 105, 115, 101] then thenP σ [.word [114, 97, 105, 115, 101], .single, .made 8 1]
 else if s = [116, 114, 121] then thenP σ [.word [116, 114, 121], .seq, .word [119, 105, 116, 104], .name, .word [61, 62], .seq, .made 9 2]
 else thenP σ [.appl, .oper]
def qbA (σ : PS) : Out :=
 let x := qaf σ.rest
 if x.kind = 2 then keepP { σ with rest := σ.rest.tail } 1 ⟨#[]⟩ x.num 0
 else if x.kind = 1 then keepP { σ with rest := σ.rest.tail } 2 (txB x.text) 0 0
 else if x.text = [40] then thenP σ [.word [40], .seq, .word [41]]
 else if x.text = [33] then thenP σ [.word [33], .simple, .made 10 1]
 else .bad σ 2
def named (k : Int) : Bool := k == 3 || k == 5 || k == 9 || k == 12
def stepP (σ : PS) : Stp -> Out
 | .seq => thenP σ [.single, .more]
 | .more => if (qaf σ.rest).text = [59] then thenP σ [.word [59], .seq, .made 13 2] else .ok σ
 | .single => qbz σ
 | .oper => if (qaf σ.rest).text = [58, 61] then thenP σ [.word [58, 61], .single, .made 11 2] else if opS (qaf σ.rest).text = true then thenP σ [.operator, .appl, .made 12 2] else .ok σ
 | .appl => thenP σ [.simple, .args]
 | .args => if atP (qaf σ.rest) = true then thenP σ [.simple, .made 4 2, .args] else .ok σ
 | .simple => qbA σ
 | .name => if (qaf σ.rest).kind = 1 then .ok { σ with rest := σ.rest.tail, names := σ.names ++ [txB (qaf σ.rest).text] } else .bad σ 2
 | .operator => if (qaf σ.rest).kind = 4 then .ok { σ with rest := σ.rest.tail, names := σ.names ++ [txB (qaf σ.rest).text] } else .bad σ 2
 | .fin => if σ.rest = [] then .ok σ else .bad σ 2
 | .word s => wordP s σ
 | .made k n => if named k = true then keepP { σ with names := σ.names.dropLast } k (σ.names.getLastD ⟨#[]⟩) 0 n else keepP σ k ⟨#[]⟩ 0 n
theorem qbB (σ : PS) : stepP σ .simple = qbA σ := rfl
theorem qkw (σ : PS) : stepP σ .single = qbz σ := rfl
inductive Goes : PS -> PS -> Prop
 | refl (σ : PS) : Goes σ σ
 | step {σ τ υ : PS} {s : Stp} {p : List Stp} (hp : σ.plan = s :: p) (h : stepP { σ with plan := p } s = .ok τ) (g : Goes τ υ) : Goes σ υ
theorem Goes.trans {a b c : PS} (h : Goes a b) (g : Goes b c) : Goes a c := by
 induction h with
 | refl => exact g
 | step hp h _ ih => exact .step hp h (ih g)
theorem Goes.one {r : List Tok} {s : Stp} {p : List Stp} {n : List ByteArray} {t : List Go.Tm.T} {m : Nat} {τ υ : PS} (h : stepP ⟨r, p, n, t, m⟩ s = .ok τ) (g : Goes τ υ) : Goes ⟨r, s :: p, n, t, m⟩ υ := .step rfl h g
def endB (l : List Tok) : Bool := match l with
 | [] => true
 | x :: _ => x.text == [41] && x.kind == 4
def stopA (l : List Tok) : Prop := atP (qaf l) = false /\ (qaf l).text ≠ [58, 61] /\ opS (qaf l).text = false
def stopE (l : List Tok) : Prop := stopA l /\ (qaf l).text ≠ [59]
theorem qba {l : List Tok} (h : endB l = true) : stopE l := by
 cases l with
 | nil => exact ⟨⟨by decide, by decide, by decide⟩, by decide⟩
 | cons x l =>
   unfold endB at h
   rw [Bool.and_eq_true, beq_iff_eq, beq_iff_eq] at h
   unfold stopE stopA qaf atP opS
   simp only [h.1, h.2]
   exact ⟨⟨by decide, by decide, by decide⟩, by decide⟩
theorem qis {σ : PS} {k num : Int} {nm : ByteArray} {n : Nat} (a b : List Go.Tm.T) (h : σ.made + 1 <= 10000) (ht : σ.terms = a ++ b) (hn : b.length = n) : keepP σ k nm num n = .ok { σ with made := σ.made + 1, terms := a ++ [.node k nm num b] } := by
 have h1 : σ.terms.length - n = a.length := by rw [ht, List.length_append]; omega
 unfold keepP
 rw [if_neg (by omega), if_neg (by omega), h1, ht, List.take_left, List.drop_left]
def keyS (s : List UInt8) : Bool := s == [102, 117, 110] || s == [108, 101, 116] || s == [105, 102] || s == [119, 104, 105, 108, 101] || s == [114, 97, 105, 115, 101] || s == [116, 114, 121]
theorem qcQ {σ : PS} (h : keyS (qaf σ.rest).text = false) : qbz σ = thenP σ [.appl, .oper] := by
 unfold keyS at h
 simp only [Bool.or_eq_false_iff, beq_eq_false_iff_ne, ne_eq] at h
 obtain ⟨⟨⟨⟨⟨h1, h2⟩, h3⟩, h4⟩, h5⟩, h6⟩ := h
 unfold qbz
 simp only [h1, h2, h3, h4, h5, h6, if_false]
theorem qpW {s : ByteArray} (h : wordB s = true) : keyS s.data.toList = false := by
 have hk := (qbK.1 h).2
 cases hq : keyS s.data.toList with
 | false => rfl
 | true =>
   unfold keyS at hq
   simp only [Bool.or_eq_true, beq_iff_eq] at hq
   rcases hq with ((((h1 | h1) | h1) | h1) | h1) | h1 <;> rw [h1] at hk <;> revert hk <;> decide
theorem qrI {n : Int} (h : 0 <= n) : keyS (Lib.itoa n) = false := by
 obtain ⟨c, r, h1, h2⟩ := qgC h
 cases hq : keyS (Lib.itoa n) with
 | false => rfl
 | true =>
   unfold keyS at hq
   simp only [Bool.or_eq_true, beq_iff_eq] at hq
   rw [h1] at hq
   rcases hq with ((((h3 | h3) | h3) | h3) | h3) | h3 <;> (injection h3 with h3 _; subst h3; revert h2; decide)
theorem qpX {t : Go.Tm.T} (h : Rt t) : ∃ x l, kidT t = x :: l /\ keyS x.text = false /\ atP x = true := by
 cases hk : leafK t.kind with
 | false => exact ⟨_, _, qev hk, by decide, by decide⟩
 | true =>
   rw [qdV hk]
   cases h with
   | num n h0 h1 => exact ⟨_, _, qdp _ _ _, qrI h0, by unfold atP dTok; rfl⟩
   | var s hs => exact ⟨_, _, qed _ _ _, qpW hs, by unfold atP nTok; simp⟩
   | _ => exact absurd hk (by simp [leafK, T.kind])
theorem qgD {t : Go.Tm.T} (h : Rt t) (R : List Tok) : keyS (qaf (kidT t ++ R)).text = false /\ atP (qaf (kidT t ++ R)) = true := by
 obtain ⟨x, l, e, h1, h2⟩ := qpX h
 rw [e]; exact ⟨h1, h2⟩
def qgc (t : Go.Tm.T) : Prop := ∀ (R : List Tok) (P : List Stp) (ns : List ByteArray) (ts : List Go.Tm.T) (m : Nat), m + t.size <= 10000 -> Goes ⟨kidT t ++ R, .simple :: P, ns, ts, m⟩ ⟨R, P, ns, ts ++ [t], m + t.size⟩
def GoSeq (t : Go.Tm.T) : Prop := ∀ (R : List Tok) (P : List Stp) (ns : List ByteArray) (ts : List Go.Tm.T) (m : Nat), endB R = true -> m + t.size <= 10000 -> Goes ⟨toksT t ++ R, .seq :: P, ns, ts, m⟩ ⟨R, P, ns, ts ++ [t], m + t.size⟩
theorem qgd (s : ByteArray) : txB s.data.toList = s := by cases s; simp [txB]
theorem qbU (s : List UInt8) (x : Tok) (r : List Tok) (p : List Stp) (n : List ByteArray) (t : List Go.Tm.T) (m : Nat) (h : x.text = s) : stepP ⟨x :: r, p, n, t, m⟩ (.word s) = .ok ⟨r, p, n, t, m⟩ := by
 unfold stepP wordP qaf
 simp only [h, if_true, List.tail_cons]
theorem qaF {t : Go.Tm.T} (h : Rt t) (H : leafK t.kind = false -> GoSeq t) : qgc t := fun R P ns ts m hm => by
 cases hk : leafK t.kind with
 | false =>
   rw [qev hk]
   refine .one (τ := ⟨mTok [40] :: ((toksT t ++ [mTok [41]]) ++ R), [.word [40], .seq, .word [41]] ++ P, ns, ts, m⟩) ?_ ?_
   . rw [qbB]
     unfold qbA qaf mTok thenP
     simp
   . refine .one (qbU [40] _ _ _ _ _ _ rfl) ?_
     rw [List.append_assoc]
     refine (H hk ([mTok [41]] ++ R) _ ns ts m rfl hm).trans ?_
     exact .one (qbU [41] _ _ _ _ _ _ rfl) (.refl _)
 | true =>
   rw [qdV hk]
   cases h with
   | num n h0 h1 =>
     rw [qdp]
     have hz : (Go.Tm.T.node 1 ⟨#[]⟩ n []).size = 1 := by rw [T.size, sizes]
     rw [hz] at hm ⊢
     refine .one (τ := ⟨R, P, ns, ts ++ [.node 1 ⟨#[]⟩ n []], m + 1⟩) ?_ (.refl _)
     rw [qbB]
     unfold qbA qaf dTok
     simp only [if_true, List.singleton_append, List.tail_cons]
     exact qis ts [] (by omega) (by simp) rfl
   | var s hs =>
     rw [qed]
     have hz : (Go.Tm.T.node 2 s 0 []).size = 1 := by rw [T.size, sizes]
     rw [hz] at hm ⊢
     refine .one (τ := ⟨R, P, ns, ts ++ [.node 2 s 0 []], m + 1⟩) ?_ (.refl _)
     rw [qbB]
     unfold qbA qaf nTok
     simp only [List.singleton_append, List.tail_cons, qgd]
     simp only [if_true]
     rw [if_neg (by decide)]
     exact qis ts [] (by omega) (by simp) rfl
   | _ => exact absurd hk (by simp [leafK, T.kind])
theorem qlw {t : Go.Tm.T} (_ : Rt t) (H : qgc t) {R : List Tok} (P : List Stp) (ns : List ByteArray) (ts : List Go.Tm.T) (m : Nat) (hs : atP (qaf R) = false) (hm : m + t.size <= 10000) : Goes ⟨kidT t ++ R, .appl :: P, ns, ts, m⟩ ⟨R, P, ns, ts ++ [t], m + t.size⟩ := by
 refine .one (τ := ⟨kidT t ++ R, .simple :: .args :: P, ns, ts, m⟩) rfl ((H R _ ns ts m hm).trans ?_)
 refine .one (τ := ⟨R, P, ns, ts ++ [t], m + t.size⟩) ?_ (.refl _)
 unfold stepP
 simp only [hs]
 rfl
theorem qgE {R : List Tok} {P : List Stp} {ns : List ByteArray} {ts : List Go.Tm.T} {m : Nat} (h : stopA R) : stepP ⟨R, P, ns, ts, m⟩ .oper = .ok ⟨R, P, ns, ts, m⟩ := by
 unfold stepP
 simp only [h.2.1, h.2.2, if_false]
 rfl
theorem qdW {t : Go.Tm.T} (h : Rt t) (H : qgc t) {R : List Tok} (P : List Stp) (ns : List ByteArray) (ts : List Go.Tm.T) (m : Nat) (hs : stopA R) (hm : m + t.size <= 10000) : Goes ⟨kidT t ++ R, .single :: P, ns, ts, m⟩ ⟨R, P, ns, ts ++ [t], m + t.size⟩ := by
 refine .one (τ := ⟨kidT t ++ R, .appl :: .oper :: P, ns, ts, m⟩) (qcQ (qgD h R).1) ((qlw h H _ ns ts m hs.1 hm).trans ?_)
 exact .one (qgE hs) (.refl _)
theorem qjh {R : List Tok} {P : List Stp} {ns : List ByteArray} {ts : List Go.Tm.T} {m : Nat} (h : (qaf R).text ≠ [59]) : stepP ⟨R, P, ns, ts, m⟩ .more = .ok ⟨R, P, ns, ts, m⟩ := by
 unfold stepP
 simp only [h, if_false]
theorem qck {t : Go.Tm.T} (h : Rt t) (H : qgc t) {R : List Tok} (P : List Stp) (ns : List ByteArray) (ts : List Go.Tm.T) (m : Nat) (hs : stopE R) (hm : m + t.size <= 10000) : Goes ⟨kidT t ++ R, .seq :: P, ns, ts, m⟩ ⟨R, P, ns, ts ++ [t], m + t.size⟩ := by
 refine .one (τ := ⟨kidT t ++ R, .single :: .more :: P, ns, ts, m⟩) rfl ((qdW h H _ ns ts m hs.1 hm).trans ?_)
 exact .one (qjh hs.2) (.refl _)
theorem qex {s : List UInt8} {R : List Tok} (h : (atP (kTok s) || s == [58, 61] || opS s || s == [59]) = false) : stopE (kTok s :: R) := by
 simp only [Bool.or_eq_false_iff, beq_eq_false_iff_ne, ne_eq] at h
 exact ⟨⟨h.1.1.1, h.1.1.2, h.1.2⟩, h.2⟩
theorem qoa {s : List UInt8} {R : List Tok} (h : (atP (mTok s) || s == [58, 61] || opS s) = false) : stopA (mTok s :: R) := by
 simp only [Bool.or_eq_false_iff, beq_eq_false_iff_ne, ne_eq] at h
 exact ⟨h.1.1, h.1.2, h.2⟩
theorem qkx (s : ByteArray) (r : List Tok) (p : List Stp) (n : List ByteArray) (t : List Go.Tm.T) (m : Nat) : stepP ⟨nTok s.data.toList :: r, p, n, t, m⟩ .name = .ok ⟨r, p, n ++ [s], t, m⟩ := by
 unfold stepP qaf nTok
 simp [qgd]
theorem qrJ {k : Int} {n : Nat} {r : List Tok} {p : List Stp} {ns : List ByteArray} {a b : List Go.Tm.T} {m : Nat} (hk : named k = false) (hn : b.length = n) (hm : m + 1 <= 10000) : stepP ⟨r, p, ns, a ++ b, m⟩ (.made k n) = .ok ⟨r, p, ns, a ++ [.node k ⟨#[]⟩ 0 b], m + 1⟩ := by
 unfold stepP
 simp only [hk]
 exact qis a b hm rfl hn
theorem qmG {k : Int} {n : Nat} {r : List Tok} {p : List Stp} {ns : List ByteArray} {s : ByteArray} {a b : List Go.Tm.T} {m : Nat} (hk : named k = true) (hn : b.length = n) (hm : m + 1 <= 10000) : stepP ⟨r, p, ns ++ [s], a ++ b, m⟩ (.made k n) = .ok ⟨r, p, ns, a ++ [.node k s 0 b], m + 1⟩ := by
 unfold stepP
 simp only [hk, if_true, List.dropLast_concat, List.getLastD_concat]
 exact qis a b hm rfl hn
theorem qaN {t : Go.Tm.T} {l R : List Tok} {P : List Stp} {ns : List ByteArray} {ts : List Go.Tm.T} {m : Nat} (hs : stopE R) (h : Goes ⟨l ++ R, .single :: .more :: P, ns, ts, m⟩ ⟨R, .more :: P, ns, ts ++ [t], m + t.size⟩) : Goes ⟨l ++ R, .seq :: P, ns, ts, m⟩ ⟨R, P, ns, ts ++ [t], m + t.size⟩ :=
 .one (τ := ⟨l ++ R, .single :: .more :: P, ns, ts, m⟩) rfl (h.trans (.one (qjh hs.2) (.refl _)))
theorem qgF {t : Go.Tm.T} (h : Rt t) {R : List Tok} {P : List Stp} {ns : List ByteArray} {ts : List Go.Tm.T} {m : Nat} {υ : PS} (g : Goes ⟨kidT t ++ R, .simple :: .args :: .oper :: P, ns, ts, m⟩ υ) : Goes ⟨kidT t ++ R, .single :: P, ns, ts, m⟩ υ :=
 .one (τ := ⟨kidT t ++ R, .appl :: .oper :: P, ns, ts, m⟩) (qcQ (qgD h R).1) (.one (τ := ⟨kidT t ++ R, .simple :: .args :: .oper :: P, ns, ts, m⟩) rfl g)
theorem qey {R : List Tok} {P : List Stp} {ns : List ByteArray} {ts : List Go.Tm.T} {m : Nat} (h : atP (qaf R) = false) : stepP ⟨R, P, ns, ts, m⟩ .args = .ok ⟨R, P, ns, ts, m⟩ := by
 unfold stepP
 simp only [h]
 rfl
theorem qfp {s : List UInt8} {l : List Stp} {R : List Tok} {P : List Stp} {ns : List ByteArray} {ts : List Go.Tm.T} {m : Nat} {υ : PS} (h : qbz ⟨kTok s :: R, P, ns, ts, m⟩ = .ok ⟨kTok s :: R, .word s :: l ++ P, ns, ts, m⟩) (g : Goes ⟨R, l ++ P, ns, ts, m⟩ υ) : Goes ⟨kTok s :: R, .single :: P, ns, ts, m⟩ υ :=
 .one (τ := ⟨kTok s :: R, .word s :: l ++ P, ns, ts, m⟩) h (.one (qbU s _ _ _ _ _ _ rfl) g)
theorem qdf {k : Int} {n : Nat} {R : List Tok} {P : List Stp} {ns : List ByteArray} {ts T9 b : List Go.Tm.T} {m M : Nat} (hk : named k = false) (hn : b.length = n) (hT : T9 = ts ++ b) (hm : m + 1 <= 10000) (hM : M = m + 1) : Goes ⟨R, .made k n :: P, ns, T9, m⟩ ⟨R, P, ns, ts ++ [.node k ⟨#[]⟩ 0 b], M⟩ := by
 subst hT; subst hM
 exact .one (qrJ hk hn hm) (.refl _)
theorem qez {k : Int} {n : Nat} {R : List Tok} {P : List Stp} {ns : List ByteArray} {s : ByteArray} {ts T9 b : List Go.Tm.T} {m M : Nat} (hk : named k = true) (hn : b.length = n) (hT : T9 = ts ++ b) (hm : m + 1 <= 10000) (hM : M = m + 1) : Goes ⟨R, .made k n :: P, ns ++ [s], T9, m⟩ ⟨R, P, ns, ts ++ [.node k s 0 b], M⟩ := by
 subst hT; subst hM
 exact .one (qmG hk hn hm) (.refl _)
theorem qlx {t : Go.Tm.T} (h : Rt t) (hk : leafK t.kind = true) : GoSeq t := fun R P ns ts m hR hm => by
 rw [<- qdV hk]
 exact qck h (qaF h fun e => by rw [hk] at e; cases e) P ns ts m (qba hR) hm
theorem qrK {R : List Tok} {P : List Stp} {ns : List ByteArray} {ts : List Go.Tm.T} {m : Nat} (h : atP (qaf R) = true) : stepP ⟨R, .oper :: P, ns, ts, m⟩ .args = .ok ⟨R, .simple :: .made 4 2 :: .args :: .oper :: P, ns, ts, m⟩ := by
 unfold stepP
 simp only [h, if_true]
 rfl
theorem qsE {t : Go.Tm.T} (h : Rt t) : GoSeq t := by
 induction h with
 | num n h0 h1 => exact qlx (.num n h0 h1) (by simp [leafK, T.kind])
 | var s hs => exact qlx (.var s hs) (by simp [leafK, T.kind])
 | fn s a hs ha ia =>
   intro R P ns ts m hR hm
   have ka := qaF ha fun _ => ia
   have e : (Go.Tm.T.node 3 s 0 [a]).size = a.size + 1 := by rw [T.size, sizes, sizes]; omega
   rw [qfL]
   refine qaN (qba hR) ?_
   rw [e] at hm ⊢
   refine qfp (l := [.name, .word [61, 62], .seq, .made 3 1]) rfl ?_
   refine .one (qkx _ _ _ _ _ _) (.one (qbU _ _ _ _ _ _ _ rfl) ?_)
   refine (qck ha ka _ _ ts m (qba hR) (by omega)).trans ?_
   exact qez rfl rfl rfl (by omega) (by omega)
 | app a b ha hb ia ib =>
   intro R P ns ts m hR hm
   have ka := qaF ha fun _ => ia
   have kb := qaF hb fun _ => ib
   have e : (Go.Tm.T.node 4 ⟨#[]⟩ 0 [a, b]).size = a.size + b.size + 1 := by rw [T.size, sizes, sizes, sizes]; omega
   have hE := qba hR
   rw [qfM]
   refine qaN hE ?_
   rw [e] at hm ⊢
   rw [List.append_assoc]
   refine qgF ha ((ka _ _ ns ts m (by omega)).trans ?_)
   refine .one (qrK (qgD hb R).2) ((kb _ _ ns _ _ (by omega)).trans ?_)
   refine (qdf (ts := ts) (b := [a, b]) rfl rfl (by simp) (by omega) rfl).trans ?_
   refine .one (qey hE.1.1) (.one (qgE hE.1) ?_)
   rw [show m + a.size + b.size + 1 = m + (a.size + b.size + 1) by omega]
   exact .refl _
 | lt s a b hs ha hb ia ib =>
   intro R P ns ts m hR hm
   have ka := qaF ha fun _ => ia
   have kb := qaF hb fun _ => ib
   have e : (Go.Tm.T.node 5 s 0 [a, b]).size = a.size + b.size + 1 := by rw [T.size, sizes, sizes, sizes]; omega
   rw [qfN]
   refine qaN (qba hR) ?_
   rw [e] at hm ⊢
   simp only [List.cons_append, List.append_assoc]
   refine qfp (l := [.name, .word [61], .seq, .word [105, 110], .seq, .made 5 2]) rfl ?_
   refine .one (qkx _ _ _ _ _ _) (.one (qbU _ _ _ _ _ _ _ rfl) ?_)
   refine (qck ha ka _ _ ts m (qex (by decide)) (by omega)).trans (.one (qbU _ _ _ _ _ _ _ rfl) ?_)
   refine (qck hb kb _ _ _ _ (qba hR) (by omega)).trans ?_
   exact qez (b := [a, b]) rfl rfl (by simp) (by omega) (by omega)
 | cond a b c ha hb hc ia ib ic =>
   intro R P ns ts m hR hm
   have ka := qaF ha fun _ => ia
   have kb := qaF hb fun _ => ib
   have kc := qaF hc fun _ => ic
   have e : (Go.Tm.T.node 6 ⟨#[]⟩ 0 [a, b, c]).size = a.size + b.size + c.size + 1 := by rw [T.size, sizes, sizes, sizes, sizes]; omega
   rw [qfO]
   refine qaN (qba hR) ?_
   rw [e] at hm ⊢
   simp only [List.cons_append, List.append_assoc]
   refine qfp (l := [.seq, .word [116, 104, 101, 110], .seq, .word [101, 108, 115, 101], .seq, .made 6 3]) rfl ?_
   refine (qck ha ka _ _ ts m (qex (by decide)) (by omega)).trans (.one (qbU _ _ _ _ _ _ _ rfl) ?_)
   refine (qck hb kb _ _ _ _ (qex (by decide)) (by omega)).trans (.one (qbU _ _ _ _ _ _ _ rfl) ?_)
   refine (qck hc kc _ _ _ _ (qba hR) (by omega)).trans ?_
   exact qdf (b := [a, b, c]) rfl rfl (by simp) (by omega) (by omega)
 | loop a b ha hb ia ib =>
   intro R P ns ts m hR hm
   have ka := qaF ha fun _ => ia
   have kb := qaF hb fun _ => ib
   have e : (Go.Tm.T.node 7 ⟨#[]⟩ 0 [a, b]).size = a.size + b.size + 1 := by rw [T.size, sizes, sizes, sizes]; omega
   rw [qfP]
   refine qaN (qba hR) ?_
   rw [e] at hm ⊢
   simp only [List.cons_append, List.append_assoc]
   refine qfp (l := [.seq, .word [100, 111], .seq, .made 7 2]) rfl ?_
   refine (qck ha ka _ _ ts m (qex (by decide)) (by omega)).trans (.one (qbU _ _ _ _ _ _ _ rfl) ?_)
   refine (qck hb kb _ _ _ _ (qba hR) (by omega)).trans ?_
   exact qdf (b := [a, b]) rfl rfl (by simp) (by omega) (by omega)
 | raise a ha ia =>
   intro R P ns ts m hR hm
   have ka := qaF ha fun _ => ia
   have e : (Go.Tm.T.node 8 ⟨#[]⟩ 0 [a]).size = a.size + 1 := by rw [T.size, sizes, sizes]; omega
   rw [qfQ]
   refine qaN (qba hR) ?_
   rw [e] at hm ⊢
   refine qfp (l := [.single, .made 8 1]) rfl ?_
   refine (qdW ha ka _ _ ts m (qba hR).1 (by omega)).trans ?_
   exact qdf (b := [a]) rfl rfl rfl (by omega) (by omega)
 | tri s a b hs ha hb ia ib =>
   intro R P ns ts m hR hm
   have ka := qaF ha fun _ => ia
   have kb := qaF hb fun _ => ib
   have e : (Go.Tm.T.node 9 s 0 [a, b]).size = a.size + b.size + 1 := by rw [T.size, sizes, sizes, sizes]; omega
   rw [qfR]
   refine qaN (qba hR) ?_
   rw [e] at hm ⊢
   simp only [List.cons_append, List.append_assoc]
   refine qfp (l := [.seq, .word [119, 105, 116, 104], .name, .word [61, 62], .seq, .made 9 2]) rfl ?_
   refine (qck ha ka _ _ ts m (qex (by decide)) (by omega)).trans (.one (qbU _ _ _ _ _ _ _ rfl) ?_)
   refine .one (qkx _ _ _ _ _ _) (.one (qbU _ _ _ _ _ _ _ rfl) ?_)
   refine (qck hb kb _ _ _ _ (qba hR) (by omega)).trans ?_
   exact qez (b := [a, b]) rfl rfl (by simp) (by omega) (by omega)
 | get a ha ia =>
   intro R P ns ts m hR hm
   have ka := qaF ha fun _ => ia
   have hE := qba hR
   have e : (Go.Tm.T.node 10 ⟨#[]⟩ 0 [a]).size = a.size + 1 := by rw [T.size, sizes, sizes]; omega
   rw [qdA]
   refine qaN hE ?_
   rw [e] at hm ⊢
   rw [List.cons_append]
   refine .one (τ := ⟨mTok [33] :: (kidT a ++ R), .appl :: .oper :: .more :: P, ns, ts, m⟩) (qcQ (σ := ⟨mTok [33] :: (kidT a ++ R), .more :: P, ns, ts, m⟩) rfl) ?_
   refine .one (τ := ⟨mTok [33] :: (kidT a ++ R), .simple :: .args :: .oper :: .more :: P, ns, ts, m⟩) rfl ?_
   refine .one (τ := ⟨mTok [33] :: (kidT a ++ R), .word [33] :: .simple :: .made 10 1 :: .args :: .oper :: .more :: P, ns, ts, m⟩) rfl ?_
   refine .one (qbU _ _ _ _ _ _ _ rfl) ((ka _ _ ns ts m (by omega)).trans ?_)
   refine (qdf (ts := ts) (b := [a]) rfl rfl rfl (by omega) rfl).trans ?_
   refine .one (qey hE.1.1) (.one (qgE hE.1) ?_)
   rw [show m + a.size + 1 = m + (a.size + 1) by omega]
   exact .refl _
 | put a b ha hb ia ib =>
   intro R P ns ts m hR hm
   have ka := qaF ha fun _ => ia
   have kb := qaF hb fun _ => ib
   have e : (Go.Tm.T.node 11 ⟨#[]⟩ 0 [a, b]).size = a.size + b.size + 1 := by rw [T.size, sizes, sizes, sizes]; omega
   have hE := qba hR
   rw [qdB]
   refine qaN hE ?_
   rw [e] at hm ⊢
   simp only [List.cons_append, List.append_assoc]
   refine qgF ha ((ka _ _ ns ts m (by omega)).trans ?_)
   refine .one (qey rfl) ?_
   refine .one (τ := ⟨mTok [58, 61] :: (kidT b ++ R), .word [58, 61] :: .single :: .made 11 2 :: .more :: P, ns, ts ++ [a], m + a.size⟩) rfl ?_
   refine .one (qbU _ _ _ _ _ _ _ rfl) ((qdW hb kb _ ns _ _ hE.1 (by omega)).trans ?_)
   exact qdf (b := [a, b]) rfl rfl (by simp) (by omega) (by omega)
 | op s a b hs ha hb ia ib =>
   intro R P ns ts m hR hm
   have ka := qaF ha fun _ => ia
   have kb := qaF hb fun _ => ib
   have e : (Go.Tm.T.node 12 s 0 [a, b]).size = a.size + b.size + 1 := by rw [T.size, sizes, sizes, sizes]; omega
   have hE := qba hR
   rw [qdC]
   refine qaN hE ?_
   rw [e] at hm ⊢
   simp only [List.cons_append, List.append_assoc]
   refine qgF ha ((ka _ _ ns ts m (by omega)).trans ?_)
   have ho : atP (mTok s.data.toList) = false /\ s.data.toList ≠ [58, 61] /\ opS s.data.toList = true := by
     rcases qet hs with h | h | h | h | h <;> rw [h] <;> decide
   refine .one (qey ho.1) ?_
   refine .one (τ := ⟨mTok s.data.toList :: (kidT b ++ R), .operator :: .appl :: .made 12 2 :: .more :: P, ns, ts ++ [a], m + a.size⟩) ?_ ?_
   . unfold stepP qaf mTok
     simp only [ho.2.1, ho.2.2, if_false, if_true]
     rfl
   . refine .one (τ := ⟨kidT b ++ R, .appl :: .made 12 2 :: .more :: P, ns ++ [s], ts ++ [a], m + a.size⟩) ?_ ((qlw hb kb _ _ _ _ hE.1.1 (by omega)).trans ?_)
     . unfold stepP qaf mTok
       simp [qgd]
     . exact qez (b := [a, b]) rfl rfl (by simp) (by omega) (by omega)
 | sq a b ha hb ia ib =>
   intro R P ns ts m hR hm
   have ka := qaF ha fun _ => ia
   have kb := qaF hb fun _ => ib
   have e : (Go.Tm.T.node 13 ⟨#[]⟩ 0 [a, b]).size = a.size + b.size + 1 := by rw [T.size, sizes, sizes, sizes]; omega
   have hE := qba hR
   rw [qdD]
   rw [e] at hm ⊢
   simp only [List.cons_append, List.append_assoc]
   refine .one (τ := ⟨kidT a ++ mTok [59] :: (kidT b ++ R), .single :: .more :: P, ns, ts, m⟩) rfl ?_
   refine (qdW ha ka _ ns ts m (qoa (by decide)) (by omega)).trans ?_
   refine .one (τ := ⟨mTok [59] :: (kidT b ++ R), .word [59] :: .seq :: .made 13 2 :: P, ns, ts ++ [a], m + a.size⟩) rfl ?_
   refine .one (qbU _ _ _ _ _ _ _ rfl) ((qck hb kb _ ns _ _ hE (by omega)).trans ?_)
   exact qdf (b := [a, b]) rfl rfl (by simp) (by omega) (by omega)
inductive Ends : PS -> Out -> Prop
 | done (σ : PS) (h : σ.plan = []) : Ends σ (.ok σ)
 | step {σ τ : PS} {o : Out} {s : Stp} {p : List Stp} (hp : σ.plan = s :: p) (h : stepP { σ with plan := p } s = .ok τ) (g : Ends τ o) : Ends σ o
 | stop {σ τ : PS} {e : Nat} {s : Stp} {p : List Stp} (hp : σ.plan = s :: p) (h : stepP { σ with plan := p } s = .bad τ e) : Ends σ (.bad τ e)
theorem Goes.ends {σ τ : PS} {o : Out} (h : Goes σ τ) (g : Ends τ o) : Ends σ o := by
 induction h with
 | refl => exact g
 | step hp h _ ih => exact .step hp h (ih g)
def sure : Stp -> Nat
 | .single => 5
 | .appl => 10
 | .simple => 15
 | .word _ => 30
 | .operator => 30
 | .name => 30
 | _ => 0
def top : List Stp -> Nat
 | [] => 0
 | s :: _ => sure s
def phi (σ : PS) : Nat := 40 * σ.rest.length + 4 * σ.plan.length + (30 - top σ.plan)
def okS : Stp -> Prop
 | .word s => s ≠ []
 | _ => True
def okP (l : List Stp) : Prop := ∀ s ∈ l, okS s
theorem qly (l : List Stp) : top l <= 30 := by
 cases l with
 | nil => exact Nat.zero_le _
 | cons s l => cases s <;> simp [top, sure]
theorem qlz {σ τ : PS} {k num : Int} {nm : ByteArray} {n : Nat} (h : keepP σ k nm num n = .ok τ) : τ.rest = σ.rest /\ τ.plan = σ.plan := by
 unfold keepP at h
 split at h
 . cases h; exact ⟨rfl, rfl⟩
 . split at h
   . cases h
   . cases h; exact ⟨rfl, rfl⟩
theorem qlA {σ τ : PS} {l : List Stp} (h : thenP σ l = .ok τ) : τ.rest = σ.rest /\ τ.plan = l ++ σ.plan := by
 unfold thenP at h
 cases h; exact ⟨rfl, rfl⟩
def Less (σ τ : PS) (s : Stp) : Prop := (∃ x, σ.rest = x :: τ.rest /\ τ.plan = σ.plan) ∨ (τ.rest = σ.rest /\ τ.plan = σ.plan /\ sure s = 0) ∨ (τ.rest = σ.rest /\ ∃ l, τ.plan = l ++ σ.plan /\ l ≠ [] /\ okP l /\ 4 * l.length + sure s < 4 + top l)
theorem qbm {l : List Tok} (h : (qaf l).kind ≠ 0 ∨ (qaf l).text ≠ []) : ∃ x r, l = x :: r /\ qaf l = x /\ l.tail = r := by
 cases l with
 | nil => rcases h with h | h <;> exact absurd rfl h
 | cons x r => exact ⟨x, r, rfl, rfl, rfl⟩
theorem qbV {σ τ : PS} {s : Stp} {l : List Stp} (h : thenP σ l = .ok τ) (h1 : l ≠ []) (h2 : okP l) (h3 : 4 * l.length + sure s < 4 + top l) : Less σ τ s :=
 .inr (.inr ⟨(qlA h).1, l, (qlA h).2, h1, h2, h3⟩)
theorem qob {σ τ : PS} {s : List UInt8} (hs : s ≠ []) (h : wordP s σ = .ok τ) : Less σ τ (.word s) := by
 unfold wordP at h
 split at h
 . rename_i he
   cases h
   obtain ⟨x, r, h1, _, h3⟩ := qbm (l := σ.rest) (.inr (by rw [he]; exact hs))
   exact .inl ⟨x, by rw [h3]; exact h1, rfl⟩
 . cases h
theorem qky {σ τ : PS} (h : qbz σ = .ok τ) : Less σ τ .single := by
 unfold qbz at h
 simp only at h
 repeat' split at h
 all_goals exact qbV h (by simp) (by intro s hs; simp at hs; rcases hs with rfl | rfl | rfl | rfl | rfl | rfl | rfl <;> simp [okS]) (by decide)
theorem qeA {σ σ' τ : PS} {k num : Int} {nm : ByteArray} {n : Nat} {s : Stp} (h : keepP σ' k nm num n = .ok τ) (h1 : (∃ x, σ.rest = x :: σ'.rest) ∨ (σ'.rest = σ.rest /\ sure s = 0)) (h2 : σ'.plan = σ.plan) : Less σ τ s := by
 obtain ⟨g1, g2⟩ := qlz h
 rcases h1 with ⟨x, h1⟩ | ⟨h1, h3⟩
 . exact .inl ⟨x, by rw [g1]; exact h1, g2.trans h2⟩
 . exact .inr (.inl ⟨g1.trans h1, g2.trans h2, h3⟩)
theorem qkz {σ τ : PS} (h : qbA σ = .ok τ) : Less σ τ .simple := by
 unfold qbA at h
 simp only at h
 split at h
 . rename_i hk
   obtain ⟨x, r, h1, _, h3⟩ := qbm (l := σ.rest) (.inl (by rw [hk]; decide))
   exact qeA h (.inl ⟨x, by rw [h3]; exact h1⟩) rfl
 . split at h
   . rename_i hk
     obtain ⟨x, r, h1, _, h3⟩ := qbm (l := σ.rest) (.inl (by rw [hk]; decide))
     exact qeA h (.inl ⟨x, by rw [h3]; exact h1⟩) rfl
   . split at h
     . exact qbV h (by simp) (by intro s hs; simp at hs; rcases hs with rfl | rfl | rfl <;> simp [okS]) (by decide)
     . split at h
       . exact qbV h (by simp) (by intro s hs; simp at hs; rcases hs with rfl | rfl | rfl <;> simp [okS]) (by decide)
       . cases h
theorem qeB {σ τ : PS} {s : Stp} (hs : okS s) (h : stepP σ s = .ok τ) : Less σ τ s := by
 cases s with
 | seq => exact qbV h (by simp) (by intro s hs; simp at hs; rcases hs with rfl | rfl <;> simp [okS]) (by decide)
 | more =>
   unfold stepP at h
   simp only at h
   split at h
   . exact qbV h (by simp) (by intro s hs; simp at hs; rcases hs with rfl | rfl | rfl <;> simp [okS]) (by decide)
   . cases h; exact .inr (.inl ⟨rfl, rfl, rfl⟩)
 | single => exact qky h
 | oper =>
   unfold stepP at h
   simp only at h
   split at h
   . exact qbV h (by simp) (by intro s hs; simp at hs; rcases hs with rfl | rfl | rfl <;> simp [okS]) (by decide)
   . split at h
     . exact qbV h (by simp) (by intro s hs; simp at hs; rcases hs with rfl | rfl | rfl <;> simp [okS]) (by decide)
     . cases h; exact .inr (.inl ⟨rfl, rfl, rfl⟩)
 | appl => exact qbV h (by simp) (by intro s hs; simp at hs; rcases hs with rfl | rfl <;> simp [okS]) (by decide)
 | args =>
   unfold stepP at h
   simp only at h
   split at h
   . exact qbV h (by simp) (by intro s hs; simp at hs; rcases hs with rfl | rfl | rfl <;> simp [okS]) (by decide)
   . cases h; exact .inr (.inl ⟨rfl, rfl, rfl⟩)
 | simple => exact qkz h
 | name =>
   unfold stepP at h
   simp only at h
   split at h
   . rename_i hk
     cases h
     obtain ⟨x, r, h1, _, h3⟩ := qbm (l := σ.rest) (.inl (by rw [hk]; decide))
     exact .inl ⟨x, by rw [h3]; exact h1, rfl⟩
   . cases h
 | operator =>
   unfold stepP at h
   simp only at h
   split at h
   . rename_i hk
     cases h
     obtain ⟨x, r, h1, _, h3⟩ := qbm (l := σ.rest) (.inl (by rw [hk]; decide))
     exact .inl ⟨x, by rw [h3]; exact h1, rfl⟩
   . cases h
 | fin =>
   unfold stepP at h
   simp only at h
   split at h
   . cases h; exact .inr (.inl ⟨rfl, rfl, rfl⟩)
   . cases h
 | word s => exact qob hs h
 | made k n =>
   unfold stepP at h
   simp only at h
   split at h
   . exact qeA h (.inr ⟨rfl, rfl⟩) rfl
   . exact qeA h (.inr ⟨rfl, rfl⟩) rfl
theorem qge {σ τ : PS} {s : Stp} {p : List Stp} (hp : σ.plan = s :: p) (h : Less { σ with plan := p } τ s) (ho : okP p) : phi τ < phi σ /\ okP τ.plan := by
 have ht := qly τ.plan
 have hs : top σ.plan = sure s := by rw [hp]; rfl
 have hs2 := qly σ.plan
 have hl : σ.plan.length = p.length + 1 := by rw [hp, List.length_cons]
 rcases h with ⟨x, h1, h2⟩ | ⟨h1, h2, h3⟩ | ⟨h1, l, h2, h3, h4, h5⟩
 . simp only at h1 h2
   refine ⟨?_, by rw [h2]; exact ho⟩
   have e : σ.rest.length = τ.rest.length + 1 := by rw [h1, List.length_cons]
   unfold phi
   rw [e, h2, hs, hl]
   omega
 . simp only at h1 h2
   refine ⟨?_, by rw [h2]; exact ho⟩
   unfold phi
   rw [h1, hs, hl, h3]
   rw [h2] at ht ⊢
   omega
 . simp only at h1 h2
   refine ⟨?_, by rw [h2]; intro y hy; rcases List.mem_append.1 hy with hy | hy; exact h4 y hy; exact ho y hy⟩
   have e : τ.plan.length = l.length + p.length := by rw [h2, List.length_append]
   have e2 : top τ.plan = top l := by
     obtain ⟨y, r, rfl⟩ := List.exists_cons_of_ne_nil h3
     rw [h2]; rfl
   unfold phi
   rw [h1, e, e2, hs, hl]
   have := qly l
   omega
theorem qeC : ∀ (n : Nat) (σ : PS), phi σ <= n -> okP σ.plan -> ∃ o, Ends σ o
 | 0, σ, hn, _ => by
   have := qly σ.plan
   cases hp : σ.plan with
   | nil => exact ⟨_, .done σ hp⟩
   | cons s p => unfold phi at hn; rw [hp, List.length_cons] at hn; omega
 | n + 1, σ, hn, ho => by
   cases hp : σ.plan with
   | nil => exact ⟨_, .done σ hp⟩
   | cons s p =>
     rw [hp] at ho
     cases hs : stepP { σ with plan := p } s with
     | bad τ e => exact ⟨_, .stop hp hs⟩
     | ok τ =>
       obtain ⟨h1, h2⟩ := qge hp (qeB (ho s (by simp)) hs) (fun y hy => ho y (by simp [hy]))
       obtain ⟨o, g⟩ := qeC n τ (by omega) h2
       exact ⟨o, .step hp hs g⟩
def effN : Stp -> Nat × Nat
 | .name => (0, 1)
 | .operator => (0, 1)
 | .made k _ => if named k = true then (1, 0) else (0, 0)
 | _ => (0, 0)
def effT : Stp -> Nat × Nat
 | .seq => (0, 1)
 | .more => (1, 1)
 | .single => (0, 1)
 | .oper => (1, 1)
 | .appl => (0, 1)
 | .args => (1, 1)
 | .simple => (0, 1)
 | .made _ n => (n, 1)
 | _ => (0, 0)
def fit (c : Stp -> Nat × Nat) (z : Nat) : List Stp -> Nat -> Prop
 | [], a => z <= a
 | s :: p, a => (c s).1 <= a /\ fit c z p (a - (c s).1 + (c s).2)
theorem qag {c : Stp -> Nat × Nat} {z : Nat} : ∀ {p : List Stp} {a b : Nat}, fit c z p a -> a <= b -> fit c z p b
 | [], _, _, h, hab => Nat.le_trans h hab
 | _ :: _, _, _, h, hab => ⟨Nat.le_trans h.1 hab, qag h.2 (by omega)⟩
def Fits (σ : PS) : Prop := fit effN 0 σ.plan σ.names.length /\ (σ.made <= 10000 -> fit effT 1 σ.plan σ.terms.length)
theorem Fits.name {σ : PS} {s : Stp} {p : List Stp} (h : Fits σ) (hp : σ.plan = s :: p) : (effN s).1 <= σ.names.length := by
 have := h.1; rw [hp] at this; exact this.1
theorem Fits.term {σ : PS} {s : Stp} {p : List Stp} (h : Fits σ) (hp : σ.plan = s :: p) (hm : σ.made <= 10000) : (effT s).1 <= σ.terms.length := by
 have := h.2 hm; rw [hp] at this; exact this.1
def Kept (s : Stp) (σ τ : PS) : Prop := ∃ l, τ.plan = l ++ σ.plan ∧
 (∀ p, fit effN 0 (s :: p) σ.names.length -> fit effN 0 (l ++ p) τ.names.length) ∧
 (τ.made <= 10000 -> σ.made <= 10000 /\ ∀ p, fit effT 1 (s :: p) σ.terms.length -> fit effT 1 (l ++ p) τ.terms.length)
theorem Kept.fits {σ τ : PS} {s : Stp} {p : List Stp} (h : Kept s { σ with plan := p } τ) (hp : σ.plan = s :: p) (hf : Fits σ) : Fits τ := by
 obtain ⟨l, h1, h2, h3⟩ := h
 simp only at h1 h2 h3
 obtain ⟨f1, f2⟩ := hf
 rw [hp] at f1 f2
 refine ⟨?_, fun hm => ?_⟩
 . rw [h1]; exact h2 p f1
 . rw [h1]; exact (h3 hm).2 p (f2 (h3 hm).1)
theorem qeD {σ σ' τ : PS} {k num : Int} {nm : ByteArray} {n : Nat} {s : Stp} (h : keepP σ' k nm num n = .ok τ) (hp : σ'.plan = σ.plan) (ht : σ'.terms = σ.terms) (hm : σ'.made = σ.made)
   (hN : ∀ p, fit effN 0 (s :: p) σ.names.length -> fit effN 0 p σ'.names.length) (hT : ∀ p a, fit effT 1 (s :: p) a -> n <= a /\ fit effT 1 p (a - n + 1)) : Kept s σ τ := by
 unfold keepP at h
 split at h
 . rename_i hg
   cases h
   exact ⟨[], hp, hN, fun h => absurd hg (by omega)⟩
 . rename_i hg
   split at h
   . cases h
   . cases h
     refine ⟨[], hp, hN, fun _ => ⟨by omega, fun p hf => ?_⟩⟩
     obtain ⟨h1, h2⟩ := hT p _ hf
     rw [List.nil_append]
     refine qag h2 ?_
     simp only [List.length_append, List.length_take, List.length_cons, List.length_nil, ht]
     omega
theorem qaX {σ τ : PS} {s : Stp} {l : List Stp} (h : thenP σ l = .ok τ) (hN : ∀ p a, fit effN 0 (s :: p) a -> fit effN 0 (l ++ p) a) (hT : ∀ p a, fit effT 1 (s :: p) a -> fit effT 1 (l ++ p) a) : Kept s σ τ := by
 unfold thenP at h
 cases h
 exact ⟨l, rfl, fun p => hN p _, fun hm => ⟨hm, fun p => hT p _⟩⟩
theorem qdE {σ τ : PS} {s : Stp} (h1 : τ.plan = σ.plan) (h2 : τ.names = σ.names) (h3 : τ.terms = σ.terms) (h4 : τ.made = σ.made) (hN : ∀ p a, fit effN 0 (s :: p) a -> fit effN 0 p a) (hT : ∀ p a, fit effT 1 (s :: p) a -> fit effT 1 p a) : Kept s σ τ :=
 ⟨[], h1, by rw [h2]; exact fun p => hN p _, by rw [h3, h4]; exact fun hm => ⟨hm, fun p => hT p _⟩⟩
section
attribute [local simp] fit effN effT named
theorem qkA {σ τ : PS} (h : qbz σ = .ok τ) : Kept .single σ τ := by
 unfold qbz at h
 simp only at h
 split at h
 . exact qaX h (by intro p a h; simp at h ⊢; first | exact h | (refine qag h ?_; omega) | (obtain ⟨h1, h2⟩ := h; first | exact ⟨h1, qag h2 (by omega)⟩ | exact qag h2 (by omega))) (by intro p a h; simp at h ⊢; first | exact h | (refine qag h ?_; omega) | (obtain ⟨h1, h2⟩ := h; first | exact ⟨h1, qag h2 (by omega)⟩ | exact qag h2 (by omega)))
 . split at h
   . exact qaX h (by intro p a h; simp at h ⊢; first | exact h | (refine qag h ?_; omega) | (obtain ⟨h1, h2⟩ := h; first | exact ⟨h1, qag h2 (by omega)⟩ | exact qag h2 (by omega))) (by intro p a h; simp at h ⊢; first | exact h | (refine qag h ?_; omega) | (obtain ⟨h1, h2⟩ := h; first | exact ⟨h1, qag h2 (by omega)⟩ | exact qag h2 (by omega)))
   . split at h
     . exact qaX h (by intro p a h; simp at h ⊢; first | exact h | (refine qag h ?_; omega) | (obtain ⟨h1, h2⟩ := h; first | exact ⟨h1, qag h2 (by omega)⟩ | exact qag h2 (by omega))) (by intro p a h; simp at h ⊢; first | exact h | (refine qag h ?_; omega) | (obtain ⟨h1, h2⟩ := h; first | exact ⟨h1, qag h2 (by omega)⟩ | exact qag h2 (by omega)))
     . split at h
       . exact qaX h (by intro p a h; simp at h ⊢; first | exact h | (refine qag h ?_; omega) | (obtain ⟨h1, h2⟩ := h; first | exact ⟨h1, qag h2 (by omega)⟩ | exact qag h2 (by omega))) (by intro p a h; simp at h ⊢; first | exact h | (refine qag h ?_; omega) | (obtain ⟨h1, h2⟩ := h; first | exact ⟨h1, qag h2 (by omega)⟩ | exact qag h2 (by omega)))
       . split at h
         . exact qaX h (by intro p a h; simp at h ⊢; first | exact h | (refine qag h ?_; omega) | (obtain ⟨h1, h2⟩ := h; first | exact ⟨h1, qag h2 (by omega)⟩ | exact qag h2 (by omega))) (by intro p a h; simp at h ⊢; first | exact h | (refine qag h ?_; omega) | (obtain ⟨h1, h2⟩ := h; first | exact ⟨h1, qag h2 (by omega)⟩ | exact qag h2 (by omega)))
         . split at h
           . exact qaX h (by intro p a h; simp at h ⊢; first | exact h | (refine qag h ?_; omega) | (obtain ⟨h1, h2⟩ := h; first | exact ⟨h1, qag h2 (by omega)⟩ | exact qag h2 (by omega))) (by intro p a h; simp at h ⊢; first | exact h | (refine qag h ?_; omega) | (obtain ⟨h1, h2⟩ := h; first | exact ⟨h1, qag h2 (by omega)⟩ | exact qag h2 (by omega)))
           . exact qaX h (by intro p a h; simp at h ⊢; first | exact h | (refine qag h ?_; omega) | (obtain ⟨h1, h2⟩ := h; first | exact ⟨h1, qag h2 (by omega)⟩ | exact qag h2 (by omega))) (by intro p a h; simp at h ⊢; first | exact h | (refine qag h ?_; omega) | (obtain ⟨h1, h2⟩ := h; first | exact ⟨h1, qag h2 (by omega)⟩ | exact qag h2 (by omega)))
theorem qkB {σ τ : PS} (h : qbA σ = .ok τ) : Kept .simple σ τ := by
 unfold qbA at h
 simp only at h
 split at h
 . exact qeD h rfl rfl rfl (fun p h => h.2) (by intro p a h; exact ⟨Nat.zero_le _, h.2⟩)
 . split at h
   . exact qeD h rfl rfl rfl (fun p h => h.2) (by intro p a h; exact ⟨Nat.zero_le _, h.2⟩)
   . split at h
     . exact qaX h (by intro p a h; simp at h ⊢; first | exact h | (refine qag h ?_; omega) | (obtain ⟨h1, h2⟩ := h; first | exact ⟨h1, qag h2 (by omega)⟩ | exact qag h2 (by omega))) (by intro p a h; simp at h ⊢; first | exact h | (refine qag h ?_; omega) | (obtain ⟨h1, h2⟩ := h; first | exact ⟨h1, qag h2 (by omega)⟩ | exact qag h2 (by omega)))
     . split at h
       . exact qaX h (by intro p a h; simp at h ⊢; first | exact h | (refine qag h ?_; omega) | (obtain ⟨h1, h2⟩ := h; first | exact ⟨h1, qag h2 (by omega)⟩ | exact qag h2 (by omega))) (by intro p a h; simp at h ⊢; first | exact h | (refine qag h ?_; omega) | (obtain ⟨h1, h2⟩ := h; first | exact ⟨h1, qag h2 (by omega)⟩ | exact qag h2 (by omega)))
       . cases h
theorem qdF {σ τ : PS} {s : Stp} (h : stepP σ s = .ok τ) : Kept s σ τ := by
 cases s with
 | seq => exact qaX h (by intro p a h; simp at h ⊢; first | exact h | (refine qag h ?_; omega) | (obtain ⟨h1, h2⟩ := h; first | exact ⟨h1, qag h2 (by omega)⟩ | exact qag h2 (by omega))) (by intro p a h; simp at h ⊢; first | exact h | (refine qag h ?_; omega) | (obtain ⟨h1, h2⟩ := h; first | exact ⟨h1, qag h2 (by omega)⟩ | exact qag h2 (by omega)))
 | more =>
   unfold stepP at h
   simp only at h
   split at h
   . exact qaX h (by intro p a h; simp at h ⊢; first | exact h | (refine qag h ?_; omega) | (obtain ⟨h1, h2⟩ := h; first | exact ⟨h1, qag h2 (by omega)⟩ | exact qag h2 (by omega))) (by intro p a h; simp at h ⊢; first | exact h | (refine qag h ?_; omega) | (obtain ⟨h1, h2⟩ := h; first | exact ⟨h1, qag h2 (by omega)⟩ | exact qag h2 (by omega)))
   . cases h; exact qdE rfl rfl rfl rfl (by intro p a h; simp at h ⊢; first | exact h | (refine qag h ?_; omega) | (obtain ⟨h1, h2⟩ := h; first | exact ⟨h1, qag h2 (by omega)⟩ | exact qag h2 (by omega))) (by intro p a h; simp at h ⊢; first | exact h | (refine qag h ?_; omega) | (obtain ⟨h1, h2⟩ := h; first | exact ⟨h1, qag h2 (by omega)⟩ | exact qag h2 (by omega)))
 | single => exact qkA h
 | oper =>
   unfold stepP at h
   simp only at h
   split at h
   . exact qaX h (by intro p a h; simp at h ⊢; first | exact h | (refine qag h ?_; omega) | (obtain ⟨h1, h2⟩ := h; first | exact ⟨h1, qag h2 (by omega)⟩ | exact qag h2 (by omega))) (by intro p a h; simp at h ⊢; first | exact h | (refine qag h ?_; omega) | (obtain ⟨h1, h2⟩ := h; first | exact ⟨h1, qag h2 (by omega)⟩ | exact qag h2 (by omega)))
   . split at h
     . exact qaX h (by intro p a h; simp at h ⊢; first | exact h | (refine qag h ?_; omega) | (obtain ⟨h1, h2⟩ := h; first | exact ⟨h1, qag h2 (by omega)⟩ | exact qag h2 (by omega))) (by intro p a h; simp at h ⊢; first | exact h | (refine qag h ?_; omega) | (obtain ⟨h1, h2⟩ := h; first | exact ⟨h1, qag h2 (by omega)⟩ | exact qag h2 (by omega)))
     . cases h; exact qdE rfl rfl rfl rfl (by intro p a h; simp at h ⊢; first | exact h | (refine qag h ?_; omega) | (obtain ⟨h1, h2⟩ := h; first | exact ⟨h1, qag h2 (by omega)⟩ | exact qag h2 (by omega))) (by intro p a h; simp at h ⊢; first | exact h | (refine qag h ?_; omega) | (obtain ⟨h1, h2⟩ := h; first | exact ⟨h1, qag h2 (by omega)⟩ | exact qag h2 (by omega)))
 | appl => exact qaX h (by intro p a h; simp at h ⊢; first | exact h | (refine qag h ?_; omega) | (obtain ⟨h1, h2⟩ := h; first | exact ⟨h1, qag h2 (by omega)⟩ | exact qag h2 (by omega))) (by intro p a h; simp at h ⊢; first | exact h | (refine qag h ?_; omega) | (obtain ⟨h1, h2⟩ := h; first | exact ⟨h1, qag h2 (by omega)⟩ | exact qag h2 (by omega)))
 | args =>
   unfold stepP at h
   simp only at h
   split at h
   . exact qaX h (by intro p a h; simp at h ⊢; first | exact h | (refine qag h ?_; omega) | (obtain ⟨h1, h2⟩ := h; first | exact ⟨h1, qag h2 (by omega)⟩ | exact qag h2 (by omega))) (by intro p a h; simp at h ⊢; first | exact h | (refine qag h ?_; omega) | (obtain ⟨h1, h2⟩ := h; first | exact ⟨h1, qag h2 (by omega)⟩ | exact qag h2 (by omega)))
   . cases h; exact qdE rfl rfl rfl rfl (by intro p a h; simp at h ⊢; first | exact h | (refine qag h ?_; omega) | (obtain ⟨h1, h2⟩ := h; first | exact ⟨h1, qag h2 (by omega)⟩ | exact qag h2 (by omega))) (by intro p a h; simp at h ⊢; first | exact h | (refine qag h ?_; omega) | (obtain ⟨h1, h2⟩ := h; first | exact ⟨h1, qag h2 (by omega)⟩ | exact qag h2 (by omega)))
 | simple => exact qkB h
 | name =>
   unfold stepP at h
   simp only at h
   split at h
   . cases h
     refine ⟨[], rfl, fun p h => ?_, fun hm => ⟨hm, fun p h => h.2⟩⟩
     have := h.2
     simpa [effN] using this
   . cases h
 | operator =>
   unfold stepP at h
   simp only at h
   split at h
   . cases h
     refine ⟨[], rfl, fun p h => ?_, fun hm => ⟨hm, fun p h => h.2⟩⟩
     have := h.2
     simpa [effN] using this
   . cases h
 | fin =>
   unfold stepP at h
   simp only at h
   split at h
   . cases h; exact qdE rfl rfl rfl rfl (by intro p a h; simp at h ⊢; first | exact h | (refine qag h ?_; omega) | (obtain ⟨h1, h2⟩ := h; first | exact ⟨h1, qag h2 (by omega)⟩ | exact qag h2 (by omega))) (by intro p a h; simp at h ⊢; first | exact h | (refine qag h ?_; omega) | (obtain ⟨h1, h2⟩ := h; first | exact ⟨h1, qag h2 (by omega)⟩ | exact qag h2 (by omega)))
   . cases h
 | word s =>
   unfold stepP wordP at h
   simp only at h
   split at h
   . cases h; exact qdE rfl rfl rfl rfl (by intro p a h; simp at h ⊢; first | exact h | (refine qag h ?_; omega) | (obtain ⟨h1, h2⟩ := h; first | exact ⟨h1, qag h2 (by omega)⟩ | exact qag h2 (by omega))) (by intro p a h; simp at h ⊢; first | exact h | (refine qag h ?_; omega) | (obtain ⟨h1, h2⟩ := h; first | exact ⟨h1, qag h2 (by omega)⟩ | exact qag h2 (by omega)))
   . cases h
 | made k n =>
   unfold stepP at h
   simp only at h
   split at h
   . rename_i hk
     refine qeD h rfl rfl rfl (fun p h => ?_) (fun p a h => h)
     have := h.2
     simpa [effN, hk, -named, -fit, -effT] using this
   . rename_i hk
     refine qeD h rfl rfl rfl (fun p h => ?_) (fun p a h => h)
     have := h.2
     simpa [effN, hk, -named, -fit, -effT] using this
end
theorem qcG {σ τ : PS} {k num : Int} {nm : ByteArray} {n e : Nat} (h : keepP σ k nm num n = .bad τ e) : e = 1 /\ 10000 < τ.made /\ τ.plan = σ.plan /\ τ.names = σ.names /\ τ.rest = σ.rest := by
 unfold keepP at h
 split at h
 . cases h
 . rename_i hg
   split at h
   . cases h; exact ⟨rfl, by simp only; omega, rfl, rfl, rfl⟩
   . cases h
theorem qgf {σ τ : PS} {s : Stp} {e : Nat} (h : stepP σ s = .bad τ e) : e = 2 ∨ (e = 1 /\ 10000 < τ.made /\ τ.plan = σ.plan /\ ∀ p, fit effN 0 (s :: p) σ.names.length -> fit effN 0 p τ.names.length) := by
 cases s with
 | seq => cases h
 | more => unfold stepP thenP at h; simp only at h; split at h <;> cases h
 | single => unfold stepP qbz thenP at h; simp only at h; repeat' split at h
             all_goals cases h
 | oper => unfold stepP thenP at h; simp only at h; split at h; · cases h
           . split at h <;> cases h
 | appl => cases h
 | args => unfold stepP thenP at h; simp only at h; split at h <;> cases h
 | simple =>
   rw [qbB] at h
   unfold qbA thenP at h
   simp only at h
   split at h
   . obtain ⟨a, b, c, d, _⟩ := qcG h; exact .inr ⟨a, b, c, fun p h => by rw [d]; exact h.2⟩
   . split at h
     . obtain ⟨a, b, c, d, _⟩ := qcG h; exact .inr ⟨a, b, c, fun p h => by rw [d]; exact h.2⟩
     . split at h
       . cases h
       . split at h
         . cases h
         . cases h; exact .inl rfl
 | name => unfold stepP at h; simp only at h; split at h <;> cases h; exact .inl rfl
 | operator => unfold stepP at h; simp only at h; split at h <;> cases h; exact .inl rfl
 | fin => unfold stepP at h; simp only at h; split at h <;> cases h; exact .inl rfl
 | word s => unfold stepP wordP at h; simp only at h; split at h <;> cases h; exact .inl rfl
 | made k n =>
   unfold stepP at h
   simp only at h
   split at h
   . rename_i hk
     obtain ⟨a, b, c, d, _⟩ := qcG h
     refine .inr ⟨a, b, c, fun p h => ?_⟩
     rw [d]
     have := h.2
     simpa [effN, hk] using this
   . rename_i hk
     obtain ⟨a, b, c, d, _⟩ := qcG h
     refine .inr ⟨a, b, c, fun p h => ?_⟩
     rw [d]
     have := h.2
     simpa [effN, hk] using this
theorem Ends.fits {σ τ : PS} (h : Ends σ (.bad τ 1)) (hf : Fits σ) : Fits τ /\ 10000 < τ.made := by
 generalize ho : Out.bad τ 1 = o at h
 induction h with
 | done => cases ho
 | step hp h _ ih => exact ih ((qdF h).fits hp hf) ho
 | stop hp h =>
   cases ho
   rcases qgf h with h1 | ⟨_, h1, h2, h3⟩
   . cases h1
   . refine ⟨⟨?_, fun hm => absurd h1 (by omega)⟩, h1⟩
     have := hf.1
     rw [hp] at this
     simp only at h2 h3
     rw [h2]
     exact h3 _ this
theorem qeE {σ τ : PS} {k num : Int} {nm : ByteArray} {n : Nat} (h : keepP σ k nm num n = .ok τ) (hm : σ.made <= 10000) : τ.made <= 10000 := by
 unfold keepP at h
 split at h
 . omega
 . split at h
   . cases h
   . cases h; simp only; omega
theorem qgG {σ τ : PS} {s : Stp} (h : stepP σ s = .ok τ) (hm : σ.made <= 10000) : τ.made <= 10000 := by
 cases s with
 | seq => cases h; exact hm
 | more => unfold stepP thenP at h; simp only at h; split at h <;> (cases h; exact hm)
 | single => unfold stepP qbz thenP at h; simp only at h; repeat' split at h
             all_goals (cases h; exact hm)
 | oper => unfold stepP thenP at h; simp only at h; repeat' split at h
           all_goals (cases h; exact hm)
 | appl => cases h; exact hm
 | args => unfold stepP thenP at h; simp only at h; split at h <;> (cases h; exact hm)
 | simple =>
   rw [qbB] at h
   unfold qbA thenP at h
   simp only at h
   split at h
   . exact qeE h hm
   . split at h
     . exact qeE h hm
     . split at h
       . cases h; exact hm
       . split at h
         . cases h; exact hm
         . cases h
 | name => unfold stepP at h; simp only at h; split at h <;> cases h; exact hm
 | operator => unfold stepP at h; simp only at h; split at h <;> cases h; exact hm
 | fin => unfold stepP at h; simp only at h; split at h <;> cases h; exact hm
 | word s => unfold stepP wordP at h; simp only at h; split at h <;> cases h; exact hm
 | made k n =>
   unfold stepP at h
   simp only at h
   split at h
   . exact qeE h hm
   . exact qeE h hm
theorem Ends.there {σ τ : PS} (h : Ends σ (.ok τ)) (hf : Fits σ) (hm : σ.made <= 10000) : 1 <= τ.terms.length := by
 generalize ho : Out.ok τ = o at h
 induction h with
 | done σ h => cases ho; have := hf.2 hm; rw [h] at this; exact this
 | step hp h _ ih => exact ih ((qdF h).fits hp hf) (qgG h hm) ho
 | stop hp h => cases ho
theorem Ends.one {σ : PS} {a b : Out} (h : Ends σ a) (g : Ends σ b) : a = b := by
 induction h with
 | done σ h =>
   cases g with
   | done => rfl
   | step hp => rw [h] at hp; cases hp
   | stop hp => rw [h] at hp; cases hp
 | step hp h _ ih =>
   cases g with
   | done _ h' => rw [hp] at h'; cases h'
   | step hp' h' g' => rw [hp] at hp'; cases hp'; rw [h] at h'; cases h'; exact ih g'
   | stop hp' h' => rw [hp] at hp'; cases hp'; rw [h] at h'; cases h'
 | stop hp h =>
   cases g with
   | done _ h' => rw [hp] at h'; cases h'
   | step hp' h' g' => rw [hp] at hp'; cases hp'; rw [h] at h'; cases h'
   | stop hp' h' => rw [hp] at hp'; cases hp'; rw [h] at h'; cases h'; rfl
structure Lim (N : Nat) (σ : PS) : Prop where
 ok : okP σ.plan
 le : σ.names.length + phi σ <= N
def Out.st : Out -> PS
 | .ok τ => τ
 | .bad τ _ => τ
theorem qfq {σ : PS} {k num : Int} {nm : ByteArray} {n : Nat} : (keepP σ k nm num n).st.names = σ.names := by
 unfold keepP
 split
 . rfl
 . split <;> rfl
theorem qhI (σ : PS) (s : Stp) : (stepP σ s).st.names.length <= σ.names.length + 1 := by
 cases s with
 | seq => exact Nat.le_succ _
 | more => rw [stepP]; split <;> exact Nat.le_succ _
 | single =>
   rw [stepP]; unfold qbz
   dsimp only
   repeat' split
   all_goals exact Nat.le_succ _
 | oper =>
   rw [stepP]
   repeat' split
   all_goals exact Nat.le_succ _
 | appl => exact Nat.le_succ _
 | args => rw [stepP]; split <;> exact Nat.le_succ _
 | simple =>
   rw [stepP]; unfold qbA
   dsimp only
   repeat' split
   all_goals first
     | (rw [qfq]; exact Nat.le_succ _)
     | exact Nat.le_succ _
 | name => rw [stepP]; split <;> simp [Out.st]
 | operator => rw [stepP]; split <;> simp [Out.st]
 | fin => rw [stepP]; split <;> exact Nat.le_succ _
 | word s => rw [stepP]; unfold wordP; split <;> exact Nat.le_succ _
 | made k n =>
   rw [stepP]
   split
   . rw [qfq]; simp [List.length_dropLast]; omega
   . rw [qfq]; exact Nat.le_succ _
theorem Lim.step {N : Nat} {σ τ : PS} {s : Stp} {p : List Stp} (h : Lim N σ) (hp : σ.plan = s :: p) (hs : stepP { σ with plan := p } s = .ok τ) : Lim N τ := by
 have ho := h.ok
 rw [hp] at ho
 obtain ⟨h1, h2⟩ := qge hp (qeB (ho _ (by simp)) hs) (fun y hy => ho y (by simp [hy]))
 have h3 := qhI { σ with plan := p } s
 rw [hs] at h3
 have h4 := h.le
 exact ⟨h2, by have h5 : τ.names.length <= σ.names.length + 1 := h3; omega⟩
theorem Lim.plan {N : Nat} {σ : PS} (h : Lim N σ) : σ.plan.length <= N := by
 have := h.le
 unfold phi at this; omega
def Up (l : List Tok) (d : Int) : Prop := ∀ k, parI (l.take k) <= d
theorem qkC {l : List Tok} {d e : Int} (h : Up l d) (hd : d <= e) : Up l e := fun k => Int.le_trans (h k) hd
theorem qri {d : Int} (hd : 0 <= d) : Up [] d := fun k => by rw [List.take_nil]; exact hd
theorem qee {a b : List Tok} {d : Int} (ha : Par a) (h1 : Up a d) (h2 : Up b d) : Up (a ++ b) d := fun k => by
 rw [List.take_append, qde]
 by_cases hk : k <= a.length
 . rw [show k - a.length = 0 by omega, List.take_zero]
   have := h1 k
   have h0 : parI ([] : List Tok) = 0 := rfl
   omega
 . rw [List.take_of_length_le (by omega), ha.all]
   have := h2 (k - a.length)
   omega
theorem qmH {x : Tok} (h1 : x.text ≠ [40]) (h2 : x.text ≠ [41]) : parI [x] = 0 := by
 have := (qku h1 h2).all
 exact this
theorem qbn {x : Tok} {b : List Tok} {d : Int} (h1 : x.text ≠ [40]) (h2 : x.text ≠ [41]) (hd : 0 <= d) (h : Up b d) : Up (x :: b) d := by
 refine qee (a := [x]) (qku h1 h2) (fun k => ?_) h
 cases k with
 | zero => rw [List.take_zero]; exact hd
 | succ k => rw [List.take_of_length_le (by simp), qmH h1 h2]; exact hd
theorem qsF {t : Go.Tm.T} {d : Int} (h : Rt t) (hd : 0 <= d) (hu : Up (toksT t) (d - 1)) (hl : leafK t.kind = true -> Up (toksT t) d) : Up (kidT t) d := by
 cases hk : leafK t.kind with
 | true => rw [qdV hk]; exact hl hk
 | false =>
   rw [qev hk]
   intro k
   cases k with
   | zero => rw [List.take_zero]; exact hd
   | succ k =>
     rw [List.take_succ_cons, qew]
     have h0 : parI [mTok [40]] = 1 := by decide
     have hp := qcg h
     have h3 : parI (((toksT t) ++ [mTok [41]]).take k) <= d - 1 := by
       rw [List.take_append, qde]
       by_cases hk2 : k <= (toksT t).length
       . rw [show k - (toksT t).length = 0 by omega, List.take_zero]
         have := hu k
         have h0 : parI ([] : List Tok) = 0 := rfl
         omega
       . rw [List.take_of_length_le (by omega), hp.all]
         have h4 : 0 <= d - 1 := by
           have := hu 0
           rw [List.take_zero] at this
           exact this
         have h5 : [mTok [41]].take (k - (toksT t).length) = [mTok [41]] := List.take_of_length_le (by simp; omega)
         rw [h5]
         have h6 : parI [mTok [41]] = -1 := by decide
         omega
     omega
theorem up_op {s : ByteArray} (h : opB s.data.toList = true) {b : List Tok} {d : Int} (hd : 0 <= d) (hb : Up b d) : Up (mTok s.data.toList :: b) d := by
 refine qbn ?_ ?_ hd hb <;> (rcases qet h with e | e | e | e | e <;> rw [show (mTok s.data.toList).text = s.data.toList from rfl, e] <;> decide)
theorem qit {s : ByteArray} (h : wordB s = true) {b : List Tok} {d : Int} (hd : 0 <= d) (hb : Up b d) : Up (nTok s.data.toList :: b) d := qbn (qga h 40 (by decide) []) (qga h 41 (by decide) []) hd hb
theorem qau (t : Go.Tm.T) : 1 <= t.depth := by cases t; rw [T.depth]; omega
theorem qbS {t : Go.Tm.T} (h : Rt t) {d : Nat} (hu : Up (toksT t) ((t.depth : Int) - 1)) (hd : t.depth <= d) : Up (kidT t) d :=
 qsF h (by omega) (qkC hu (by omega)) (fun _ => qkC hu (by omega))
theorem qrL {t : Go.Tm.T} (h : Rt t) : Up (toksT t) ((t.depth : Int) - 1) := by
 have hz : (0 : Int) <= (t.depth : Int) - 1 := by have := qau t; omega
 induction h with
 | num n h0 h1 => rw [qdp]; exact qbn (qir h0 40 (by decide) []) (qir h0 41 (by decide) []) hz (qri hz)
 | var s h => rw [qed]; exact qit h hz (qri hz)
 | fn s a h ha ia =>
   have e : ((Go.Tm.T.node 3 s 0 [a]).depth : Int) - 1 = (a.depth : Nat) := by rw [T.depth, qax, qax]; have := qau a; omega
   rw [e] at hz ⊢
   rw [qfL]
   exact qbn (by decide) (by decide) hz (qit h hz (qbn (by decide) (by decide) hz (qbS ha (ia (by have := qau a; omega)) (Nat.le_refl _))))
 | app a b ha hb ia ib =>
   have e : ((Go.Tm.T.node 4 ⟨#[]⟩ 0 [a, b]).depth : Int) - 1 = (max a.depth b.depth : Nat) := by rw [T.depth, qax, qax, qax]; have := qau a; omega
   rw [e] at hz ⊢
   rw [qfM]
   exact qee (qcP (qcg ha)) (qbS ha (ia (by have := qau a; omega)) (by omega)) (qbS hb (ib (by have := qau b; omega)) (by omega))
 | lt s a b h ha hb ia ib =>
   have e : ((Go.Tm.T.node 5 s 0 [a, b]).depth : Int) - 1 = (max a.depth b.depth : Nat) := by rw [T.depth, qax, qax, qax]; have := qau a; omega
   rw [e] at hz ⊢
   rw [qfN]
   exact qbn (by decide) (by decide) hz (qit h hz (qbn (by decide) (by decide) hz (qee (qcP (qcg ha)) (qbS ha (ia (by have := qau a; omega)) (by omega)) (qbn (by decide) (by decide) hz (qbS hb (ib (by have := qau b; omega)) (by omega))))))
 | cond a b c ha hb hc ia ib ic =>
   have e : ((Go.Tm.T.node 6 ⟨#[]⟩ 0 [a, b, c]).depth : Int) - 1 = (max a.depth (max b.depth c.depth) : Nat) := by rw [T.depth, qax, qax, qax, qax]; have := qau a; omega
   rw [e] at hz ⊢
   rw [qfO]
   exact qbn (by decide) (by decide) hz (qee (qcP (qcg ha)) (qbS ha (ia (by have := qau a; omega)) (by omega)) (qbn (by decide) (by decide) hz (qee (qcP (qcg hb)) (qbS hb (ib (by have := qau b; omega)) (by omega)) (qbn (by decide) (by decide) hz (qbS hc (ic (by have := qau c; omega)) (by omega))))))
 | loop a b ha hb ia ib =>
   have e : ((Go.Tm.T.node 7 ⟨#[]⟩ 0 [a, b]).depth : Int) - 1 = (max a.depth b.depth : Nat) := by rw [T.depth, qax, qax, qax]; have := qau a; omega
   rw [e] at hz ⊢
   rw [qfP]
   exact qbn (by decide) (by decide) hz (qee (qcP (qcg ha)) (qbS ha (ia (by have := qau a; omega)) (by omega)) (qbn (by decide) (by decide) hz (qbS hb (ib (by have := qau b; omega)) (by omega))))
 | raise a ha ia =>
   have e : ((Go.Tm.T.node 8 ⟨#[]⟩ 0 [a]).depth : Int) - 1 = (a.depth : Nat) := by rw [T.depth, qax, qax]; have := qau a; omega
   rw [e] at hz ⊢
   rw [qfQ]
   exact qbn (by decide) (by decide) hz (qbS ha (ia (by have := qau a; omega)) (Nat.le_refl _))
 | tri s a b h ha hb ia ib =>
   have e : ((Go.Tm.T.node 9 s 0 [a, b]).depth : Int) - 1 = (max a.depth b.depth : Nat) := by rw [T.depth, qax, qax, qax]; have := qau a; omega
   rw [e] at hz ⊢
   rw [qfR]
   exact qbn (by decide) (by decide) hz (qee (qcP (qcg ha)) (qbS ha (ia (by have := qau a; omega)) (by omega)) (qbn (by decide) (by decide) hz (qit h hz (qbn (by decide) (by decide) hz (qbS hb (ib (by have := qau b; omega)) (by omega))))))
 | get a ha ia =>
   have e : ((Go.Tm.T.node 10 ⟨#[]⟩ 0 [a]).depth : Int) - 1 = (a.depth : Nat) := by rw [T.depth, qax, qax]; have := qau a; omega
   rw [e] at hz ⊢
   rw [qdA]
   exact qbn (by decide) (by decide) hz (qbS ha (ia (by have := qau a; omega)) (Nat.le_refl _))
 | put a b ha hb ia ib =>
   have e : ((Go.Tm.T.node 11 ⟨#[]⟩ 0 [a, b]).depth : Int) - 1 = (max a.depth b.depth : Nat) := by rw [T.depth, qax, qax, qax]; have := qau a; omega
   rw [e] at hz ⊢
   rw [qdB]
   exact qee (qcP (qcg ha)) (qbS ha (ia (by have := qau a; omega)) (by omega)) (qbn (by decide) (by decide) hz (qbS hb (ib (by have := qau b; omega)) (by omega)))
 | op s a b h ha hb ia ib =>
   have e : ((Go.Tm.T.node 12 s 0 [a, b]).depth : Int) - 1 = (max a.depth b.depth : Nat) := by rw [T.depth, qax, qax, qax]; have := qau a; omega
   rw [e] at hz ⊢
   rw [qdC]
   exact qee (qcP (qcg ha)) (qbS ha (ia (by have := qau a; omega)) (by omega)) (up_op h hz (qbS hb (ib (by have := qau b; omega)) (by omega)))
 | sq a b ha hb ia ib =>
   have e : ((Go.Tm.T.node 13 ⟨#[]⟩ 0 [a, b]).depth : Int) - 1 = (max a.depth b.depth : Nat) := by rw [T.depth, qax, qax, qax]; have := qau a; omega
   rw [e] at hz ⊢
   rw [qdD]
   exact qee (qcP (qcg ha)) (qbS ha (ia (by have := qau a; omega)) (by omega)) (qbn (by decide) (by decide) hz (qbS hb (ib (by have := qau b; omega)) (by omega)))
def nestI : List Tok -> Int -> Int -> Int
 | [], _, m => m
 | x :: l, o, m => nestI l (o + parI [x]) (max m (o + parI [x]))
theorem qoc {d : Int} : ∀ (l : List Tok) (o m : Int), (∀ k, o + parI (l.take k) <= d) -> m <= d -> nestI l o m <= d
 | [], _, _, _, hm => hm
 | x :: l, o, m, h, hm => by
   unfold nestI
   have h1 := h 1
   rw [show (x :: l).take 1 = [x] from rfl] at h1
   refine qoc l _ _ (fun k => ?_) (by omega)
   have h2 := h (k + 1)
   rw [List.take_succ_cons, qew] at h2
   omega
theorem qrM {l : List Tok} {d : Int} (h : Up l d) (hd : 0 <= d) : nestI l 0 0 <= d := qoc l 0 0 (fun k => by have := h k; omega) hd
def T0 : Go.Tm.T := .node 0 ⟨#[]⟩ 0 []
def σ0 (l : List Tok) : PS := ⟨l, [.seq, .fin], [], [], 0⟩
inductive Told (l : List Tok) : Go.Tm.T -> Nat -> Prop
 | wrong (h : Go.Lx.qao l = false) : Told l T0 2
 | deep (h : Go.Lx.qao l = true) (h2 : 200 < nestI l 0 0) : Told l T0 1
 | ok (h : Go.Lx.qao l = true) (h2 : nestI l 0 0 <= 200) {τ : PS} {t : Go.Tm.T} {r : List Go.Tm.T} (g : Ends (σ0 l) (.ok τ)) (e : τ.terms = t :: r) (hr : YtjnfhebbphdchaaGreatDoor.qai t = true) : Told l t 0
 | great (h : Go.Lx.qao l = true) (h2 : nestI l 0 0 <= 200) {τ : PS} {t : Go.Tm.T} {r : List Go.Tm.T} (g : Ends (σ0 l) (.ok τ)) (e : τ.terms = t :: r) (hr : YtjnfhebbphdchaaGreatDoor.qai t = false) : Told l T0 1
 | bad (h : Go.Lx.qao l = true) (h2 : nestI l 0 0 <= 200) {τ : PS} {e : Nat} (g : Ends (σ0 l) (.bad τ e)) (he : e ≠ 1) : Told l T0 e
 | limit (h : Go.Lx.qao l = true) (h2 : nestI l 0 0 <= 200) {τ υ : PS} (g : Ends (σ0 l) (.bad τ 1)) (g2 : Ends τ (.ok υ)) : Told l T0 1
 | both (h : Go.Lx.qao l = true) (h2 : nestI l 0 0 <= 200) {τ υ : PS} {e : Nat} (g : Ends (σ0 l) (.bad τ 1)) (g2 : Ends τ (.bad υ e)) : Told l T0 e
theorem qlB (l : List Tok) : Fits (σ0 l) := by
 unfold σ0
 refine ⟨?_, fun _ => ?_⟩
 . exact ⟨Nat.le_refl _, Nat.le_refl _, Nat.le_refl _⟩
 . exact ⟨Nat.le_refl _, Nat.zero_le _, Nat.le_refl _⟩
theorem qdg {σ τ : PS} {e : Nat} (h : Ends σ (.bad τ e)) : e = 1 ∨ e = 2 := by
 generalize ho : Out.bad τ e = o at h
 induction h with
 | done => cases ho
 | step _ _ _ ih => exact ih ho
 | stop hp h =>
   cases ho
   rcases qgf h with h | ⟨h, _⟩
   . exact .inr h
   . exact .inl h
theorem qlC {σ τ : PS} {e : Nat} (h : Ends σ (.bad τ e)) (ho : okP σ.plan) (he : e = 1) : okP τ.plan := by
 generalize hq : Out.bad τ e = o at h
 induction h with
 | done => cases hq
 | step hp h _ ih =>
   rw [hp] at ho
   exact ih (qge hp (qeB (ho _ (by simp)) h) (fun y hy => ho y (by simp [hy]))).2 hq
 | stop hp h =>
   cases hq
   rcases qgf h with h1 | ⟨_, _, h2, _⟩
   . omega
   . simp only at h2
     rw [h2]
     rw [hp] at ho
     exact fun y hy => ho y (by simp [hy])
theorem qgH (l : List Tok) : ∃ t e, Told l t e := by
 cases h : Go.Lx.qao l with
 | false => exact ⟨_, _, .wrong h⟩
 | true =>
   by_cases h2 : nestI l 0 0 <= 200
   . have ho : okP (σ0 l).plan := by intro y hy; unfold σ0 at hy; simp only [List.mem_cons, List.not_mem_nil, or_false] at hy; rcases hy with rfl | rfl <;> trivial
     obtain ⟨o, g⟩ := qeC _ (σ0 l) (Nat.le_refl _) ho
     cases o with
     | ok τ =>
       have ht := g.there (qlB l) (by unfold σ0; exact Nat.zero_le _)
       cases e : τ.terms with
       | nil => rw [e] at ht; simp at ht
       | cons t r =>
         cases hr : YtjnfhebbphdchaaGreatDoor.qai t with
         | true => exact ⟨_, _, .ok h h2 g e hr⟩
         | false => exact ⟨_, _, .great h h2 g e hr⟩
     | bad τ e =>
       rcases qdg g with rfl | rfl
       . obtain ⟨o, g2⟩ := qeC _ τ (Nat.le_refl _) (qlC g ho rfl)
         cases o with
         | ok υ => exact ⟨_, _, .limit h h2 g g2⟩
         | bad υ e => exact ⟨_, _, .both h h2 g g2⟩
       . exact ⟨_, _, .bad h h2 g (by decide)⟩
   . exact ⟨_, _, .deep h (by omega)⟩
theorem qlD {l : List Tok} {t : Go.Tm.T} {e : Nat} (h : Told l t e) : (e = 0 /\ YtjnfhebbphdchaaGreatDoor.qai t = true) ∨ (e = 1 /\ t = T0) ∨ (e = 2 /\ t = T0) := by
 cases h with
 | wrong => exact .inr (.inr ⟨rfl, rfl⟩)
 | deep => exact .inr (.inl ⟨rfl, rfl⟩)
 | ok _ _ _ _ hr => exact .inl ⟨rfl, hr⟩
 | great => exact .inr (.inl ⟨rfl, rfl⟩)
 | bad _ _ g => rcases qdg g with rfl | rfl; exact .inr (.inl ⟨rfl, rfl⟩); exact .inr (.inr ⟨rfl, rfl⟩)
 | limit => exact .inr (.inl ⟨rfl, rfl⟩)
 | both _ _ _ g => rcases qdg g with rfl | rfl; exact .inr (.inl ⟨rfl, rfl⟩); exact .inr (.inr ⟨rfl, rfl⟩)
theorem qiu {l : List Tok} {t u : Go.Tm.T} {e f : Nat} (h : Told l t e) (g : Told l u f) : t = u /\ e = f := by
 cases h with
 | wrong h => cases g with
   | wrong => exact ⟨rfl, rfl⟩
   | deep h' | ok h' | great h' | bad h' | limit h' | both h' => rw [h] at h'; cases h'
 | deep h h2 => cases g with
   | wrong h' => rw [h] at h'; cases h'
   | deep => exact ⟨rfl, rfl⟩
   | ok _ h' | great _ h' | bad _ h' | limit _ h' | both _ h' => omega
 | ok h h2 g1 e1 r1 => cases g with
   | wrong h' => rw [h] at h'; cases h'
   | deep _ h' => omega
   | ok _ _ g' e' r' => cases g1.one g'; rw [e1] at e'; cases e'; exact ⟨rfl, rfl⟩
   | great _ _ g' e' r' => cases g1.one g'; rw [e1] at e'; cases e'; rw [r1] at r'; cases r'
   | bad _ _ g' | limit _ _ g' | both _ _ g' => cases g1.one g'
 | great h h2 g1 e1 r1 => cases g with
   | wrong h' => rw [h] at h'; cases h'
   | deep _ h' => omega
   | ok _ _ g' e' r' => cases g1.one g'; rw [e1] at e'; cases e'; rw [r1] at r'; cases r'
   | great _ _ g' e' r' => exact ⟨rfl, rfl⟩
   | bad _ _ g' | limit _ _ g' | both _ _ g' => cases g1.one g'
 | bad h h2 g1 n1 => cases g with
   | wrong h' => rw [h] at h'; cases h'
   | deep _ h' => omega
   | ok _ _ g' | great _ _ g' => cases g1.one g'
   | bad _ _ g' => cases g1.one g'; exact ⟨rfl, rfl⟩
   | limit _ _ g' | both _ _ g' => cases g1.one g'; exact absurd rfl n1
 | limit h h2 g1 k1 => cases g with
   | wrong h' => rw [h] at h'; cases h'
   | deep _ h' => omega
   | ok _ _ g' | great _ _ g' => cases g1.one g'
   | bad _ _ g' n' => cases g1.one g'; exact absurd rfl n'
   | limit _ _ g' k' => exact ⟨rfl, rfl⟩
   | both _ _ g' k' => cases g1.one g'; cases k1.one k'
 | both h h2 g1 k1 => cases g with
   | wrong h' => rw [h] at h'; cases h'
   | deep _ h' => omega
   | ok _ _ g' | great _ _ g' => cases g1.one g'
   | bad _ _ g' n' => cases g1.one g'; exact absurd rfl n'
   | limit _ _ g' k' => cases g1.one g'; cases k1.one k'
   | both _ _ g' k' => cases g1.one g'; cases k1.one k'; exact ⟨rfl, rfl⟩
theorem qeF : ∀ (a b : List Go.Tm.T), sizes (a ++ b) = sizes a + sizes b
 | [], b => by rw [List.nil_append, sizes]; omega
 | x :: a, b => by rw [List.cons_append, sizes, sizes, qeF a b]; omega
theorem qdX {σ τ : PS} {k num : Int} {nm : ByteArray} {n : Nat} (h : keepP σ k nm num n = .ok τ) (hm : σ.made <= 10000) (hs : sizes σ.terms <= σ.made) : sizes τ.terms <= τ.made := by
 unfold keepP at h
 split at h
 . omega
 . split at h
   . cases h
   . cases h
     show sizes (_ ++ [_]) <= σ.made + 1
     have h1 : sizes (σ.terms.take (σ.terms.length - n) ++ σ.terms.drop (σ.terms.length - n)) = sizes σ.terms := by rw [List.take_append_drop]
     rw [qeF] at h1 ⊢
     rw [sizes, sizes, T.size]
     omega
theorem qmI {σ τ : PS} {s : Stp} (h : stepP σ s = .ok τ) (hm : σ.made <= 10000) (hs : sizes σ.terms <= σ.made) : sizes τ.terms <= τ.made := by
 cases s with
 | seq => cases h; exact hs
 | more => unfold stepP thenP at h; simp only at h; split at h <;> (cases h; exact hs)
 | single => unfold stepP qbz thenP at h; simp only at h; repeat' split at h
             all_goals (cases h; exact hs)
 | oper => unfold stepP thenP at h; simp only at h; repeat' split at h
           all_goals (cases h; exact hs)
 | appl => cases h; exact hs
 | args => unfold stepP thenP at h; simp only at h; split at h <;> (cases h; exact hs)
 | simple =>
   rw [qbB] at h
   unfold qbA thenP at h
   simp only at h
   split at h
   . exact qdX h hm hs
   . split at h
     . exact qdX h hm hs
     . split at h
       . cases h; exact hs
       . split at h
         . cases h; exact hs
         . cases h
 | name => unfold stepP at h; simp only at h; split at h <;> cases h; exact hs
 | operator => unfold stepP at h; simp only at h; split at h <;> cases h; exact hs
 | fin => unfold stepP at h; simp only at h; split at h <;> cases h; exact hs
 | word s => unfold stepP wordP at h; simp only at h; split at h <;> cases h; exact hs
 | made k n =>
   unfold stepP at h
   simp only at h
   split at h
   . exact qdX h hm hs
   . exact qdX h hm hs
theorem Ends.sizes {σ τ : PS} (h : Ends σ (.ok τ)) (hm : σ.made <= 10000) (hs : Go.Tm.sizes σ.terms <= σ.made) : Go.Tm.sizes τ.terms <= 10000 := by
 generalize ho : Out.ok τ = o at h
 induction h with
 | done σ h => cases ho; omega
 | step hp h _ ih => exact ih (qgG h hm) (qmI h hm hs) ho
 | stop hp h => cases ho
theorem qmJ {l : List Tok} {τ : PS} {t : Go.Tm.T} {r : List Go.Tm.T} (h : Ends (σ0 l) (.ok τ)) (e : τ.terms = t :: r) : t.size <= 10000 := by
 have h1 := h.sizes (by unfold σ0; exact Nat.zero_le _) (by unfold σ0; exact Nat.le_refl _)
 rw [e, Go.Tm.sizes] at h1
 omega
theorem ok_0 (l : List Tok) : okP (σ0 l).plan := by intro y hy; unfold σ0 at hy; simp only [List.mem_cons, List.not_mem_nil, or_false] at hy; rcases hy with rfl | rfl <;> trivial
theorem lim_0 (l : List Tok) : Lim (40 * l.length + 38) (σ0 l) := ⟨ok_0 l, by unfold σ0 phi; simp; omega⟩
theorem qod {σ τ : PS} {s : Stp} {e : Nat} (h : stepP σ s = .bad τ e) : τ.rest.length <= σ.rest.length := by
 cases s with
 | seq => cases h
 | more => unfold stepP thenP at h; simp only at h; split at h <;> cases h
 | single => unfold stepP qbz thenP at h; simp only at h; repeat' split at h
             all_goals cases h
 | oper => unfold stepP thenP at h; simp only at h; split at h; · cases h
           . split at h <;> cases h
 | appl => cases h
 | args => unfold stepP thenP at h; simp only at h; split at h <;> cases h
 | simple =>
   rw [qbB] at h
   unfold qbA thenP at h
   simp only at h
   split at h
   . obtain ⟨_, _, _, _, d⟩ := qcG h; rw [d]; simp
   . split at h
     . obtain ⟨_, _, _, _, d⟩ := qcG h; rw [d]; simp
     . split at h
       . cases h
       . split at h
         . cases h
         . cases h; exact Nat.le_refl _
 | name => unfold stepP at h; simp only at h; split at h <;> cases h; exact Nat.le_refl _
 | operator => unfold stepP at h; simp only at h; split at h <;> cases h; exact Nat.le_refl _
 | fin => unfold stepP at h; simp only at h; split at h <;> cases h; exact Nat.le_refl _
 | word s => unfold stepP wordP at h; simp only at h; split at h <;> cases h; exact Nat.le_refl _
 | made k n =>
   unfold stepP at h
   simp only at h
   split at h
   . obtain ⟨_, _, _, _, d⟩ := qcG h; rw [d]; exact Nat.le_refl _
   . obtain ⟨_, _, _, _, d⟩ := qcG h; rw [d]; exact Nat.le_refl _
theorem qkD {σ τ : PS} {s : Stp} {e : Nat} {p : List Stp} (h : stepP { σ with plan := p } s = .bad τ e) : τ.names.length <= σ.names.length + 1 := by
 have h1 := qhI { σ with plan := p } s
 rw [h] at h1
 exact h1
theorem Ends.lim {σ τ : PS} {N : Nat} (h : Ends σ (.bad τ 1)) (hl : Lim N σ) : Lim (N + 41) τ := by
 generalize ho : Out.bad τ 1 = o at h
 induction h with
 | done => cases ho
 | step hp h _ ih => exact ih (hl.step hp h) ho
 | stop hp h =>
   cases ho
   have h5 := qod h
   rcases qgf h with h1 | ⟨_, _, h2, _⟩
   . cases h1
   . have ho := hl.ok
     have h7 := hl.le
     rw [hp] at ho
     simp only at h2 h5
     refine ⟨by rw [h2]; exact fun y hy => ho y (by simp [hy]), ?_⟩
     have h8 := qkD h
     unfold phi at h7 ⊢
     rw [hp, List.length_cons] at h7
     rw [h2]
     omega
def SeqL (l : List Tok) (t : Go.Tm.T) : Prop := ∀ (R : List Tok) (P : List Stp) (ns : List ByteArray) (ts : List Go.Tm.T) (m : Nat), endB R = true -> m + t.size <= 10000 -> Goes ⟨l ++ R, .seq :: P, ns, ts, m⟩ ⟨R, P, ns, ts ++ [t], m + t.size⟩
theorem qoe {t : Go.Tm.T} (h : Rt t) : SeqL (toksT t) t := qsE h
theorem qsG {n : List ByteArray} {t : List Go.Tm.T} {m : Nat} : Ends ⟨[], [.fin], n, t, m⟩ (.ok ⟨[], [], n, t, m⟩) := .step rfl rfl (.done _ rfl)
theorem qrN {l : List Tok} {t : Go.Tm.T} (h : SeqL l t) (hr : Go.Lx.qao l = true) (hn : nestI l 0 0 <= 200) (ht : YtjnfhebbphdchaaGreatDoor.qai t = true) (hz : t.size <= 10000) : Told l t 0 := by
 have g := h [] [.fin] [] [] 0 rfl (by omega)
 rw [List.append_nil] at g
 exact .ok hr hn (g.ends qsG) rfl ht
def len2 : List Tok -> Int
 | [] => 0
 | x :: l => ((x.text.length : Int) + 1) + len2 l
theorem qbi : len2 [] = 0 := rfl
theorem qaq (x : Tok) (l : List Tok) : len2 (x :: l) = ((x.text.length : Int) + 1) + len2 l := rfl
theorem qaH : ∀ (a b : List Tok), len2 (a ++ b) = len2 a + len2 b
 | [], b => by rw [List.nil_append, qbi]; omega
 | x :: a, b => by rw [List.cons_append, qaq, qaq, qaH a b]; omega
theorem qfr : ∀ (l : List Tok), 0 <= len2 l
 | [] => Int.le_refl _
 | x :: l => by rw [qaq]; have := qfr l; omega
def costT (t : Go.Tm.T) : Int := len2 (toksT t) + 4
theorem qaR (t : Go.Tm.T) : len2 (kidT t) <= costT t := by
 unfold costT
 cases h : leafK t.kind with
 | true => rw [qdV h]; omega
 | false =>
   rw [qev h, qaq, qaH, qaq, qbi]
   have h1 : (mTok [40]).text.length = 1 := rfl
   have h2 : (mTok [41]).text.length = 1 := rfl
   omega
def costs : List Go.Tm.T -> Int
 | [] => 0
 | t :: l => costT t + costs l
theorem qgI : ∀ (a b : List Go.Tm.T), costs (a ++ b) = costs a + costs b
 | [], b => by rw [List.nil_append, costs]; omega
 | x :: a, b => by rw [List.cons_append, costs, costs, qgI a b]; omega
def nlen (s : ByteArray) : Int := (s.data.toList.length : Int) + 1
def nlens : List ByteArray -> Int
 | [] => 0
 | s :: l => nlen s + nlens l
theorem qeG : ∀ (a b : List ByteArray), nlens (a ++ b) = nlens a + nlens b
 | [], b => by rw [List.nil_append, nlens]; omega
 | x :: a, b => by rw [List.cons_append, nlens, nlens, qeG a b]; omega
theorem qlE : ∀ (l : List ByteArray), 0 <= nlens l
 | [] => Int.le_refl _
 | x :: l => by rw [nlens]; have := qlE l; unfold nlen; omega
def wk (k : Int) : Int :=
 if k = 3 then 7 else if k = 5 then 9 else if k = 6 then 13 else if k = 7 then 9 else if k = 8 then 6 else if k = 9 then 12 else if k = 10 then 2 else if k = 11 then 3 else if k = 13 then 2 else 0
def mks : List (Int × Nat) := [(3, 1), (4, 2), (5, 2), (6, 3), (7, 2), (8, 1), (9, 2), (10, 1), (11, 2), (12, 2), (13, 2)]
def okM : Stp -> Bool
 | .made k n => mks.contains (k, n)
 | .word s => !s.isEmpty
 | _ => true
theorem len_1 {b : List Go.Tm.T} (h : b.length = 1) : ∃ x, b = [x] := List.length_eq_one_iff.1 h
theorem len_2 {b : List Go.Tm.T} (h : b.length = 2) : ∃ x y, b = [x, y] := by
 match b, h with
 | [x, y], _ => exact ⟨x, y, rfl⟩
theorem len_3 {b : List Go.Tm.T} (h : b.length = 3) : ∃ x y z, b = [x, y, z] := by
 match b, h with
 | [x, y, z], _ => exact ⟨x, y, z, rfl⟩
theorem qbo {k : Int} {n : Nat} {s : ByteArray} {b : List Go.Tm.T} (h : (k, n) ∈ mks) (hb : b.length = n) : costT (.node k s 0 b) <= wk k + (if named k = true then nlen s else 0) + costs b + 4 := by
 unfold mks at h
 simp only [List.mem_cons, Prod.mk.injEq, List.not_mem_nil, or_false] at h
 have hn : len2 [nTok s.data.toList] = nlen s := by rw [qaq, qbi]; unfold nlen nTok; simp only; omega
 have hm : len2 [mTok s.data.toList] = nlen s := by rw [qaq, qbi]; unfold nlen mTok; simp only; omega
 rw [qaq, qbi] at hn hm
 have q : ∀ w : List UInt8, (kTok w).text.length = w.length /\ (mTok w).text.length = w.length := fun _ => ⟨rfl, rfl⟩
 rcases h with ⟨rfl, rfl⟩ | ⟨rfl, rfl⟩ | ⟨rfl, rfl⟩ | ⟨rfl, rfl⟩ | ⟨rfl, rfl⟩ | ⟨rfl, rfl⟩ | ⟨rfl, rfl⟩ | ⟨rfl, rfl⟩ | ⟨rfl, rfl⟩ | ⟨rfl, rfl⟩ | ⟨rfl, rfl⟩
 . obtain ⟨x, rfl⟩ := len_1 hb
   have := qaR x
   unfold costT
   rw [qfL]
   simp only [qaq, (q _).1, (q _).2, List.length_cons, List.length_nil, costs, wk, named]
   simp
   omega
 . obtain ⟨x, y, rfl⟩ := len_2 hb
   have := qaR x
   have := qaR y
   unfold costT
   rw [qfM]
   simp only [qaH, costs, wk, named]
   simp
   omega
 . obtain ⟨x, y, rfl⟩ := len_2 hb
   have := qaR x
   have := qaR y
   unfold costT
   rw [qfN]
   simp only [qaq, qaH, (q _).1, (q _).2, List.length_cons, List.length_nil, costs, wk, named]
   simp
   omega
 . obtain ⟨x, y, z, rfl⟩ := len_3 hb
   have := qaR x
   have := qaR y
   have := qaR z
   unfold costT
   rw [qfO]
   simp only [qaq, qaH, (q _).1, List.length_cons, List.length_nil, costs, wk, named]
   simp
   omega
 . obtain ⟨x, y, rfl⟩ := len_2 hb
   have := qaR x
   have := qaR y
   unfold costT
   rw [qfP]
   simp only [qaq, qaH, (q _).1, List.length_cons, List.length_nil, costs, wk, named]
   simp
   omega
 . obtain ⟨x, rfl⟩ := len_1 hb
   have := qaR x
   unfold costT
   rw [qfQ]
   simp only [qaq, (q _).1, List.length_cons, List.length_nil, costs, wk, named]
   simp
   omega
 . obtain ⟨x, y, rfl⟩ := len_2 hb
   have := qaR x
   have := qaR y
   unfold costT
   rw [qfR]
   simp only [qaq, qaH, (q _).1, (q _).2, List.length_cons, List.length_nil, costs, wk, named]
   simp
   omega
 . obtain ⟨x, rfl⟩ := len_1 hb
   have := qaR x
   unfold costT
   rw [qdA]
   simp only [qaq, (q _).2, List.length_cons, List.length_nil, costs, wk, named]
   simp
   omega
 . obtain ⟨x, y, rfl⟩ := len_2 hb
   have := qaR x
   have := qaR y
   unfold costT
   rw [qdB]
   simp only [qaq, qaH, (q _).2, List.length_cons, List.length_nil, costs, wk, named]
   simp
   omega
 . obtain ⟨x, y, rfl⟩ := len_2 hb
   have := qaR x
   have := qaR y
   unfold costT
   rw [qdC]
   have hs : (s.data.toList.length : Int) = s.size := by simp
   rw [(q _).2] at hm
   simp only [qaq, qaH, (q _).2, costs, wk, named]
   simp
   omega
 . obtain ⟨x, y, rfl⟩ := len_2 hb
   have := qaR x
   have := qaR y
   unfold costT
   rw [qdD]
   simp only [qaq, qaH, (q _).2, List.length_cons, List.length_nil, costs, wk, named]
   simp
   omega
def pend : Stp -> Int
 | .word s => -(5 * ((s.length : Int) + 1))
 | .simple => -4
 | .operator => -4
 | .made k _ => wk k + 4
 | _ => 0
def pends : List Stp -> Int
 | [] => 0
 | s :: p => pend s + pends p
theorem qdw : ∀ (a b : List Stp), pends (a ++ b) = pends a + pends b
 | [], b => by rw [List.nil_append, pends]; omega
 | x :: a, b => by rw [List.cons_append, pends, pends, qdw a b]; omega
def psi (σ : PS) : Int := costs σ.terms + nlens σ.names + pends σ.plan + 5 * len2 σ.rest
def okR (l : List Tok) : Prop := ∀ x ∈ l, x.text ≠ [] /\ (x.kind = 2 -> (Lib.itoa x.num).length <= x.text.length)
def okA (p : List Stp) : Prop := ∀ s ∈ p, okM s = true
theorem qcw {p : List Stp} (h : p.all okM = true) : okA p := List.all_eq_true.1 h
theorem qgJ : pend .simple = -4 := rfl
theorem qiv : pend .operator = -4 := rfl
theorem qof : pend .name = 0 := rfl
theorem qog (s : List UInt8) : pend (.word s) = -(5 * ((s.length : Int) + 1)) := rfl
theorem qji (k : Int) (n : Nat) : pend (.made k n) = wk k + 4 := rfl
theorem qoh (k : Int) (n : Nat) : effN (.made k n) = if named k = true then (1, 0) else (0, 0) := rfl
theorem qeH {l : List Tok} (h : okR l) : okR l.tail := fun x hx => h x (List.mem_of_mem_tail hx)
def Down (s : Stp) (σ τ : PS) : Prop := psi τ <= psi σ + pend s /\ okR τ.rest /\ okA τ.plan
theorem qaY {σ τ : PS} {s : Stp} {l : List Stp} (h : thenP σ l = .ok τ) (h1 : pends l <= pend s) (h2 : okA l) (hR : okR σ.rest) (hA : okA σ.plan) : Down s σ τ := by
 unfold thenP at h
 cases h
 refine ⟨?_, hR, fun y hy => ?_⟩
 . unfold psi; simp only; rw [qdw]; omega
 . rcases List.mem_append.1 hy with hy | hy
   . exact h2 y hy
   . exact hA y hy
theorem qeI {σ : PS} {s : Stp} (h : pend s = 0) (hR : okR σ.rest) (hA : okA σ.plan) : Down s σ σ := ⟨by omega, hR, hA⟩
theorem qeJ {σ' τ : PS} {k num : Int} {nm : ByteArray} {n : Nat} (h : keepP σ' k nm num n = .ok τ) (hm : σ'.made <= 10000) (hn : n <= σ'.terms.length) :
   ∃ b : List Go.Tm.T, b.length = n /\ τ.rest = σ'.rest /\ τ.plan = σ'.plan /\ τ.names = σ'.names /\ costs τ.terms = costs σ'.terms - costs b + costT (.node k nm num b) := by
 unfold keepP at h
 split at h
 . omega
 . split at h
   . cases h
   . cases h
     refine ⟨σ'.terms.drop (σ'.terms.length - n), by rw [List.length_drop]; omega, rfl, rfl, rfl, ?_⟩
     simp only
     have e : costs σ'.terms = costs (σ'.terms.take (σ'.terms.length - n)) + costs (σ'.terms.drop (σ'.terms.length - n)) := by rw [<- qgI, List.take_append_drop]
     rw [qgI, e, costs, costs]
     omega
theorem qkE {σ τ : PS} (h : qbz σ = .ok τ) (hR : okR σ.rest) (hA : okA σ.plan) : Down .single σ τ := by
 unfold qbz at h
 simp only at h
 split at h
 . exact qaY h (by decide +kernel) (qcw (by decide)) hR hA
 . split at h
   . exact qaY h (by decide +kernel) (qcw (by decide)) hR hA
   . split at h
     . exact qaY h (by decide +kernel) (qcw (by decide)) hR hA
     . split at h
       . exact qaY h (by decide +kernel) (qcw (by decide)) hR hA
       . split at h
         . exact qaY h (by decide +kernel) (qcw (by decide)) hR hA
         . split at h
           . exact qaY h (by decide +kernel) (qcw (by decide)) hR hA
           . exact qaY h (by decide +kernel) (qcw (by decide)) hR hA
theorem qrj {b : List Go.Tm.T} (h : b.length = 0) : b = [] := List.eq_nil_of_length_eq_zero h
theorem qkF {σ τ : PS} (h : qbA σ = .ok τ) (hm : σ.made <= 10000) (hR : okR σ.rest) (hA : okA σ.plan) : Down .simple σ τ := by
 unfold qbA at h
 simp only at h
 split at h
 . rename_i hk
   obtain ⟨x, r, e1, e2, e3⟩ := qbm (l := σ.rest) (.inl (by rw [hk]; decide))
   obtain ⟨b, hb, q1, q2, q3, q4⟩ := qeJ h hm (Nat.zero_le _)
   have hx := hR x (by rw [e1]; simp)
   rw [e2] at hk
   have hl := hx.2 hk
   have hp : 0 < x.text.length := List.length_pos_iff.2 hx.1
   rw [qrj hb] at q4
   simp only at q1 q2 q3 q4
   refine ⟨?_, by rw [q1]; exact qeH hR, by rw [q2]; exact hA⟩
   have e4 : costT (.node 1 ⟨#[]⟩ (qaf σ.rest).num []) = ((Lib.itoa x.num).length : Int) + 1 + 4 := by
     unfold costT
     rw [qdp, qaq, qbi, e2]
     unfold dTok
     simp only
     omega
   unfold psi
   rw [q1, q2, q3, q4, e4, e3, e1, qaq, costs, qgJ]
   omega
 . split at h
   . rename_i hk
     obtain ⟨x, r, e1, e2, e3⟩ := qbm (l := σ.rest) (.inl (by rw [hk]; decide))
     obtain ⟨b, hb, q1, q2, q3, q4⟩ := qeJ h hm (Nat.zero_le _)
     have hx := hR x (by rw [e1]; simp)
     have hp : 0 < x.text.length := List.length_pos_iff.2 hx.1
     rw [qrj hb] at q4
     simp only at q1 q2 q3 q4
     refine ⟨?_, by rw [q1]; exact qeH hR, by rw [q2]; exact hA⟩
     have e4 : costT (.node 2 (txB (qaf σ.rest).text) 0 []) = (x.text.length : Int) + 1 + 4 := by
       unfold costT
       rw [qed, qaq, qbi, e2]
       unfold nTok txB
       simp only
       omega
     unfold psi
     rw [q1, q2, q3, q4, e4, e3, e1, qaq, costs, qgJ]
     omega
   . split at h
     . exact qaY h (by decide +kernel) (qcw (by decide)) hR hA
     . split at h
       . exact qaY h (by decide +kernel) (qcw (by decide)) hR hA
       . cases h
theorem qmK (l : List ByteArray) (h : l ≠ []) : nlens l = nlens l.dropLast + nlen (l.getLastD ⟨#[]⟩) := by
 rcases List.eq_nil_or_concat l with e | ⟨a, b, rfl⟩
 . exact absurd e h
 . rw [List.concat_eq_append] at *
   rw [List.dropLast_concat, List.getLastD_concat, qeG, nlens, nlens]
   omega
theorem qoi {σ τ : PS} {k : Int} {n : Nat} (h : stepP σ (.made k n) = .ok τ) (hk9 : okM (.made k n) = true) (hm : σ.made <= 10000) (hN : (effN (.made k n)).1 <= σ.names.length) (hT : n <= σ.terms.length) (hR : okR σ.rest) (hA : okA σ.plan) : Down (.made k n) σ τ := by
 have hk : (k, n) ∈ mks := List.contains_iff_mem.1 hk9
 unfold stepP at h
 simp only at h
 split at h
 . rename_i hn
   obtain ⟨b, hb, q1, q2, q3, q4⟩ := qeJ h hm hT
   simp only at q1 q2 q3 q4
   refine ⟨?_, by rw [q1]; exact hR, by rw [q2]; exact hA⟩
   have h1 := qbo (s := σ.names.getLastD ⟨#[]⟩) hk hb
   rw [if_pos hn] at h1
   have h2 : σ.names ≠ [] := by
     intro e; rw [qoh, if_pos hn, e] at hN; simp at hN
   have h3 := qmK σ.names h2
   unfold psi
   rw [q1, q2, q3, q4, qji]
   omega
 . rename_i hn
   obtain ⟨b, hb, q1, q2, q3, q4⟩ := qeJ h hm hT
   refine ⟨?_, by rw [q1]; exact hR, by rw [q2]; exact hA⟩
   have h1 := qbo (s := ⟨#[]⟩) hk hb
   rw [if_neg hn] at h1
   unfold psi
   rw [q1, q2, q3, q4, qji]
   omega
theorem qoj {σ τ : PS} {s : Stp} (h : stepP σ s = .ok τ) (hs : okM s = true) (hm : σ.made <= 10000) (hN : (effN s).1 <= σ.names.length) (hT : (effT s).1 <= σ.terms.length) (hR : okR σ.rest) (hA : okA σ.plan) : Down s σ τ := by
 cases s with
 | seq => exact qaY h (by decide +kernel) (qcw (by decide)) hR hA
 | more =>
   unfold stepP at h
   simp only at h
   split at h
   . exact qaY h (by decide +kernel) (qcw (by decide)) hR hA
   . cases h; exact qeI rfl hR hA
 | single => exact qkE h hR hA
 | oper =>
   unfold stepP at h
   simp only at h
   split at h
   . exact qaY h (by decide +kernel) (qcw (by decide)) hR hA
   . split at h
     . exact qaY h (by decide +kernel) (qcw (by decide)) hR hA
     . cases h; exact qeI rfl hR hA
 | appl => exact qaY h (by decide +kernel) (qcw (by decide)) hR hA
 | args =>
   unfold stepP at h
   simp only at h
   split at h
   . exact qaY h (by decide +kernel) (qcw (by decide)) hR hA
   . cases h; exact qeI rfl hR hA
 | simple => exact qkF h hm hR hA
 | name =>
   unfold stepP at h
   simp only at h
   split at h
   . rename_i hk
     obtain ⟨x, r, e1, e2, e3⟩ := qbm (l := σ.rest) (.inl (by rw [hk]; decide))
     cases h
     refine ⟨?_, qeH hR, hA⟩
     unfold psi
     simp only
     rw [qeG, nlens, nlens, e2, e3, e1, qaq]
     have : nlen (txB x.text) = (x.text.length : Int) + 1 := rfl
     rw [qof]
     omega
   . cases h
 | operator =>
   unfold stepP at h
   simp only at h
   split at h
   . rename_i hk
     obtain ⟨x, r, e1, e2, e3⟩ := qbm (l := σ.rest) (.inl (by rw [hk]; decide))
     cases h
     refine ⟨?_, qeH hR, hA⟩
     unfold psi
     simp only
     rw [qeG, nlens, nlens, e2, e3, e1, qaq]
     have : nlen (txB x.text) = (x.text.length : Int) + 1 := rfl
     rw [qiv]
     omega
   . cases h
 | fin =>
   unfold stepP at h
   simp only at h
   split at h
   . cases h; exact qeI rfl hR hA
   . cases h
 | word s =>
   unfold stepP wordP at h
   simp only at h
   split at h
   . rename_i he
     cases h
     have hz : s ≠ [] := by intro e; rw [e] at hs; cases hs
     obtain ⟨x, r, e1, e2, e3⟩ := qbm (l := σ.rest) (.inr (by rw [he]; exact hz))
     refine ⟨?_, qeH hR, hA⟩
     rw [e2] at he
     unfold psi
     simp only
     rw [e3, e1, qaq, he, qog]
     omega
   . cases h
 | made k n => exact qoi h hs hm hN hT hR hA
theorem Ends.short {σ τ : PS} (h : Ends σ (.ok τ)) (hf : Fits σ) (hm : σ.made <= 10000) (hR : okR σ.rest) (hA : okA σ.plan) : costs τ.terms <= psi σ := by
 generalize ho : Out.ok τ = o at h
 induction h with
 | done σ h =>
   cases ho
   have := qlE τ.names
   have := qfr τ.rest
   unfold psi
   rw [h, pends]
   omega
 | step hp h _ ih =>
   rename_i σ0 υ o s p _
   obtain ⟨h1, h2, h3⟩ := qoj h (hA s (by rw [hp]; simp)) hm (hf.name hp) (hf.term hp hm) hR (fun y hy => hA y (by rw [hp]; simp [hy]))
   have := ih ((qdF h).fits hp hf) (qgG h hm) h2 h3 ho
   have e : psi { σ0 with plan := p } + pend s = psi σ0 := by
     unfold psi
     simp only
     rw [hp, pends]
     omega
   omega
 | stop hp h => cases ho
def ends (c : UInt8) : Prop := qaA c = false /\ qat c = false /\ c ≠ 61 /\ c ≠ 62
theorem qpY (x : UInt8) (r : List UInt8) (c : UInt8) (b : List UInt8) (hc : ends c) (hx : x ≠ 35) : qak (x :: r ++ c :: b) = qak (x :: r) := by
 obtain ⟨ha, hd, h61, h62⟩ := hc
 have e1 : x :: (r ++ c :: b) = (x :: r) ++ c :: b := rfl
 have p1 : ∀ u v : UInt8, c ≠ v -> hasP (x :: (r ++ c :: b)) [u, v] = hasP (x :: r) [u, v] := fun u v hv => by
   cases r with
   | nil =>
     have : (v == c) = false := by simpa using fun h => hv h.symm
     simp [hasP, Lib.hasPrefix, List.isPrefixOf, this]
   | cons y r => simp [hasP, Lib.hasPrefix, List.isPrefixOf]
 show qak (x :: (r ++ c :: b)) = _
 rw [qaD, qaD, if_neg hx, if_neg hx, p1 _ _ h61, p1 _ _ h62, e1, qdP ha, qdP hd]
theorem qkG {t : Tok} (h : Go.Lx.qai t = true) (c : UInt8) (hc : ends c) (b : List UInt8) : lexL (t.text ++ c :: b) = (lexL (c :: b)).map (t :: ·) := by
 obtain ⟨h1, h2, h3⟩ := qaW h
 cases hx : t.text with
 | nil => exact absurd hx h1
 | cons x r =>
   rw [hx] at h1 h2 h3
   have hk : (qak (x :: r)).1 ≠ 0 := fun e => by rw [e, qgq] at h3; cases h3
   have hx35 : x ≠ 35 := by
     rintro rfl
     apply hk
     rw [qaD, if_pos rfl]
   have hb := qpY x r c b hc hx35
   rw [qcT (by simp), hb, if_neg hk, h2]
   have e1 : (x :: r ++ c :: b).take (x :: r).length = x :: r := List.take_left
   have e2 : (x :: r ++ c :: b).drop (x :: r).length = c :: b := List.drop_left
   rw [e1, e2, h3]
theorem qgK (c : UInt8) (hc : ends c) (b : List UInt8) : ∀ (l : List Tok), l ≠ [] -> Go.Lx.qao l = true -> lexL (qaS l ++ c :: b) = (lexL (c :: b)).map (l ++ ·)
 | [], h, _ => absurd rfl h
 | [t], _, h => by
   have : Go.Lx.qai t = true := by unfold Go.Lx.qao at h; simpa using h
   unfold qaS
   rw [List.map_cons, List.map_nil, Lib.join_one, qkG this c hc]
   rfl
 | t :: u :: l, _, h => by
   have h1 : Go.Lx.qai t = true /\ Go.Lx.qao (u :: l) = true := by unfold Go.Lx.qao at h ⊢; simpa using h
   have e : qaS (t :: u :: l) = t.text ++ 32 :: qaS (u :: l) := by
     unfold qaS
     rw [List.map_cons, Lib.join_cons, List.map_cons, Lib.join_cons]
     simp [Lib.joinTail]
   rw [e, List.append_assoc, List.cons_append, qpJ h1.1 32 (by simp), qfc 32 (by simp), qgK c hc b (u :: l) (by simp) h1.2]
   cases lexL (c :: b) <;> simp
theorem qlF : ∀ (n : Nat) (s : List UInt8), s.length <= n -> ∀ l, lexL s = some l -> len2 l <= 2 * (s.length : Int)
 | _, [], _, l, h => by rw [qii] at h; cases h; exact Int.le_refl _
 | 0, _ :: _, hn, _, _ => by simp at hn
 | n + 1, c :: r, hn, l, h => by
   have hp := qbM (s := c :: r) (by simp)
   have hd : ((c :: r).drop (qak (c :: r)).2).length <= n := by rw [List.length_drop]; omega
   have ih := qlF n _ hd
   rw [List.length_drop] at ih
   rw [qcT (by simp)] at h
   split at h
   . have := ih l h
     omega
   . split at h
     . cases h
     . rename_i t ht
       cases hl : lexL ((c :: r).drop (qak (c :: r)).2) with
       | none => rw [hl] at h; cases h
       | some l' =>
         rw [hl] at h
         cases h
         have h1 := ih l' hl
         have h2 : t.text.length = (qak (c :: r)).2 := by rw [qgp ht, List.length_take]; omega
         rw [qaq, h2]
         omega
theorem qhJ : ∀ (l : List Tok), l ≠ [] -> ((qaS l).length : Int) + 1 = len2 l
 | [], h => absurd rfl h
 | [t], _ => by unfold qaS; rw [List.map_cons, List.map_nil, Lib.join_one, qaq, qbi]; omega
 | t :: u :: l, _ => by
   have e : qaS (t :: u :: l) = t.text ++ 32 :: qaS (u :: l) := by
     unfold qaS
     rw [List.map_cons, Lib.join_cons, List.map_cons, Lib.join_cons]
     simp [Lib.joinTail]
   have ih := qhJ (u :: l) (by simp)
   rw [qaq, e, List.length_append, List.length_cons, <- ih]
   push_cast
   omega
theorem qbj {t : Go.Tm.T} (h : YtjnfhebbphdchaaGreatDoor.qai t = true) : Rt t /\ t.size <= 10000 /\ t.depth <= 200 := by
 rw [qgx, Bool.and_eq_true, Bool.and_eq_true, decide_eq_true_eq, decide_eq_true_eq] at h
 exact ⟨rt_of t.size t (Nat.le_refl _) h.2.2, h.1, h.2.1⟩
theorem qgg {t : Go.Tm.T} (h : Rt t) (hs : t.size <= 10000) (hd : t.depth <= 200) : YtjnfhebbphdchaaGreatDoor.qai t = true := by
 rw [qgx, Bool.and_eq_true, Bool.and_eq_true, decide_eq_true_eq, decide_eq_true_eq]
 exact ⟨hs, hd, qpT h⟩
theorem qjj {a b : List Tok} (h : Go.Lx.qao a = true) (g : Go.Lx.qao b = true) : Go.Lx.qao (a ++ b) = true := by
 unfold Go.Lx.qao at *
 rw [List.all_append, h, g]; rfl
theorem qeK {t : Go.Tm.T} (h : YtjnfhebbphdchaaGreatDoor.qai t = true) : Told (toksT t) t 0 := by
 obtain ⟨h1, h2, h3⟩ := qbj h
 exact qrN (qoe h1) (qdU h1) (qrM (qkC (qrL h1) (by omega)) (by omega)) h h2
end Go.Proofs.YtjnfhebbphdchaaGreatDoor.Pa
namespace Go.Proofs.YtjnfhebbphdchaaGreatDoor.Pa
open Go.Tm Go.Lx Go.RowKit
def runP : Nat -> PS -> Option Out
 | 0, _ => none
 | f + 1, σ => match σ.plan with
   | [] => some (.ok σ)
   | s :: p => match stepP { σ with plan := p } s with
     | .ok τ => runP f τ
     | .bad τ e => some (.bad τ e)
theorem qgL : ∀ (f : Nat) {σ : PS} {o : Out}, runP f σ = some o -> Ends σ o
 | 0, _, _, h => by cases h
 | f + 1, σ, o, h => by
   unfold runP at h
   split at h
   . rename_i hp
     cases h
     exact .done σ hp
   . rename_i s p hp
     split at h
     . rename_i τ hs
       exact .step hp hs (qgL f h)
     . rename_i τ e hs
       cases h
       exact .stop hp hs
def vT (c : UInt8) : Go.Tm.T := .node 2 ⟨#[c]⟩ 0 []
def dT (n : Int) : Go.Tm.T := .node 1 ⟨#[]⟩ n []
theorem qlG {l : List Tok} {t : Go.Tm.T} (f : Nat) {m : Nat} (h : runP f (σ0 l) = some (.ok ⟨[], [], [], [t], m⟩)) (hr : Go.Lx.qao l = true) (hn : nestI l 0 0 <= 200) (ht : YtjnfhebbphdchaaGreatDoor.qai t = true) : Told l t 0 := .ok hr hn (qgL f h) rfl ht
theorem qok {l : List Tok} {τ : PS} (f : Nat) (h : runP f (σ0 l) = some (.bad τ 2)) (hr : Go.Lx.qao l = true) (hn : nestI l 0 0 <= 200) : Told l T0 2 := .bad hr hn (qgL f h) (by decide)
theorem ex4 : Told [] T0 2 := qok 100 (by rfl) (by decide +kernel) (by decide +kernel)
end Go.Proofs.YtjnfhebbphdchaaGreatDoor.Pa
namespace Go.Proofs.YtjnfhebbphdchaaGreatDoor.Pa
open Go.Tm Go.Lx
end Go.Proofs.YtjnfhebbphdchaaGreatDoor.Pa
