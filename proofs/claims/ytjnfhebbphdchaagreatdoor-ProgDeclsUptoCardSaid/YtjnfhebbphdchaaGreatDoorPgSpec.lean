/-
  No point stands in what is read as a term. Condition: right tokens.
  Tokens cut at each point:
  Programs, their tokens, and what is told of these;
  Programs' texts:
  What is read as a program is right, and its text at most ten times as long as what was read.
  What is told of programs and of their texts, as functions;
-/
import Derived.Test.YtjnfhebbphdchaaGreatDoorPaMath
import Derived.Test.YtjnfhebbphdchaaGreatDoorLxMath
import Derived.Test.YtjnfhebbphdchaaGreatDoorPaPr
namespace Go.Proofs.YtjnfhebbphdchaaGreatDoor.Pa
open Go.Tm Go.Lx
theorem qlY {x : Tok} (h : Go.Lx.qai x = true) (hk : x.kind = 1 ∨ x.kind = 2) : x.text ≠ [46] := fun e => by
 rw [<- qiW] at h
 unfold qfX at h
 rcases hk with hk | hk
 . rw [if_pos hk, e] at h
   rw [show nameL [46] = false by decide] at h
   simp at h
 . rw [if_neg (by rw [hk]; decide), if_pos hk, e] at h
   rw [show qfJ [46] = none by decide +kernel] at h
   cases h
structure J (σ : PS) : Prop where
 words : ∀ w, Stp.word w ∈ σ.plan -> w ≠ [46]
 ops : ∀ p, σ.plan = .operator :: p -> opS (qaf σ.rest).text = true
 tail : ∀ s p, σ.plan = s :: p -> Stp.operator ∉ p
def Ate (σ τ : PS) : Prop := τ.rest = σ.rest ∨ ∃ x, σ.rest = x :: τ.rest /\ x.text ≠ [46]
theorem qtc {r : List Tok} {p l : List Stp} {n : List ByteArray} {t : List Go.Tm.T} {m : Nat} (hw : ∀ w, Stp.word w ∈ p -> w ≠ [46]) (hp : Stp.operator ∉ p) (hl : ∀ w, Stp.word w ∈ l -> w ≠ [46]) (ho : ∀ q, l ++ p = .operator :: q -> opS (qaf r).text = true) (ht : Stp.operator ∉ l.tail) (h0 : l ≠ []) : J ⟨r, l ++ p, n, t, m⟩ := by
 refine ⟨fun w h => ?_, ho, fun s q h => ?_⟩
 . rcases List.mem_append.1 h with h | h
   . exact hl w h
   . exact hw w h
 . cases l with
   | nil => exact absurd rfl h0
   | cons y l =>
     rw [List.cons_append] at h
     injection h with h1 h2
     rw [<- h2]
     intro hm
     rcases List.mem_append.1 hm with hm | hm
     . exact ht hm
     . exact hp hm
theorem qhd {r : List Tok} {p : List Stp} {n : List ByteArray} {t : List Go.Tm.T} {m : Nat} (hw : ∀ w, Stp.word w ∈ p -> w ≠ [46]) (hp : Stp.operator ∉ p) : J ⟨r, p, n, t, m⟩ :=
 ⟨hw, fun q h => absurd (show Stp.operator ∈ p by show _ ∈ p; rw [show p = _ from h]; simp) hp, fun s q h => fun hm => hp (by rw [show p = _ from h]; simp [hm])⟩
theorem qeO {l : List Tok} (h : (qaf l).kind ≠ 0 ∨ (qaf l).text ≠ []) (hd : (qaf l).text ≠ [46]) : ∃ x, l = x :: l.tail /\ x.text ≠ [46] := by
 obtain ⟨x, r, h1, h2, h3⟩ := qbm h
 exact ⟨x, by rw [h3]; exact h1, h2 ▸ hd⟩
theorem qdK {l : List Tok} (h : Go.Lx.qao l = true) (hk : (qaf l).kind ≠ 0) : Go.Lx.qai (qaf l) = true := by
 cases l with
 | nil => exact absurd rfl hk
 | cons x r =>
   unfold Go.Lx.qao at h
   rw [List.all_cons, Bool.and_eq_true] at h
   exact h.1
theorem qoX {σ τ : PS} {k num : Int} {nm : ByteArray} {n : Nat} (h : keepP σ k nm num n = .ok τ) : τ.rest = σ.rest /\ τ.plan = σ.plan := qlz h
theorem qtd {σ τ : PS} {s : Stp} {p : List Stp} (hJ : J σ) (hp : σ.plan = s :: p) (hr : Go.Lx.qao σ.rest = true) (h : stepP { σ with plan := p } s = .ok τ) : J τ /\ Ate σ τ := by
 have hw : ∀ w, Stp.word w ∈ p -> w ≠ [46] := fun w hm => hJ.words w (by rw [hp]; simp [hm])
 have ht := hJ.tail s p hp
 have T : ∀ l : List Stp, thenP { σ with plan := p } l = .ok τ -> (∀ w, Stp.word w ∈ l -> w ≠ [46]) -> (∀ q, l ++ p = .operator :: q -> opS (qaf σ.rest).text = true) -> Stp.operator ∉ l.tail -> l ≠ [] -> J τ /\ Ate σ τ := fun l h h1 h2 h3 h4 => by
   cases h
   exact ⟨qtc hw ht h1 h2 h3 h4, .inl rfl⟩
 have S : τ = { σ with plan := p } -> J τ /\ Ate σ τ := fun e => by
   subst e
   exact ⟨qhd hw ht, .inl rfl⟩
 have K : ∀ {σ' : PS} {k num : Int} {nm : ByteArray} {n : Nat}, keepP σ' k nm num n = .ok τ -> σ'.plan = p -> (σ'.rest = σ.rest ∨ ∃ x, σ.rest = x :: σ'.rest /\ x.text ≠ [46]) -> J τ /\ Ate σ τ := fun {σ' k num nm n} h h1 h2 => by
   obtain ⟨e1, e2⟩ := qoX h
   obtain ⟨r, q, n9, t9, m9⟩ := τ
   dsimp only at e1 e2
   rw [h1] at e2
   subst e2
   refine ⟨qhd hw ht, ?_⟩
   unfold Ate
   rw [show (PS.mk r q n9 t9 m9).rest = σ'.rest from e1]
   exact h2
 cases s with
 | seq => exact T _ h (by simp) (by simp) (by simp) (by simp)
 | more =>
   rw [stepP] at h
   split at h
   . exact T _ h (by simp) (by simp) (by simp) (by simp)
   . exact S (by cases h; rfl)
 | single =>
   rw [stepP] at h
   unfold qbz at h
   dsimp only at h
   repeat' split at h
   all_goals exact T _ h (by simp) (by simp) (by simp) (by simp)
 | oper =>
   rw [stepP] at h
   split at h
   . exact T _ h (by simp) (by simp) (by simp) (by simp)
   . split at h
     . rename_i ho
       exact T _ h (by simp) (fun _ _ => ho) (by simp) (by simp)
     . exact S (by cases h; rfl)
 | appl => exact T _ h (by simp) (by simp) (by simp) (by simp)
 | args =>
   rw [stepP] at h
   split at h
   . exact T _ h (by simp) (by simp) (by simp) (by simp)
   . exact S (by cases h; rfl)
 | simple =>
   rw [stepP] at h
   unfold qbA at h
   dsimp only at h
   split at h
   . rename_i hk
     have h0 : (qaf σ.rest).kind ≠ 0 := by rw [show (qaf σ.rest).kind = 2 from hk]; decide
     exact K h rfl (.inr (qeO (.inl h0) (qlY (qdK hr h0) (.inr hk))))
   . split at h
     . rename_i hk
       have h0 : (qaf σ.rest).kind ≠ 0 := by rw [show (qaf σ.rest).kind = 1 from hk]; decide
       exact K h rfl (.inr (qeO (.inl h0) (qlY (qdK hr h0) (.inl hk))))
     . split at h
       . exact T _ h (by simp) (by simp) (by simp) (by simp)
       . split at h
         . exact T _ h (by simp) (by simp) (by simp) (by simp)
         . cases h
 | name =>
   rw [stepP] at h
   split at h
   . rename_i hk
     have h0 : (qaf σ.rest).kind ≠ 0 := by rw [show (qaf σ.rest).kind = 1 from hk]; decide
     cases h
     exact ⟨qhd hw ht, .inr (qeO (.inl h0) (qlY (qdK hr h0) (.inl hk)))⟩
   . cases h
 | operator =>
   have ho := hJ.ops p hp
   rw [stepP] at h
   split at h
   . rename_i hk
     have h0 : (qaf σ.rest).kind ≠ 0 := by rw [show (qaf σ.rest).kind = 4 from hk]; decide
     cases h
     refine ⟨qhd hw ht, .inr (qeO (.inl h0) fun e => ?_)⟩
     rw [e] at ho
     exact absurd ho (by decide)
   . cases h
 | fin =>
   rw [stepP] at h
   split at h
   . exact S (by cases h; rfl)
   . cases h
 | word w =>
   have h9 := hJ.words w (by rw [hp]; simp)
   rw [stepP] at h
   unfold wordP at h
   split at h
   . rename_i hk
     have hk2 : (qaf σ.rest).text = w := hk
     cases h
     by_cases h0 : w = []
     . cases hs : σ.rest with
       | nil => exact ⟨qhd hw ht, .inl (by show ([] : List Tok).tail = σ.rest; rw [hs]; rfl)⟩
       | cons x r =>
         refine ⟨qhd hw ht, .inr ⟨x, hs, ?_⟩⟩
         rw [hs] at hk2
         rw [show x.text = w from hk2]
         exact h9
     . exact ⟨qhd hw ht, .inr (qeO (.inr (by rw [hk2]; exact h0)) (by rw [hk2]; exact h9))⟩
   . cases h
 | made k n =>
   rw [stepP] at h
   split at h
   . exact K h rfl (.inl rfl)
   . exact K h rfl (.inl rfl)
theorem j_0 (l : List Tok) : J (σ0 l) := by
 refine ⟨fun w h => ?_, fun p h => ?_, fun s p h => ?_⟩
 . unfold σ0 at h; simp at h
 . unfold σ0 at h; simp at h
 . unfold σ0 at h; simp at h; rw [<- h.2]; simp
theorem qnk {σ τ : PS} (h : Ends σ (.ok τ)) (hJ : J σ) (hr : Go.Lx.qao σ.rest = true) : ∀ x ∈ σ.rest, x.text = [46] -> x ∈ τ.rest := by
 generalize ho : Out.ok τ = o at h
 induction h with
 | done σ h => cases ho; exact fun x hx _ => hx
 | step hp h _ ih =>
   rename_i σ2 υ o2 s2 p2 _
   obtain ⟨h1, h2⟩ := qtd hJ hp hr h
   have hr2 : Go.Lx.qao υ.rest = true := by
     rcases h2 with e | ⟨x, e, _⟩
     . rw [e]; exact hr
     . rw [e] at hr
       unfold Go.Lx.qao at hr ⊢
       rw [List.all_cons, Bool.and_eq_true] at hr
       exact hr.2
   intro x hx he
   refine ih h1 hr2 ho x ?_ he
   rcases h2 with e | ⟨y, e, hy⟩
   . rw [e]; exact hx
   . rw [e] at hx
     rcases List.mem_cons.1 hx with rfl | hx
     . exact absurd he hy
     . exact hx
 | stop hp h => cases ho
theorem qqG {σ τ : PS} (h : Ends σ (.ok τ)) (hf : σ.plan.getLast? = some .fin) : τ.rest = [] := by
 generalize ho : Out.ok τ = o at h
 induction h with
 | done σ h => cases ho; rw [h] at hf; simp at hf
 | step hp h g ih =>
   rename_i σ υ o s p
   obtain ⟨l, h1, _⟩ := qdF h
   simp only at h1
   rw [hp] at hf
   cases p with
   | nil =>
     simp at hf
     subst hf
     rw [stepP] at h
     split at h
     . rename_i hr
       cases h
       cases g with
       | done => cases ho; exact hr
       | step hp2 => cases hp2
       | stop hp2 => cases ho
     . cases h
   | cons y q =>
     refine ih ?_ ho
     rw [h1, List.getLast?_append]
     rw [List.getLast?_cons_cons] at hf
     rw [hf]; rfl
 | stop hp h => cases ho
theorem qnl {l : List Tok} {t : Go.Tm.T} (h : Told l t 0) : ∀ x ∈ l, x.text ≠ [46] := fun x hx e => by
 generalize hn : (0 : Nat) = n at h
 cases h with
 | ok hr _ g _ _ =>
   have h1 := qnk g (j_0 l) hr x hx e
   rw [qqG g rfl] at h1
   cases h1
 | bad _ _ g he => rcases qdg g with h | h <;> omega
 | both _ _ _ g => rcases qdg g with h | h <;> omega
 | wrong => omega
 | deep => omega
 | great => omega
 | limit => omega
theorem qhQ {t : Go.Tm.T} (h : YtjnfhebbphdchaaGreatDoor.qai t = true) : ∀ x ∈ toksT t, x.text ≠ [46] := qnl (qeK h)
end Go.Proofs.YtjnfhebbphdchaaGreatDoor.Pa
namespace Go.Proofs.YtjnfhebbphdchaaGreatDoor.Pg
open Go.Lx
def cutL : List Tok -> List (List Tok)
 | [] => [[]]
 | x :: l => if x.text = [46] then [] :: cutL l else match cutL l with
   | [] => [[x]]
   | c :: cs => (x :: c) :: cs
theorem qlZ : ∀ l : List Tok, cutL l ≠ []
 | [] => by unfold cutL; simp
 | x :: l => by
   unfold cutL
   split
   . simp
   . split <;> simp
def glue (c : List Tok) : List (List Tok) -> List (List Tok)
 | [] => [c]
 | x :: xs => (c ++ x) :: xs
theorem qma {L : List (List Tok)} (h : L ≠ []) : glue [] L = L := by
 cases L with
 | nil => exact absurd rfl h
 | cons x xs => rfl
def spanL (l : List Tok) (x : Nat × Nat) : List Tok := (l.take x.2).drop x.1
theorem qiG {l : List Tok} {x : Nat × Nat} (h : x.2 <= l.length) : (spanL l x).length = x.2 - x.1 := by
 unfold spanL
 rw [List.length_drop, List.length_take]; omega
theorem qmb (l : List Tok) (k : Nat) : spanL l (k, k) = [] := by
 unfold spanL
 rw [List.drop_eq_nil_iff, List.length_take]; omega
theorem qoY {l : List Tok} {a k : Nat} (_ : a <= k) (hk : k < l.length) : spanL l (a, k + 1) = spanL l (a, k) ++ [l.getD k ⟨0, [], 0⟩] := by
 unfold spanL
 have e : l.take (k + 1) = l.take k ++ [l.getD k ⟨0, [], 0⟩] := by
   rw [List.take_succ_eq_append_getElem hk, List.getD_eq_getElem?_getD, List.getElem?_eq_getElem hk]; rfl
 dsimp only
 rw [e, List.drop_append_of_le_length (by rw [List.length_take]; omega)]
theorem qqH {l : List Tok} {x : Nat × Nat} {j : Nat} (_ : x.2 <= l.length) (hj : j < x.2 - x.1) : (spanL l x).getD j ⟨0, [], 0⟩ = l.getD (x.1 + j) ⟨0, [], 0⟩ := by
 unfold spanL
 rw [List.getD_eq_getElem?_getD, List.getElem?_drop, List.getElem?_take_of_lt (by omega), List.getD_eq_getElem?_getD]
def CutAt (l : List Tok) (k a : Nat) (sp : List (Nat × Nat)) : Prop := cutL l = sp.map (spanL l) ++ glue (spanL l (a, k)) (cutL (l.drop k))
theorem qoZ (l : List Tok) : CutAt l 0 0 [] := by
 unfold CutAt
 rw [qmb, List.drop_zero, qma (qlZ l)]; rfl
theorem qjA {l : List Tok} {k : Nat} (hk : k < l.length) : l.drop k = l.getD k ⟨0, [], 0⟩ :: l.drop (k + 1) := by
 rw [List.drop_eq_getElem_cons hk, List.getD_eq_getElem?_getD, List.getElem?_eq_getElem hk]; rfl
theorem qsm {l : List Tok} {k a : Nat} {sp : List (Nat × Nat)} (h : CutAt l k a sp) (hk : k < l.length) (hd : (l.getD k ⟨0, [], 0⟩).text = [46]) : CutAt l (k + 1) (k + 1) (sp ++ [(a, k)]) := by
 unfold CutAt at h ⊢
 rw [h, qjA hk, cutL, if_pos hd, qmb, qma (qlZ _), List.map_append]
 simp [glue]
theorem qsn {l : List Tok} {k a : Nat} {sp : List (Nat × Nat)} (h : CutAt l k a sp) (ha : a <= k) (hk : k < l.length) (hd : (l.getD k ⟨0, [], 0⟩).text ≠ [46]) : CutAt l (k + 1) a sp := by
 unfold CutAt at h ⊢
 rw [h, qjA hk, cutL, if_neg hd, qoY ha hk]
 cases hc : cutL (l.drop (k + 1)) with
 | nil => exact absurd hc (qlZ _)
 | cons c cs => simp [glue]
theorem qpa {l : List Tok} {a : Nat} {sp : List (Nat × Nat)} (h : CutAt l l.length a sp) : (sp ++ [(a, l.length)]).map (spanL l) = cutL l := by
 unfold CutAt at h
 rw [h, List.drop_length, cutL, List.map_append]
 simp [glue]
end Go.Proofs.YtjnfhebbphdchaaGreatDoor.Pg
namespace Go.Proofs.YtjnfhebbphdchaaGreatDoor.Pg
open Go.Tm Go.Lx Go.Proofs.YtjnfhebbphdchaaGreatDoor.Pa
structure D where
 name : ByteArray
 label : ByteArray
 n : Int
structure Df where
 name : ByteArray
 t : Go.Tm.T
structure P where
 ins : List D
 cells : List D
 defs : List Df
 body : Go.Tm.T
def dot : Tok := mTok [46]
def kIn : Tok := kTok [105, 110, 112, 117, 116]
def kCell : Tok := kTok [99, 101, 108, 108]
def kDef : Tok := kTok [100, 101, 102]
def nm (s : ByteArray) : Tok := nTok s.data.toList
def inL (d : D) : List Tok := [kIn, nm d.name, mTok [58], nm d.label]
def cellL (d : D) : List Tok := [kCell, nm d.name, mTok [58], nm d.label, mTok [61], dTok d.n]
def defL (d : Df) : List Tok := kDef :: nm d.name :: mTok [61] :: toksT d.t
def pieces (p : P) : List (List Tok) := p.ins.map inL ++ (p.cells.map cellL ++ p.defs.map defL)
def qcy (l : List (List Tok)) (b : List Tok) : List Tok := l.flatMap (· ++ [dot]) ++ b
def progL (p : P) : List Tok := qcy (pieces p) (toksT p.body)
def okD (most : Int) (d : D) : Prop := wordB d.name = true /\ wordB d.label = true /\ 0 <= d.n /\ d.n < most
def okDf (d : Df) : Prop := wordB d.name = true /\ d.t.kind = 3 /\ YtjnfhebbphdchaaGreatDoor.qai d.t = true
structure Sound (p : P) : Prop where
 li : p.ins.length <= 32
 lc : p.cells.length <= 32
 ld : p.defs.length <= 32
 ins : ∀ d ∈ p.ins, okD 1 d
 cells : ∀ d ∈ p.cells, okD 2147483648 d
 defs : ∀ d ∈ p.defs, okDf d
 body : YtjnfhebbphdchaaGreatDoor.qai p.body = true
theorem qjB : ∀ {c : List Tok}, (∀ x ∈ c, x.text ≠ [46]) -> cutL c = [c]
 | [], _ => rfl
 | x :: c, h => by
   unfold cutL
   rw [if_neg (h x (by simp)), qjB (fun y hy => h y (by simp [hy]))]
theorem qrn : ∀ {c : List Tok} (l : List Tok), (∀ x ∈ c, x.text ≠ [46]) -> cutL (c ++ dot :: l) = c :: cutL l
 | [], l, _ => by
   rw [List.nil_append]
   show cutL (dot :: l) = _
   rw [cutL, if_pos (show dot.text = [46] from rfl)]
 | x :: c, l, h => by
   rw [List.cons_append, cutL, if_neg (h x (by simp)), qrn l (fun y hy => h y (by simp [hy]))]
theorem qhe (b : List Tok) (hb : ∀ x ∈ b, x.text ≠ [46]) : ∀ (l : List (List Tok)), (∀ c ∈ l, ∀ x ∈ c, x.text ≠ [46]) -> cutL (qcy l b) = l ++ [b]
 | [], _ => qjB hb
 | c :: l, h => by
   have ih := qhe b hb l (fun c hc => h c (by simp [hc]))
   unfold qcy at ih ⊢
   rw [List.flatMap_cons, List.append_assoc, List.append_assoc, List.singleton_append, qrn _ (h c (by simp)), ih]
   rfl
theorem qeP {s : ByteArray} (h : wordB s = true) : (nm s).text ≠ [46] := fun e => by
 rw [qbK] at h
 have h1 := h.1
 unfold nameB at h1
 rw [show s.data.toList = [46] from e] at h1
 exact absurd h1 (by decide)
theorem qso {n : Int} (h : 0 <= n) (h2 : n < 2147483648) : (dTok n).text ≠ [46] := qlY (qkt h (by omega)) (.inr rfl)
theorem qmc {d : D} {m : Int} (h : okD m d) : ∀ x ∈ inL d, x.text ≠ [46] := by
 intro x hx
 unfold inL at hx
 simp only [List.mem_cons, List.not_mem_nil, or_false] at hx
 rcases hx with rfl | rfl | rfl | rfl
 . decide
 . exact qeP h.1
 . decide
 . exact qeP h.2.1
theorem qhR {d : D} (h : okD 2147483648 d) : ∀ x ∈ cellL d, x.text ≠ [46] := by
 intro x hx
 unfold cellL at hx
 simp only [List.mem_cons, List.not_mem_nil, or_false] at hx
 rcases hx with rfl | rfl | rfl | rfl | rfl | rfl
 . decide
 . exact qeP h.1
 . decide
 . exact qeP h.2.1
 . decide
 . exact qso h.2.2.1 h.2.2.2
theorem qjC {d : Df} (h : okDf d) : ∀ x ∈ defL d, x.text ≠ [46] := by
 intro x hx
 unfold defL at hx
 simp only [List.mem_cons] at hx
 rcases hx with rfl | rfl | rfl | hx
 . decide
 . exact qeP h.1
 . decide
 . exact qhQ h.2.2 x hx
theorem qjD {p : P} (h : Sound p) : ∀ c ∈ pieces p, ∀ x ∈ c, x.text ≠ [46] := by
 intro c hc
 unfold pieces at hc
 rcases List.mem_append.1 hc with hc | hc
 . obtain ⟨d, hd, rfl⟩ := List.mem_map.1 hc
   exact qmc (h.ins d hd)
 . rcases List.mem_append.1 hc with hc | hc
   . obtain ⟨d, hd, rfl⟩ := List.mem_map.1 hc
     exact qhR (h.cells d hd)
   . obtain ⟨d, hd, rfl⟩ := List.mem_map.1 hc
     exact qjC (h.defs d hd)
theorem qqI {p : P} (h : Sound p) : cutL (progL p) = pieces p ++ [toksT p.body] := qhe _ (qhQ h.body) _ (qjD h)
inductive Fm
 | nm | num
 | tx (s : List UInt8)
def isF (x : Tok) : Fm -> Bool
 | .nm => x.kind == 1
 | .num => x.kind == 2
 | .tx s => x.kind != 1 && x.kind != 2 && x.text == s
def fitsF : List Tok -> List Fm -> Bool
 | [], [] => true
 | x :: l, f :: fs => isF x f && fitsF l fs
 | _, _ => false
def tx (l : List Tok) (i : Nat) : ByteArray := txB (l.getD i ⟨0, [], 0⟩).text
noncomputable def tell (l : List Tok) : Go.Tm.T × Nat := ⟨(qgH l).choose, (qgH l).choose_spec.choose⟩
theorem qhf (l : List Tok) : Pa.Told l (tell l).1 (tell l).2 := (qgH l).choose_spec.choose_spec
theorem qcS {l : List Tok} {t : Go.Tm.T} {n : Nat} (h : Pa.Told l t n) : tell l = (t, n) := by
 obtain ⟨h1, h2⟩ := qiu (qhf l) h
 exact Prod.ext h1 h2
noncomputable def qaL (p : P) (l : List Tok) : P ⊕ Nat := match l with
 | [] => .inr 2
 | x :: r =>
   if x.text = [105, 110, 112, 117, 116] then
     if fitsF r [.nm, .tx [58], .nm] = true /\ p.cells = [] /\ p.defs = [] then
       if p.ins.length = 32 then .inr 1 else .inl { p with ins := p.ins ++ [⟨tx r 0, tx r 2, 0⟩] }
     else .inr 2
   else if x.text = [99, 101, 108, 108] then
     if fitsF r [.nm, .tx [58], .nm, .tx [61], .num] = true /\ p.defs = [] then
       if p.cells.length = 32 then .inr 1 else .inl { p with cells := p.cells ++ [⟨tx r 0, tx r 2, (r.getD 4 ⟨0, [], 0⟩).num⟩] }
     else .inr 2
   else if x.text = [100, 101, 102] then
     if fitsF (r.take 2) [.nm, .tx [61]] = true then
       if (tell (r.drop 2)).2 ≠ 0 then .inr (tell (r.drop 2)).2
       else if (tell (r.drop 2)).1.kind ≠ 3 then .inr 2
       else if p.defs.length = 32 then .inr 1 else .inl { p with defs := p.defs ++ [⟨tx r 0, (tell (r.drop 2)).1⟩] }
     else .inr 2
   else .inr 2
noncomputable def qaw : P -> List (List Tok) -> P ⊕ Nat
 | p, [] => .inl p
 | p, c :: cs => match qaL p c with
   | .inl q => qaw q cs
   | .inr e => .inr e
def P0 : P := ⟨[], [], [], T0⟩
noncomputable def progT (l : List Tok) : P ⊕ Nat :=
 if 96 < (cutL l).length - 1 then .inr 1
 else match qaw P0 (cutL l).dropLast with
   | .inr e => .inr e
   | .inl p => if (tell ((cutL l).getLastD [])).2 ≠ 0 then .inr (tell ((cutL l).getLastD [])).2 else .inl { p with body := (tell ((cutL l).getLastD [])).1 }
theorem qbt : ∀ (l m : List (List Tok)) {p q : P}, qaw p l = .inl q -> qaw p (l ++ m) = qaw q m
 | [], m, p, q, h => by cases h; rfl
 | c :: l, m, p, q, h => by
   rw [List.cons_append, qaw]
   rw [qaw] at h
   cases h1 : qaL p c with
   | inl r => rw [h1] at h; exact qbt l m h
   | inr e => rw [h1] at h; cases h
theorem tx_nm (s : ByteArray) : txB (nm s).text = s := qgd s
theorem qeQ : ∀ (l : List D) (p : P), (∀ d ∈ l, okD 1 d) -> p.cells = [] -> p.defs = [] -> p.ins.length + l.length <= 32 -> qaw p (l.map inL) = .inl { p with ins := p.ins ++ l }
 | [], p, _, _, _, _ => by rw [List.map_nil, qaw, List.append_nil]
 | d :: l, p, h, hc, hd, hl => by
   rw [List.length_cons] at hl
   obtain ⟨_, _, h3, h4⟩ := h d (by simp)
   have e0 : (⟨d.name, d.label, 0⟩ : D) = d := by
     have : d.n = 0 := by omega
     cases d; simp at this; rw [this]
   have e1 : qaL p (inL d) = .inl { p with ins := p.ins ++ [d] } := by
     unfold inL qaL
     dsimp only
     rw [if_pos (show kIn.text = [105, 110, 112, 117, 116] from rfl), if_pos ⟨rfl, hc, hd⟩, if_neg (by omega)]
     show (Sum.inl { p with ins := p.ins ++ [(⟨txB (nm d.name).text, txB (nm d.label).text, 0⟩ : D)] } : P ⊕ Nat) = _
     rw [tx_nm, tx_nm, e0]
   rw [List.map_cons, qaw, e1]
   show qaw { p with ins := p.ins ++ [d] } (l.map inL) = _
   rw [qeQ l { p with ins := p.ins ++ [d] } (fun x hx => h x (by simp [hx])) hc hd (by simp; omega)]
   simp
theorem qcV : ∀ (l : List D) (p : P), (∀ d ∈ l, okD 2147483648 d) -> p.defs = [] -> p.cells.length + l.length <= 32 -> qaw p (l.map cellL) = .inl { p with cells := p.cells ++ l }
 | [], p, _, _, _ => by rw [List.map_nil, qaw, List.append_nil]
 | d :: l, p, h, hd, hl => by
   rw [List.length_cons] at hl
   have e1 : qaL p (cellL d) = .inl { p with cells := p.cells ++ [d] } := by
     unfold cellL qaL
     dsimp only
     rw [if_neg (by decide), if_pos (show kCell.text = [99, 101, 108, 108] from rfl), if_pos ⟨rfl, hd⟩, if_neg (by omega)]
     show (Sum.inl { p with cells := p.cells ++ [(⟨txB (nm d.name).text, txB (nm d.label).text, d.n⟩ : D)] } : P ⊕ Nat) = _
     rw [tx_nm, tx_nm]
   rw [List.map_cons, qaw, e1]
   show qaw { p with cells := p.cells ++ [d] } (l.map cellL) = _
   rw [qcV l { p with cells := p.cells ++ [d] } (fun x hx => h x (by simp [hx])) hd (by simp; omega)]
   simp
theorem qeR : ∀ (l : List Df) (p : P), (∀ d ∈ l, okDf d) -> p.defs.length + l.length <= 32 -> qaw p (l.map defL) = .inl { p with defs := p.defs ++ l }
 | [], p, _, _ => by rw [List.map_nil, qaw, List.append_nil]
 | d :: l, p, h, hl => by
   rw [List.length_cons] at hl
   obtain ⟨_, h2, h3⟩ := h d (by simp)
   have et := qcS (qeK h3)
   have e1 : qaL p (defL d) = .inl { p with defs := p.defs ++ [d] } := by
     unfold defL qaL
     dsimp only
     rw [if_neg (by decide), if_neg (by decide), if_pos (show kDef.text = [100, 101, 102] from rfl)]
     show (if fitsF [nm d.name, mTok [61]] [.nm, .tx [61]] = true then if (tell (toksT d.t)).2 ≠ 0 then Sum.inr (tell (toksT d.t)).2 else if (tell (toksT d.t)).1.kind ≠ 3 then Sum.inr 2 else if p.defs.length = 32 then Sum.inr 1 else Sum.inl { p with defs := p.defs ++ [(⟨txB (nm d.name).text, (tell (toksT d.t)).1⟩ : Df)] } else Sum.inr 2 : P ⊕ Nat) = _
     rw [et, if_pos (show fitsF [nm d.name, mTok [61]] [.nm, .tx [61]] = true from rfl), if_neg (by simp), if_neg (by simp [h2]), if_neg (by omega), tx_nm]
   rw [List.map_cons, qaw, e1]
   show qaw { p with defs := p.defs ++ [d] } (l.map defL) = _
   rw [qeR l { p with defs := p.defs ++ [d] } (fun x hx => h x (by simp [hx])) (by simp; omega)]
   simp
theorem qjE {p : P} (h : Sound p) : progT (progL p) = .inl p := by
 have h1 := h.li
 have h2 := h.lc
 have h3 := h.ld
 have hn : (pieces p).length <= 96 := by unfold pieces; simp; omega
 have hr : qaw P0 (pieces p) = .inl { p with body := T0 } := by
   unfold pieces
   rw [qbt _ _ (qeQ p.ins P0 h.ins rfl rfl (by show 0 + _ <= _; omega))]
   rw [qbt _ _ (qcV p.cells _ h.cells rfl (by show 0 + _ <= _; omega))]
   rw [qeR p.defs _ h.defs (by show 0 + _ <= _; omega)]
   rfl
 unfold progT
 rw [qqI h]
 rw [if_neg (by simp; omega), List.dropLast_concat, hr, List.getLastD_concat, qcS (qeK h.body)]
 dsimp only
 rw [if_neg (by simp)]
def qhg (p : P) : List (List Tok) := (pieces p).map (· ++ [dot]) ++ [toksT p.body]
def lineS (c : UInt8) (l : List Tok) : List UInt8 := qaS l ++ [c]
def textL (c : UInt8) (p : P) : List UInt8 := (qhg p).flatMap (lineS c)
theorem qhS (p : P) : (qhg p).flatten = progL p := by
 unfold qhg progL qcy
 rw [List.flatten_append, List.flatMap_def]
 simp
theorem qjF {c : UInt8} (hc : c = 10 ∨ c = 32) : ∀ (ls : List (List Tok)), (∀ l ∈ ls, l ≠ [] /\ Go.Lx.qao l = true) -> lexL (ls.flatMap (lineS c)) = some ls.flatten
 | [], _ => rfl
 | l :: ls, h => by
   have he : ends c := by rcases hc with rfl | rfl <;> exact ⟨by decide, by decide, by decide, by decide⟩
   obtain ⟨h1, h2⟩ := h l (by simp)
   rw [List.flatMap_cons]
   unfold lineS
   rw [List.append_assoc, List.singleton_append, qgK c he _ l h1 h2, qfc c hc]
   have ih := qjF hc ls (fun x hx => h x (by simp [hx]))
   unfold lineS at ih
   rw [ih]
   simp
theorem r_dot : Go.Lx.qao [dot] = true := by decide +kernel
theorem r_in : Go.Lx.qai kIn = true := by decide +kernel
theorem qte : Go.Lx.qai kCell = true := by decide +kernel
theorem r_def : Go.Lx.qai kDef = true := by decide +kernel
theorem r_58 : Go.Lx.qai (mTok [58]) = true := by decide +kernel
theorem r_61 : Go.Lx.qai (mTok [61]) = true := by decide +kernel
theorem qmd {d : D} {m : Int} (h : okD m d) : Go.Lx.qao (inL d) = true := by
 have h1 : Go.Lx.qai (nm d.name) = true := qfo h.1
 have h2 : Go.Lx.qai (nm d.label) = true := qfo h.2.1
 unfold inL Go.Lx.qao
 simp only [List.all_cons, List.all_nil, r_in, r_58, h1, h2, Bool.and_self]
theorem qhT {d : D} (h : okD 2147483648 d) : Go.Lx.qao (cellL d) = true := by
 have h1 : Go.Lx.qai (nm d.name) = true := qfo h.1
 have h2 : Go.Lx.qai (nm d.label) = true := qfo h.2.1
 have h3 : Go.Lx.qai (dTok d.n) = true := qkt h.2.2.1 (by have := h.2.2.2; omega)
 unfold cellL Go.Lx.qao
 simp only [List.all_cons, List.all_nil, qte, r_58, r_61, h1, h2, h3, Bool.and_self]
theorem qjG {d : Df} (h : okDf d) : Go.Lx.qao (defL d) = true := by
 have h1 : Go.Lx.qai (nm d.name) = true := qfo h.1
 have h2 := qdU (qbj h.2.2).1
 unfold Go.Lx.qao at h2
 unfold defL Go.Lx.qao
 simp only [List.all_cons, r_def, r_61, h1, h2, Bool.and_self]
theorem qjH {p : P} (h : Sound p) : ∀ c ∈ pieces p, Go.Lx.qao c = true := by
 intro c hc
 unfold pieces at hc
 rcases List.mem_append.1 hc with hc | hc
 . obtain ⟨d, hd, rfl⟩ := List.mem_map.1 hc
   exact qmd (h.ins d hd)
 . rcases List.mem_append.1 hc with hc | hc
   . obtain ⟨d, hd, rfl⟩ := List.mem_map.1 hc
     exact qhT (h.cells d hd)
   . obtain ⟨d, hd, rfl⟩ := List.mem_map.1 hc
     exact qjG (h.defs d hd)
theorem qkY {p : P} (h : Sound p) : ∀ l ∈ qhg p, l ≠ [] /\ Go.Lx.qao l = true := by
 intro l hl
 unfold qhg at hl
 rcases List.mem_append.1 hl with hl | hl
 . obtain ⟨c, hc, rfl⟩ := List.mem_map.1 hl
   exact ⟨by simp, qjj (qjH h c hc) r_dot⟩
 . rw [List.mem_singleton] at hl
   subst hl
   exact ⟨qiF (qbj h.body).1, qdU (qbj h.body).1⟩
theorem qqJ {c : UInt8} (hc : c = 10 ∨ c = 32) {p : P} (h : Sound p) : lexL (textL c p) = some (progL p) := by
 unfold textL
 rw [qjF hc _ (qkY h), qhS]
/-! no token has a line feed -/
theorem qeo {f : UInt8 -> Bool} : ∀ {s : List UInt8}, runL f s = s.length -> s.all f = true
 | [], _ => rfl
 | c :: r, h => by
   unfold runL at h
   split at h
   . rename_i hf
     rw [List.all_cons, hf, qeo (s := r) (by simpa using h)]; rfl
   . simp at h
def blank (c : UInt8) : UInt8 := if c = 10 then 32 else c
/-! how long it is -/
theorem qhh (c : UInt8) : ∀ (ls : List (List Tok)), (∀ l ∈ ls, l ≠ []) -> ((ls.flatMap (lineS c)).length : Int) = len2 ls.flatten
 | [], _ => rfl
 | l :: ls, h => by
   rw [List.flatMap_cons, List.flatten_cons, qaH, <- qhh c ls (fun x hx => h x (by simp [hx])), <- qhJ l (h l (by simp))]
   unfold lineS
   simp only [List.length_append, List.length_cons, List.length_nil]
   omega
theorem qcJ (c : UInt8) {p : P} (h : YtjnfhebbphdchaaGreatDoor.qai p.body = true) : ((textL c p).length : Int) = len2 (progL p) := by
 unfold textL
 rw [qhh c _ ?_, qhS]
 intro l hl
 unfold qhg at hl
 rcases List.mem_append.1 hl with hl | hl
 . obtain ⟨c, hc, rfl⟩ := List.mem_map.1 hl
   simp
 . rw [List.mem_singleton] at hl
   subst hl
   exact qiF (qbj h).1
theorem qcK {s : ByteArray} (h : wordB s = true) : (s.data.toList.length : Int) <= 16 := by
 obtain ⟨h1, h2⟩ := qbK.1 h
 have h3 : nameL s.data.toList = true := h1
 have := (qdr h3).2.2
 omega
theorem qjI {t : Go.Tm.T} (h : Rt t) : costT t <= 33 * (t.size : Int) := by
 have hn : ∀ {s : ByteArray}, wordB s = true -> nlen s <= 17 := fun h => by have := qcK h; unfold nlen; omega
 induction h with
 | num n h0 h1 =>
   unfold costT
   rw [qdp, T.size, sizes, qaq, qbi]
   have := qfZ h0 h1
   show ((Lib.itoa n).length : Int) + 1 + 0 + 4 <= _
   push_cast
   omega
 | var s h =>
   have := qcK h
   unfold costT
   rw [qed, T.size, sizes, qaq, qbi]
   show (s.data.toList.length : Int) + 1 + 0 + 4 <= _
   push_cast
   omega
 | fn s a h ha ia => have := hn h; have := qbo (k := 3) (n := 1) (s := s) (b := [a]) (by decide) rfl; simp only [wk, named, costs] at this; rw [T.size, sizes, sizes]; simp at this ⊢; omega
 | app a b ha hb ia ib => have := qbo (k := 4) (n := 2) (s := ⟨#[]⟩) (b := [a, b]) (by decide) rfl; simp only [wk, named, costs] at this; rw [T.size, sizes, sizes, sizes]; simp at this ⊢; omega
 | lt s a b h ha hb ia ib => have := hn h; have := qbo (k := 5) (n := 2) (s := s) (b := [a, b]) (by decide) rfl; simp only [wk, named, costs] at this; rw [T.size, sizes, sizes, sizes]; simp at this ⊢; omega
 | cond a b c ha hb hc ia ib ic => have := qbo (k := 6) (n := 3) (s := ⟨#[]⟩) (b := [a, b, c]) (by decide) rfl; simp only [wk, named, costs] at this; rw [T.size, sizes, sizes, sizes, sizes]; simp at this ⊢; omega
 | loop a b ha hb ia ib => have := qbo (k := 7) (n := 2) (s := ⟨#[]⟩) (b := [a, b]) (by decide) rfl; simp only [wk, named, costs] at this; rw [T.size, sizes, sizes, sizes]; simp at this ⊢; omega
 | raise a ha ia => have := qbo (k := 8) (n := 1) (s := ⟨#[]⟩) (b := [a]) (by decide) rfl; simp only [wk, named, costs] at this; rw [T.size, sizes, sizes]; simp at this ⊢; omega
 | tri s a b h ha hb ia ib => have := hn h; have := qbo (k := 9) (n := 2) (s := s) (b := [a, b]) (by decide) rfl; simp only [wk, named, costs] at this; rw [T.size, sizes, sizes, sizes]; simp at this ⊢; omega
 | get a ha ia => have := qbo (k := 10) (n := 1) (s := ⟨#[]⟩) (b := [a]) (by decide) rfl; simp only [wk, named, costs] at this; rw [T.size, sizes, sizes]; simp at this ⊢; omega
 | put a b ha hb ia ib => have := qbo (k := 11) (n := 2) (s := ⟨#[]⟩) (b := [a, b]) (by decide) rfl; simp only [wk, named, costs] at this; rw [T.size, sizes, sizes, sizes]; simp at this ⊢; omega
 | op s a b h ha hb ia ib => have h9 : nlen s <= 17 := by { unfold nlen; rcases qet h with e | e | e | e | e <;> rw [e] <;> decide }; have := qbo (k := 12) (n := 2) (s := s) (b := [a, b]) (by decide) rfl; simp only [wk, named, costs] at this; rw [T.size, sizes, sizes, sizes]; simp at this ⊢; omega
 | sq a b ha hb ia ib => have := qbo (k := 13) (n := 2) (s := ⟨#[]⟩) (b := [a, b]) (by decide) rfl; simp only [wk, named, costs] at this; rw [T.size, sizes, sizes, sizes]; simp at this ⊢; omega
def qaJ : List Df -> Nat
 | [] => 0
 | d :: l => d.t.size + qaJ l
def sizeP (p : P) : Nat := p.body.size + qaJ p.defs
theorem qcL {m : Int} : ∀ (ls : List (List Tok)), (∀ l ∈ ls, len2 l <= m) -> len2 (ls.flatMap (· ++ [dot])) <= (m + 2) * ls.length
 | [], _ => by simp [qbi]
 | l :: ls, h => by
   rw [List.flatMap_cons, qaH, qaH]
   have h1 := h l (by simp)
   have h2 := qcL ls (fun x hx => h x (by simp [hx]))
   have h3 : len2 [dot] = 2 := rfl
   rw [List.length_cons]
   push_cast
   rw [Int.mul_add]
   omega
theorem qro {d : D} {m : Int} (h : okD m d) : len2 (inL d) <= 42 := by
 have h1 := qcK h.1
 have h2 := qcK h.2.1
 unfold inL
 simp only [qaq, qbi]
 show (5 : Int) + 1 + ((d.name.data.toList.length : Int) + 1 + (1 + 1 + ((d.label.data.toList.length : Int) + 1 + 0))) <= 42
 omega
theorem qme {d : D} (h : okD 2147483648 d) : len2 (cellL d) <= 54 := by
 have h1 := qcK h.1
 have h2 := qcK h.2.1
 have h3 := qfZ h.2.2.1 (by have := h.2.2.2; omega)
 unfold cellL
 simp only [qaq, qbi]
 show (4 : Int) + 1 + ((d.name.data.toList.length : Int) + 1 + (1 + 1 + ((d.label.data.toList.length : Int) + 1 + (1 + 1 + (((Lib.itoa d.n).length : Int) + 1 + 0))))) <= 54
 omega
theorem qmf : ∀ (l : List Df), (∀ d ∈ l, okDf d) -> len2 ((l.map defL).flatMap (· ++ [dot])) <= 33 * (qaJ l : Int) + 25 * l.length
 | [], _ => by simp [qbi, qaJ]
 | d :: l, h => by
   have h1 := h d (by simp)
   have h2 := qcK h1.1
   have h3 := qjI (qbj h1.2.2).1
   have h4 := qmf l (fun x hx => h x (by simp [hx]))
   rw [List.map_cons, List.flatMap_cons, qaH, qaH, qaJ]
   have h5 : len2 [dot] = 2 := rfl
   have h6 : len2 (defL d) = 4 + ((d.name.data.toList.length : Int) + 1 + (2 + len2 (toksT d.t))) := by
     unfold defL
     simp only [qaq]
     rfl
   unfold costT at h3
   rw [List.length_cons]
   push_cast
   omega
theorem qiH {p : P} (h : Sound p) : len2 (progL p) <= 33 * (sizeP p : Int) + 4000 := by
 have h1 := h.li
 have h2 := h.lc
 have h3 := h.ld
 have g1 := qcL (m := 42) (p.ins.map inL) (fun l hl => by obtain ⟨d, hd, rfl⟩ := List.mem_map.1 hl; exact qro (h.ins d hd))
 have g2 := qcL (m := 54) (p.cells.map cellL) (fun l hl => by obtain ⟨d, hd, rfl⟩ := List.mem_map.1 hl; exact qme (h.cells d hd))
 have g3 := qmf p.defs h.defs
 have g4 := qjI (qbj h.body).1
 unfold costT at g4
 unfold progL qcy pieces
 rw [List.flatMap_append, List.flatMap_append, qaH, qaH, qaH]
 rw [List.length_map] at g1 g2
 unfold sizeP
 push_cast
 omega
def wgt (ls : List (List Tok)) : Int := len2 (ls.flatMap (· ++ [dot]))
theorem qsp (a b : List (List Tok)) : wgt (a ++ b) = wgt a + wgt b := by unfold wgt; rw [List.flatMap_append, qaH]
theorem qiI (c : List Tok) : wgt [c] = len2 c + 2 := by
 unfold wgt
 rw [List.flatMap_cons, List.flatMap_nil, List.append_nil, qaH]; rfl
def wgtP (p : P) : Int := wgt (p.ins.map inL) + (wgt (p.cells.map cellL) + wgt (p.defs.map defL))
theorem qtf {l : List Tok} {s : List UInt8} (h : fitsF l [.nm, .tx s, .nm] = true) : ∃ a b c, l = [a, b, c] /\ a.kind = 1 /\ b.text = s /\ c.kind = 1 := by
 match l, h with
 | [a, b, c], h =>
   simp only [fitsF, isF, Bool.and_eq_true, bne_iff_ne, ne_eq, beq_iff_eq, Bool.and_true] at h
   exact ⟨a, b, c, rfl, h.1, h.2.1.2, h.2.2⟩
 | [], h => cases h
 | [_], h => simp [fitsF] at h
 | [_, _], h => simp [fitsF] at h
 | _ :: _ :: _ :: _ :: _, h => simp [fitsF] at h
theorem qtg {l : List Tok} {s : List UInt8} (h : fitsF l [.nm, .tx s] = true) : ∃ a b, l = [a, b] /\ a.kind = 1 /\ b.text = s := by
 match l, h with
 | [a, b], h =>
   simp only [fitsF, isF, Bool.and_eq_true, bne_iff_ne, ne_eq, beq_iff_eq, Bool.and_true] at h
   exact ⟨a, b, rfl, h.1, h.2.2⟩
 | [], h => cases h
 | [_], h => simp [fitsF] at h
 | _ :: _ :: _ :: _, h => simp [fitsF] at h
theorem qth {l : List Tok} {s u : List UInt8} (h : fitsF l [.nm, .tx s, .nm, .tx u, .num] = true) : ∃ a b c d e, l = [a, b, c, d, e] /\ a.kind = 1 /\ b.text = s /\ c.kind = 1 /\ d.text = u /\ e.kind = 2 := by
 match l, h with
 | [a, b, c, d, e], h =>
   simp only [fitsF, isF, Bool.and_eq_true, bne_iff_ne, ne_eq, beq_iff_eq, Bool.and_true] at h
   exact ⟨a, b, c, d, e, rfl, h.1, h.2.1.2, h.2.2.1, h.2.2.2.1.2, h.2.2.2.2⟩
 | [], h => cases h
 | [_], h => simp [fitsF] at h
 | [_, _], h => simp [fitsF] at h
 | [_, _, _], h => simp [fitsF] at h
 | [_, _, _, _], h => simp [fitsF] at h
 | _ :: _ :: _ :: _ :: _ :: _ :: _, h => simp [fitsF] at h
theorem qjJ {l : List Tok} (h : Go.Lx.qao l = true) {x : Tok} (hx : x ∈ l) : Go.Lx.qai x = true := by
 unfold Go.Lx.qao at h; exact List.all_eq_true.1 h x hx
def okDB (most : Int) (d : D) : Bool := wordB d.name && wordB d.label && decide (0 <= d.n /\ d.n < most)
def okDfB (d : Df) : Bool := wordB d.name && (d.t.kind == 3) && YtjnfhebbphdchaaGreatDoor.qai d.t
def qdq (p : P) : Bool := decide (p.ins.length <= 32 /\ p.cells.length <= 32 /\ p.defs.length <= 32) && p.ins.all (okDB 1) && p.cells.all (okDB 2147483648) && p.defs.all okDfB && YtjnfhebbphdchaaGreatDoor.qai p.body
theorem qsq {m : Int} {d : D} : okDB m d = true ↔ okD m d := by
 unfold okDB okD
 simp only [Bool.and_eq_true, decide_eq_true_eq, and_assoc]
theorem qqK {d : Df} : okDfB d = true ↔ okDf d := by
 unfold okDfB okDf
 simp only [Bool.and_eq_true, beq_iff_eq, and_assoc]
theorem qhi {p : P} : qdq p = true ↔ Sound p := by
 unfold qdq
 simp only [Bool.and_eq_true, decide_eq_true_eq, List.all_eq_true, qsq, qqK]
 exact ⟨fun ⟨⟨⟨⟨⟨h1, h2, h3⟩, h4⟩, h5⟩, h6⟩, h7⟩ => ⟨h1, h2, h3, h4, h5, h6, h7⟩, fun h => ⟨⟨⟨⟨⟨h.li, h.lc, h.ld⟩, h.ins⟩, h.cells⟩, h.defs⟩, h.body⟩⟩
def qar (p : P) : Bool := qdq p && decide ((textL 10 p).length <= 65536)
def qbI (p : P) : ByteArray := if qar p = true then X.strOf (textL 10 p) else ⟨#[]⟩
noncomputable def qaZ (s : ByteArray) : P ⊕ Nat := if 65536 < s.size then .inr 1 else match lexL s.data.toList with
 | none => .inr 2
 | some l => progT l
theorem qaE {p : P} : qar p = true ↔ Sound p /\ (textL 10 p).length <= 65536 := by
 unfold qar
 rw [Bool.and_eq_true, qhi, decide_eq_true_eq]
theorem qcz {s : ByteArray} {l : List Tok} (hs : s.size <= 65536) (h : lexL s.data.toList = some l) : qaZ s = progT l := by
 unfold qaZ
 rw [if_neg (by omega), h]
theorem qnm {c : UInt8} (hc : c = 10 ∨ c = 32) {p : P} (h : Sound p) (hl : (textL c p).length <= 65536) : qaZ (X.strOf (textL c p)) = .inl p := by
 rw [qcz (by rw [X.qbE]; exact hl) (by rw [X.qaP]; exact qqJ hc h), qjE h]
theorem qdj {p : P} (h : qar p = true) : qbI p = X.strOf (textL 10 p) := by unfold qbI; rw [if_pos h]
theorem qdk {p : P} (h : qar p = false) : qbI p = ⟨#[]⟩ := by unfold qbI; rw [if_neg (by rw [h]; decide)]
theorem qhU {p : P} (h : qar p = true) : qaZ (qbI p) = .inl p := by
 rw [qdj h]
 exact qnm (.inl rfl) (qaE.1 h).1 (qaE.1 h).2
theorem qbQ {p : P} {c : List Tok} {e : Nat} (h : qaL p c = .inr e) : e = 1 ∨ e = 2 := by
 have ht : ∀ r : List Tok, (tell r).2 ≠ 0 -> (tell r).2 = 1 ∨ (tell r).2 = 2 := fun r h0 => by
   rcases qlD (qhf r) with ⟨h1, _⟩ | ⟨h1, _⟩ | ⟨h1, _⟩
   . exact absurd h1 h0
   . exact .inl h1
   . exact .inr h1
 unfold qaL at h
 split at h
 . cases h; exact .inr rfl
 . split at h
   . split at h
     . split at h
       . cases h; exact .inl rfl
       . cases h
     . cases h; exact .inr rfl
   . split at h
     . split at h
       . split at h
         . cases h; exact .inl rfl
         . cases h
       . cases h; exact .inr rfl
     . split at h
       . split at h
         . split at h
           . rename_i h9; cases h; exact ht _ h9
           . split at h
             . cases h; exact .inr rfl
             . split at h
               . cases h; exact .inl rfl
               . cases h
         . cases h; exact .inr rfl
       . cases h; exact .inr rfl
theorem qhj : ∀ {cs : List (List Tok)} {p : P} {e : Nat}, qaw p cs = .inr e -> e = 1 ∨ e = 2
 | [], _, _, h => by cases h
 | c :: cs, p, e, h => by
   rw [qaw] at h
   cases h1 : qaL p c with
   | inr e' => rw [h1] at h; cases h; exact qbQ h1
   | inl q => rw [h1] at h; exact qhj h
theorem qqL {l : List Tok} {e : Nat} (h : progT l = .inr e) : e = 1 ∨ e = 2 := by
 unfold progT at h
 split at h
 . cases h; exact .inl rfl
 . cases h1 : qaw P0 (cutL l).dropLast with
   | inr e' => rw [h1] at h; cases h; exact qhj h1
   | inl q =>
     rw [h1] at h
     dsimp only at h
     split at h
     . rename_i h9
       cases h
       rcases qlD (qhf ((cutL l).getLastD [])) with ⟨h1, _⟩ | ⟨h1, _⟩ | ⟨h1, _⟩
       . exact absurd h1 h9
       . exact .inl h1
       . exact .inr h1
     . cases h
theorem qpb {s : ByteArray} {e : Nat} (h : qaZ s = .inr e) : e = 1 ∨ e = 2 := by
 unfold qaZ at h
 split at h
 . cases h; exact .inl rfl
 . split at h
   . cases h; exact .inr rfl
   . exact qqL h
theorem qpc {a b : P} (ha : qar a = true) (hb : qar b = true) (h : qbI a = qbI b) : a = b := by
 have h1 := qhU ha
 rw [h, qhU hb] at h1
 cases h1; rfl
/-! a program's parts -/
def zeroT : Go.Tm.T := .node 1 ⟨#[]⟩ 0 []
theorem qsr : Rt zeroT := .num 0 (by decide) (by decide)
theorem qbG : YtjnfhebbphdchaaGreatDoor.qai zeroT = true := qgg qsr (by decide) (by decide)
def oneI (d : D) : P := ⟨[d], [], [], zeroT⟩
def oneC (d : D) : P := ⟨[], [d], [], zeroT⟩
def oneF (d : Df) : P := ⟨[], [], [d], zeroT⟩
def oneB (t : Go.Tm.T) : P := ⟨[], [], [], t⟩
theorem qeS (p : P) : len2 (progL p) = wgtP p + len2 (toksT p.body) := by
 unfold progL qcy pieces wgtP wgt
 rw [List.flatMap_append, List.flatMap_append, qaH, qaH, qaH]
theorem qmg (ls : List (List Tok)) : 0 <= wgt ls := qfr _
theorem qiJ : ∀ {ls : List (List Tok)} {c : List Tok}, c ∈ ls -> len2 c + 2 <= wgt ls
 | x :: ls, c, h => by
   have h0 := qsp [x] ls
   rw [List.singleton_append, qiI] at h0
   have h1 := qmg ls
   have h2 := qfr x
   rcases List.mem_cons.1 h with rfl | h
   . omega
   . have := qiJ h; omega
theorem qiK : len2 (toksT zeroT) = 2 := by
 unfold zeroT
 rw [qdp, qaq, qbi]
 decide +kernel
theorem qqM {t : Go.Tm.T} (h : Rt t) : 2 <= len2 (toksT t) := by
 cases hl : toksT t with
 | nil => exact absurd hl (qiF h)
 | cons x r =>
   rw [qaq]
   have h1 : Go.Lx.qai x = true := qjJ (qdU h) (by rw [hl]; simp)
   have h2 := (qaW h1).1
   have h3 : 1 <= x.text.length := by
     cases hx : x.text with
     | nil => exact absurd hx h2
     | cons _ _ => simp
   have := qfr r
   omega
def fitsP (p : P) : Bool := qar (oneB p.body) && p.ins.all (fun d => qar (oneI d)) && p.cells.all (fun d => qar (oneC d)) && p.defs.all (fun d => qar (oneF d))
theorem qnn {p : P} (h : qar p = true) : fitsP p = true := by
 obtain ⟨hs, hl⟩ := qaE.1 h
 have h0 := qcJ 10 hs.body
 rw [qeS] at h0
 have hb := qqM (qbj hs.body).1
 have n1 := qmg (p.ins.map inL)
 have n2 := qmg (p.cells.map cellL)
 have n3 := qmg (p.defs.map defL)
 have e0 : wgtP p = wgt (p.ins.map inL) + (wgt (p.cells.map cellL) + wgt (p.defs.map defL)) := rfl
 unfold fitsP
 simp only [Bool.and_eq_true, List.all_eq_true]
 refine ⟨⟨⟨?_, fun d hd => ?_⟩, fun d hd => ?_⟩, fun d hd => ?_⟩
 . refine qaE.2 ⟨⟨Nat.le_of_ble_eq_true rfl, Nat.le_of_ble_eq_true rfl, Nat.le_of_ble_eq_true rfl, (fun _ h => by cases h), (fun _ h => by cases h), (fun _ h => by cases h), hs.body⟩, ?_⟩
   have h1 := qcJ 10 (p := oneB p.body) hs.body
   rw [qeS] at h1
   have h2 : wgtP (oneB p.body) = 0 := rfl
   have h3 : (oneB p.body).body = p.body := rfl
   rw [h2, h3] at h1
   omega
 . refine qaE.2 ⟨⟨Nat.le_of_ble_eq_true rfl, Nat.le_of_ble_eq_true rfl, Nat.le_of_ble_eq_true rfl, fun x hx => by { rw [List.mem_singleton.1 hx]; exact hs.ins d hd }, (fun _ h => by cases h), (fun _ h => by cases h), qbG⟩, ?_⟩
   have h1 := qcJ 10 (p := oneI d) qbG
   rw [qeS] at h1
   have h2 : wgtP (oneI d) = wgt [inL d] + (0 + 0) := rfl
   have h3 : (oneI d).body = zeroT := rfl
   have h4 := qiJ (List.mem_map_of_mem (f := inL) hd)
   rw [h2, h3, qiI, qiK] at h1
   omega
 . refine qaE.2 ⟨⟨Nat.le_of_ble_eq_true rfl, Nat.le_of_ble_eq_true rfl, Nat.le_of_ble_eq_true rfl, (fun _ h => by cases h), fun x hx => by { rw [List.mem_singleton.1 hx]; exact hs.cells d hd }, (fun _ h => by cases h), qbG⟩, ?_⟩
   have h1 := qcJ 10 (p := oneC d) qbG
   rw [qeS] at h1
   have h2 : wgtP (oneC d) = 0 + (wgt [cellL d] + 0) := rfl
   have h3 : (oneC d).body = zeroT := rfl
   have h4 := qiJ (List.mem_map_of_mem (f := cellL) hd)
   rw [h2, h3, qiI, qiK] at h1
   omega
 . refine qaE.2 ⟨⟨Nat.le_of_ble_eq_true rfl, Nat.le_of_ble_eq_true rfl, Nat.le_of_ble_eq_true rfl, (fun _ h => by cases h), (fun _ h => by cases h), fun x hx => by { rw [List.mem_singleton.1 hx]; exact hs.defs d hd }, qbG⟩, ?_⟩
   have h1 := qcJ 10 (p := oneF d) qbG
   rw [qeS] at h1
   have h2 : wgtP (oneF d) = 0 + (0 + wgt [defL d]) := rfl
   have h3 : (oneF d).body = zeroT := rfl
   have h4 := qiJ (List.mem_map_of_mem (f := defL) hd)
   rw [h2, h3, qiI, qiK] at h1
   omega
theorem qno {p : P} (h : fitsP p = true) (h1 : p.ins.length <= 32) (h2 : p.cells.length <= 32) (h3 : p.defs.length <= 32) (hz : sizeP p <= 1000) : qar p = true := by
 unfold fitsP at h
 simp only [Bool.and_eq_true, List.all_eq_true] at h
 obtain ⟨⟨⟨g1, g2⟩, g3⟩, g4⟩ := h
 have hs : Sound p := ⟨h1, h2, h3, fun d hd => (qaE.1 (g2 d hd)).1.ins d (by unfold oneI; simp), fun d hd => (qaE.1 (g3 d hd)).1.cells d (by unfold oneC; simp), fun d hd => (qaE.1 (g4 d hd)).1.defs d (by unfold oneF; simp), (qaE.1 g1).1.body⟩
 refine qaE.2 ⟨hs, ?_⟩
 have k1 := qcJ 10 hs.body
 have k2 := qiH hs
 omega
end Go.Proofs.YtjnfhebbphdchaaGreatDoor.Pg
