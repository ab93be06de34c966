/-
  No point stands in what is read as a term. Condition: right tokens.
  Tokens cut at each point: how the pieces come one by one. No condition.
  Programs, their tokens, and what is told of these; what is printed of a right program is parsed as it. No condition.
  Programs' texts: what is printed of a program, line by line; its tokens; how long it is. No condition.
  What is read as a program is right, and its text at most ten times as long as what was read. Condition: right tokens.
  What is told of programs and of their texts, as functions; what the statements of chapter 6 ask of these. No condition.
-/
import Derived.Test.YticjidkomfnihaaGreatDoorPaMath
import Derived.Test.YticjidkomfnihaaGreatDoorLxMath
import Derived.Test.YticjidkomfnihaaGreatDoorPaPr
namespace Go.Proofs.YticjidkomfnihaaGreatDoor.Pa
open Go.Tm Go.Lx
theorem dot_no {x : Tok} (h : Go.Lx.rightT x = true) (hk : x.kind = 1 ∨ x.kind = 2) : x.text ≠ [46] := fun e => by
 rw [<- right_ref] at h
 unfold refRight at h
 rcases hk with hk | hk
 . rw [if_pos hk, e] at h
   rw [show nameL [46] = false by decide] at h
   simp at h
 . rw [if_neg (by rw [hk]; decide), if_pos hk, e] at h
   rw [show refNum [46] = none by decide +kernel] at h
   cases h
structure J (σ : PS) : Prop where
 words : ∀ w, Stp.word w ∈ σ.plan -> w ≠ [46]
 ops : ∀ p, σ.plan = .operator :: p -> opS (aheadT σ.rest).text = true
 tail : ∀ s p, σ.plan = s :: p -> Stp.operator ∉ p
def Ate (σ τ : PS) : Prop := τ.rest = σ.rest ∨ ∃ x, σ.rest = x :: τ.rest /\ x.text ≠ [46]
theorem j_then {r : List Tok} {p l : List Stp} {n : List ByteArray} {t : List Go.Tm.T} {m : Nat} (hw : ∀ w, Stp.word w ∈ p -> w ≠ [46]) (hp : Stp.operator ∉ p) (hl : ∀ w, Stp.word w ∈ l -> w ≠ [46]) (ho : ∀ q, l ++ p = .operator :: q -> opS (aheadT r).text = true) (ht : Stp.operator ∉ l.tail) (h0 : l ≠ []) : J ⟨r, l ++ p, n, t, m⟩ := by
 refine ⟨fun w h => ?_, ho, fun s q h => ?_⟩
 . rcases List.mem_append.1 h with h | h
   . exact hl w h
   . exact hw w h
 . cases l with
   | nil => exact absurd rfl h0
   | cons y l =>
     rw [List.cons_append] at h
     injection h with h1 h2
     rw [<- h2]
     intro hm
     rcases List.mem_append.1 hm with hm | hm
     . exact ht hm
     . exact hp hm
theorem j_rest {r : List Tok} {p : List Stp} {n : List ByteArray} {t : List Go.Tm.T} {m : Nat} (hw : ∀ w, Stp.word w ∈ p -> w ≠ [46]) (hp : Stp.operator ∉ p) : J ⟨r, p, n, t, m⟩ :=
 ⟨hw, fun q h => absurd (show Stp.operator ∈ p by show _ ∈ p; rw [show p = _ from h]; simp) hp, fun s q h => fun hm => hp (by rw [show p = _ from h]; simp [hm])⟩
theorem ate_tail {l : List Tok} (h : (aheadT l).kind ≠ 0 ∨ (aheadT l).text ≠ []) (hd : (aheadT l).text ≠ [46]) : ∃ x, l = x :: l.tail /\ x.text ≠ [46] := by
 obtain ⟨x, r, h1, h2, h3⟩ := ahead_cons h
 exact ⟨x, by rw [h3]; exact h1, h2 ▸ hd⟩
theorem ahead_rightT {l : List Tok} (h : Go.Lx.rightL l = true) (hk : (aheadT l).kind ≠ 0) : Go.Lx.rightT (aheadT l) = true := by
 cases l with
 | nil => exact absurd rfl hk
 | cons x r =>
   unfold Go.Lx.rightL at h
   rw [List.all_cons, Bool.and_eq_true] at h
   exact h.1
theorem keep_rest {σ τ : PS} {k num : Int} {nm : ByteArray} {n : Nat} (h : keepP σ k nm num n = .ok τ) : τ.rest = σ.rest /\ τ.plan = σ.plan := keep_out h
theorem j_step {σ τ : PS} {s : Stp} {p : List Stp} (hJ : J σ) (hp : σ.plan = s :: p) (hr : Go.Lx.rightL σ.rest = true) (h : stepP { σ with plan := p } s = .ok τ) : J τ /\ Ate σ τ := by
 have hw : ∀ w, Stp.word w ∈ p -> w ≠ [46] := fun w hm => hJ.words w (by rw [hp]; simp [hm])
 have ht := hJ.tail s p hp
 have T : ∀ l : List Stp, thenP { σ with plan := p } l = .ok τ -> (∀ w, Stp.word w ∈ l -> w ≠ [46]) -> (∀ q, l ++ p = .operator :: q -> opS (aheadT σ.rest).text = true) -> Stp.operator ∉ l.tail -> l ≠ [] -> J τ /\ Ate σ τ := fun l h h1 h2 h3 h4 => by
   cases h
   exact ⟨j_then hw ht h1 h2 h3 h4, .inl rfl⟩
 have S : τ = { σ with plan := p } -> J τ /\ Ate σ τ := fun e => by
   subst e
   exact ⟨j_rest hw ht, .inl rfl⟩
 have K : ∀ {σ' : PS} {k num : Int} {nm : ByteArray} {n : Nat}, keepP σ' k nm num n = .ok τ -> σ'.plan = p -> (σ'.rest = σ.rest ∨ ∃ x, σ.rest = x :: σ'.rest /\ x.text ≠ [46]) -> J τ /\ Ate σ τ := fun {σ' k num nm n} h h1 h2 => by
   obtain ⟨e1, e2⟩ := keep_rest h
   obtain ⟨r, q, n9, t9, m9⟩ := τ
   dsimp only at e1 e2
   rw [h1] at e2
   subst e2
   refine ⟨j_rest hw ht, ?_⟩
   unfold Ate
   rw [show (PS.mk r q n9 t9 m9).rest = σ'.rest from e1]
   exact h2
 cases s with
 | seq => exact T _ h (by simp) (by simp) (by simp) (by simp)
 | more =>
   rw [stepP] at h
   split at h
   . exact T _ h (by simp) (by simp) (by simp) (by simp)
   . exact S (by cases h; rfl)
 | single =>
   rw [stepP] at h
   unfold singleP at h
   dsimp only at h
   repeat' split at h
   all_goals exact T _ h (by simp) (by simp) (by simp) (by simp)
 | oper =>
   rw [stepP] at h
   split at h
   . exact T _ h (by simp) (by simp) (by simp) (by simp)
   . split at h
     . rename_i ho
       exact T _ h (by simp) (fun _ _ => ho) (by simp) (by simp)
     . exact S (by cases h; rfl)
 | appl => exact T _ h (by simp) (by simp) (by simp) (by simp)
 | args =>
   rw [stepP] at h
   split at h
   . exact T _ h (by simp) (by simp) (by simp) (by simp)
   . exact S (by cases h; rfl)
 | simple =>
   rw [stepP] at h
   unfold simpleP at h
   dsimp only at h
   split at h
   . rename_i hk
     have h0 : (aheadT σ.rest).kind ≠ 0 := by rw [show (aheadT σ.rest).kind = 2 from hk]; decide
     exact K h rfl (.inr (ate_tail (.inl h0) (dot_no (ahead_rightT hr h0) (.inr hk))))
   . split at h
     . rename_i hk
       have h0 : (aheadT σ.rest).kind ≠ 0 := by rw [show (aheadT σ.rest).kind = 1 from hk]; decide
       exact K h rfl (.inr (ate_tail (.inl h0) (dot_no (ahead_rightT hr h0) (.inl hk))))
     . split at h
       . exact T _ h (by simp) (by simp) (by simp) (by simp)
       . split at h
         . exact T _ h (by simp) (by simp) (by simp) (by simp)
         . cases h
 | name =>
   rw [stepP] at h
   split at h
   . rename_i hk
     have h0 : (aheadT σ.rest).kind ≠ 0 := by rw [show (aheadT σ.rest).kind = 1 from hk]; decide
     cases h
     exact ⟨j_rest hw ht, .inr (ate_tail (.inl h0) (dot_no (ahead_rightT hr h0) (.inl hk)))⟩
   . cases h
 | operator =>
   have ho := hJ.ops p hp
   rw [stepP] at h
   split at h
   . rename_i hk
     have h0 : (aheadT σ.rest).kind ≠ 0 := by rw [show (aheadT σ.rest).kind = 4 from hk]; decide
     cases h
     refine ⟨j_rest hw ht, .inr (ate_tail (.inl h0) fun e => ?_)⟩
     rw [e] at ho
     exact absurd ho (by decide)
   . cases h
 | fin =>
   rw [stepP] at h
   split at h
   . exact S (by cases h; rfl)
   . cases h
 | word w =>
   have h9 := hJ.words w (by rw [hp]; simp)
   rw [stepP] at h
   unfold wordP at h
   split at h
   . rename_i hk
     have hk2 : (aheadT σ.rest).text = w := hk
     cases h
     by_cases h0 : w = []
     . cases hs : σ.rest with
       | nil => exact ⟨j_rest hw ht, .inl (by show ([] : List Tok).tail = σ.rest; rw [hs]; rfl)⟩
       | cons x r =>
         refine ⟨j_rest hw ht, .inr ⟨x, hs, ?_⟩⟩
         rw [hs] at hk2
         rw [show x.text = w from hk2]
         exact h9
     . exact ⟨j_rest hw ht, .inr (ate_tail (.inr (by rw [hk2]; exact h0)) (by rw [hk2]; exact h9))⟩
   . cases h
 | made k n =>
   rw [stepP] at h
   split at h
   . exact K h rfl (.inl rfl)
   . exact K h rfl (.inl rfl)
theorem j_0 (l : List Tok) : J (σ0 l) := by
 refine ⟨fun w h => ?_, fun p h => ?_, fun s p h => ?_⟩
 . unfold σ0 at h; simp at h
 . unfold σ0 at h; simp at h
 . unfold σ0 at h; simp at h; rw [<- h.2]; simp
theorem ends_nodot {σ τ : PS} (h : Ends σ (.ok τ)) (hJ : J σ) (hr : Go.Lx.rightL σ.rest = true) : ∀ x ∈ σ.rest, x.text = [46] -> x ∈ τ.rest := by
 generalize ho : Out.ok τ = o at h
 induction h with
 | done σ h => cases ho; exact fun x hx _ => hx
 | step hp h _ ih =>
   rename_i σ2 υ o2 s2 p2 _
   obtain ⟨h1, h2⟩ := j_step hJ hp hr h
   have hr2 : Go.Lx.rightL υ.rest = true := by
     rcases h2 with e | ⟨x, e, _⟩
     . rw [e]; exact hr
     . rw [e] at hr
       unfold Go.Lx.rightL at hr ⊢
       rw [List.all_cons, Bool.and_eq_true] at hr
       exact hr.2
   intro x hx he
   refine ih h1 hr2 ho x ?_ he
   rcases h2 with e | ⟨y, e, hy⟩
   . rw [e]; exact hx
   . rw [e] at hx
     rcases List.mem_cons.1 hx with rfl | hx
     . exact absurd he hy
     . exact hx
 | stop hp h => cases ho
theorem fin_rest {σ τ : PS} (h : Ends σ (.ok τ)) (hf : σ.plan.getLast? = some .fin) : τ.rest = [] := by
 generalize ho : Out.ok τ = o at h
 induction h with
 | done σ h => cases ho; rw [h] at hf; simp at hf
 | step hp h g ih =>
   rename_i σ υ o s p
   obtain ⟨l, h1, _⟩ := step_kept h
   simp only at h1
   rw [hp] at hf
   cases p with
   | nil =>
     simp at hf
     subst hf
     rw [stepP] at h
     split at h
     . rename_i hr
       cases h
       cases g with
       | done => cases ho; exact hr
       | step hp2 => cases hp2
       | stop hp2 => cases ho
     . cases h
   | cons y q =>
     refine ih ?_ ho
     rw [h1, List.getLast?_append]
     rw [List.getLast?_cons_cons] at hf
     rw [hf]; rfl
 | stop hp h => cases ho
theorem told_nodot {l : List Tok} {t : Go.Tm.T} (h : Told l t 0) : ∀ x ∈ l, x.text ≠ [46] := fun x hx e => by
 generalize hn : (0 : Nat) = n at h
 cases h with
 | ok hr _ g _ _ =>
   have h1 := ends_nodot g (j_0 l) hr x hx e
   rw [fin_rest g rfl] at h1
   cases h1
 | bad _ _ g he => rcases ends_bad g with h | h <;> omega
 | both _ _ _ g => rcases ends_bad g with h | h <;> omega
 | wrong => omega
 | deep => omega
 | great => omega
 | limit => omega
theorem toks_nodot {t : Go.Tm.T} (h : Go.Proofs.YticjidkomfnihaaGreatDoor.rightT t = true) : ∀ x ∈ toksT t, x.text ≠ [46] := told_nodot (told_back h)
end Go.Proofs.YticjidkomfnihaaGreatDoor.Pa
namespace Go.Proofs.YticjidkomfnihaaGreatDoor.Pg
open Go.Lx
def cutL : List Tok -> List (List Tok)
 | [] => [[]]
 | x :: l => if x.text = [46] then [] :: cutL l else match cutL l with
   | [] => [[x]]
   | c :: cs => (x :: c) :: cs
theorem cut_ne : ∀ l : List Tok, cutL l ≠ []
 | [] => by unfold cutL; simp
 | x :: l => by
   unfold cutL
   split
   . simp
   . split <;> simp
def glue (c : List Tok) : List (List Tok) -> List (List Tok)
 | [] => [c]
 | x :: xs => (c ++ x) :: xs
theorem glue_nil {L : List (List Tok)} (h : L ≠ []) : glue [] L = L := by
 cases L with
 | nil => exact absurd rfl h
 | cons x xs => rfl
def spanL (l : List Tok) (x : Nat × Nat) : List Tok := (l.take x.2).drop x.1
theorem span_len {l : List Tok} {x : Nat × Nat} (h : x.2 <= l.length) : (spanL l x).length = x.2 - x.1 := by
 unfold spanL
 rw [List.length_drop, List.length_take]; omega
theorem span_nil (l : List Tok) (k : Nat) : spanL l (k, k) = [] := by
 unfold spanL
 rw [List.drop_eq_nil_iff, List.length_take]; omega
theorem span_snoc {l : List Tok} {a k : Nat} (_ : a <= k) (hk : k < l.length) : spanL l (a, k + 1) = spanL l (a, k) ++ [l.getD k ⟨0, [], 0⟩] := by
 unfold spanL
 have e : l.take (k + 1) = l.take k ++ [l.getD k ⟨0, [], 0⟩] := by
   rw [List.take_succ_eq_append_getElem hk, List.getD_eq_getElem?_getD, List.getElem?_eq_getElem hk]; rfl
 dsimp only
 rw [e, List.drop_append_of_le_length (by rw [List.length_take]; omega)]
theorem span_get {l : List Tok} {x : Nat × Nat} {j : Nat} (_ : x.2 <= l.length) (hj : j < x.2 - x.1) : (spanL l x).getD j ⟨0, [], 0⟩ = l.getD (x.1 + j) ⟨0, [], 0⟩ := by
 unfold spanL
 rw [List.getD_eq_getElem?_getD, List.getElem?_drop, List.getElem?_take_of_lt (by omega), List.getD_eq_getElem?_getD]
def CutAt (l : List Tok) (k a : Nat) (sp : List (Nat × Nat)) : Prop := cutL l = sp.map (spanL l) ++ glue (spanL l (a, k)) (cutL (l.drop k))
theorem cut_start (l : List Tok) : CutAt l 0 0 [] := by
 unfold CutAt
 rw [span_nil, List.drop_zero, glue_nil (cut_ne l)]; rfl
theorem drop_cons {l : List Tok} {k : Nat} (hk : k < l.length) : l.drop k = l.getD k ⟨0, [], 0⟩ :: l.drop (k + 1) := by
 rw [List.drop_eq_getElem_cons hk, List.getD_eq_getElem?_getD, List.getElem?_eq_getElem hk]; rfl
theorem cut_dot {l : List Tok} {k a : Nat} {sp : List (Nat × Nat)} (h : CutAt l k a sp) (hk : k < l.length) (hd : (l.getD k ⟨0, [], 0⟩).text = [46]) : CutAt l (k + 1) (k + 1) (sp ++ [(a, k)]) := by
 unfold CutAt at h ⊢
 rw [h, drop_cons hk, cutL, if_pos hd, span_nil, glue_nil (cut_ne _), List.map_append]
 simp [glue]
theorem cut_not {l : List Tok} {k a : Nat} {sp : List (Nat × Nat)} (h : CutAt l k a sp) (ha : a <= k) (hk : k < l.length) (hd : (l.getD k ⟨0, [], 0⟩).text ≠ [46]) : CutAt l (k + 1) a sp := by
 unfold CutAt at h ⊢
 rw [h, drop_cons hk, cutL, if_neg hd, span_snoc ha hk]
 cases hc : cutL (l.drop (k + 1)) with
 | nil => exact absurd hc (cut_ne _)
 | cons c cs => simp [glue]
theorem cut_end {l : List Tok} {a : Nat} {sp : List (Nat × Nat)} (h : CutAt l l.length a sp) : (sp ++ [(a, l.length)]).map (spanL l) = cutL l := by
 unfold CutAt at h
 rw [h, List.drop_length, cutL, List.map_append]
 simp [glue]
end Go.Proofs.YticjidkomfnihaaGreatDoor.Pg
namespace Go.Proofs.YticjidkomfnihaaGreatDoor.Pg
open Go.Tm Go.Lx Go.Proofs.YticjidkomfnihaaGreatDoor.Pa
structure D where
 name : ByteArray
 label : ByteArray
 n : Int
structure Df where
 name : ByteArray
 t : Go.Tm.T
structure P where
 ins : List D
 cells : List D
 defs : List Df
 body : Go.Tm.T
def dot : Tok := mTok [46]
def kIn : Tok := kTok [105, 110, 112, 117, 116]
def kCell : Tok := kTok [99, 101, 108, 108]
def kDef : Tok := kTok [100, 101, 102]
def nm (s : ByteArray) : Tok := nTok s.data.toList
def inL (d : D) : List Tok := [kIn, nm d.name, mTok [58], nm d.label]
def cellL (d : D) : List Tok := [kCell, nm d.name, mTok [58], nm d.label, mTok [61], dTok d.n]
def defL (d : Df) : List Tok := kDef :: nm d.name :: mTok [61] :: toksT d.t
def pieces (p : P) : List (List Tok) := p.ins.map inL ++ (p.cells.map cellL ++ p.defs.map defL)
def linesL (l : List (List Tok)) (b : List Tok) : List Tok := l.flatMap (· ++ [dot]) ++ b
def progL (p : P) : List Tok := linesL (pieces p) (toksT p.body)
def okD (most : Int) (d : D) : Prop := wordB d.name = true /\ wordB d.label = true /\ 0 <= d.n /\ d.n < most
def okDf (d : Df) : Prop := wordB d.name = true /\ d.t.kind = 3 /\ Go.Proofs.YticjidkomfnihaaGreatDoor.rightT d.t = true
structure Sound (p : P) : Prop where
 li : p.ins.length <= 32
 lc : p.cells.length <= 32
 ld : p.defs.length <= 32
 ins : ∀ d ∈ p.ins, okD 1 d
 cells : ∀ d ∈ p.cells, okD 2147483648 d
 defs : ∀ d ∈ p.defs, okDf d
 body : Go.Proofs.YticjidkomfnihaaGreatDoor.rightT p.body = true
theorem cut_plain : ∀ {c : List Tok}, (∀ x ∈ c, x.text ≠ [46]) -> cutL c = [c]
 | [], _ => rfl
 | x :: c, h => by
   unfold cutL
   rw [if_neg (h x (by simp)), cut_plain (fun y hy => h y (by simp [hy]))]
theorem cut_at : ∀ {c : List Tok} (l : List Tok), (∀ x ∈ c, x.text ≠ [46]) -> cutL (c ++ dot :: l) = c :: cutL l
 | [], l, _ => by
   rw [List.nil_append]
   show cutL (dot :: l) = _
   rw [cutL, if_pos (show dot.text = [46] from rfl)]
 | x :: c, l, h => by
   rw [List.cons_append, cutL, if_neg (h x (by simp)), cut_at l (fun y hy => h y (by simp [hy]))]
theorem cut_lines (b : List Tok) (hb : ∀ x ∈ b, x.text ≠ [46]) : ∀ (l : List (List Tok)), (∀ c ∈ l, ∀ x ∈ c, x.text ≠ [46]) -> cutL (linesL l b) = l ++ [b]
 | [], _ => cut_plain hb
 | c :: l, h => by
   have ih := cut_lines b hb l (fun c hc => h c (by simp [hc]))
   unfold linesL at ih ⊢
   rw [List.flatMap_cons, List.append_assoc, List.append_assoc, List.singleton_append, cut_at _ (h c (by simp)), ih]
   rfl
theorem nm_nodot {s : ByteArray} (h : wordB s = true) : (nm s).text ≠ [46] := fun e => by
 rw [wordB_iff] at h
 have h1 := h.1
 unfold nameB at h1
 rw [show s.data.toList = [46] from e] at h1
 exact absurd h1 (by decide)
theorem d_nodot {n : Int} (h : 0 <= n) (h2 : n < 2147483648) : (dTok n).text ≠ [46] := dot_no (d_right h (by omega)) (.inr rfl)
theorem in_nodot {d : D} {m : Int} (h : okD m d) : ∀ x ∈ inL d, x.text ≠ [46] := by
 intro x hx
 unfold inL at hx
 simp only [List.mem_cons, List.not_mem_nil, or_false] at hx
 rcases hx with rfl | rfl | rfl | rfl
 . decide
 . exact nm_nodot h.1
 . decide
 . exact nm_nodot h.2.1
theorem cell_nodot {d : D} (h : okD 2147483648 d) : ∀ x ∈ cellL d, x.text ≠ [46] := by
 intro x hx
 unfold cellL at hx
 simp only [List.mem_cons, List.not_mem_nil, or_false] at hx
 rcases hx with rfl | rfl | rfl | rfl | rfl | rfl
 . decide
 . exact nm_nodot h.1
 . decide
 . exact nm_nodot h.2.1
 . decide
 . exact d_nodot h.2.2.1 h.2.2.2
theorem def_nodot {d : Df} (h : okDf d) : ∀ x ∈ defL d, x.text ≠ [46] := by
 intro x hx
 unfold defL at hx
 simp only [List.mem_cons] at hx
 rcases hx with rfl | rfl | rfl | hx
 . decide
 . exact nm_nodot h.1
 . decide
 . exact toks_nodot h.2.2 x hx
theorem pieces_nodot {p : P} (h : Sound p) : ∀ c ∈ pieces p, ∀ x ∈ c, x.text ≠ [46] := by
 intro c hc
 unfold pieces at hc
 rcases List.mem_append.1 hc with hc | hc
 . obtain ⟨d, hd, rfl⟩ := List.mem_map.1 hc
   exact in_nodot (h.ins d hd)
 . rcases List.mem_append.1 hc with hc | hc
   . obtain ⟨d, hd, rfl⟩ := List.mem_map.1 hc
     exact cell_nodot (h.cells d hd)
   . obtain ⟨d, hd, rfl⟩ := List.mem_map.1 hc
     exact def_nodot (h.defs d hd)
theorem cut_prog {p : P} (h : Sound p) : cutL (progL p) = pieces p ++ [toksT p.body] := cut_lines _ (toks_nodot h.body) _ (pieces_nodot h)
inductive Fm
 | nm | num
 | tx (s : List UInt8)
def isF (x : Tok) : Fm -> Bool
 | .nm => x.kind == 1
 | .num => x.kind == 2
 | .tx s => x.kind != 1 && x.kind != 2 && x.text == s
def fitsF : List Tok -> List Fm -> Bool
 | [], [] => true
 | x :: l, f :: fs => isF x f && fitsF l fs
 | _, _ => false
def tx (l : List Tok) (i : Nat) : ByteArray := txB (l.getD i ⟨0, [], 0⟩).text
noncomputable def tell (l : List Tok) : Go.Tm.T × Nat := ⟨(told_some l).choose, (told_some l).choose_spec.choose⟩
theorem tell_told (l : List Tok) : Pa.Told l (tell l).1 (tell l).2 := (told_some l).choose_spec.choose_spec
theorem tell_of {l : List Tok} {t : Go.Tm.T} {n : Nat} (h : Pa.Told l t n) : tell l = (t, n) := by
 obtain ⟨h1, h2⟩ := told_one (tell_told l) h
 exact Prod.ext h1 h2
noncomputable def readOne (p : P) (l : List Tok) : P ⊕ Nat := match l with
 | [] => .inr 2
 | x :: r =>
   if x.text = [105, 110, 112, 117, 116] then
     if fitsF r [.nm, .tx [58], .nm] = true /\ p.cells = [] /\ p.defs = [] then
       if p.ins.length = 32 then .inr 1 else .inl { p with ins := p.ins ++ [⟨tx r 0, tx r 2, 0⟩] }
     else .inr 2
   else if x.text = [99, 101, 108, 108] then
     if fitsF r [.nm, .tx [58], .nm, .tx [61], .num] = true /\ p.defs = [] then
       if p.cells.length = 32 then .inr 1 else .inl { p with cells := p.cells ++ [⟨tx r 0, tx r 2, (r.getD 4 ⟨0, [], 0⟩).num⟩] }
     else .inr 2
   else if x.text = [100, 101, 102] then
     if fitsF (r.take 2) [.nm, .tx [61]] = true then
       if (tell (r.drop 2)).2 ≠ 0 then .inr (tell (r.drop 2)).2
       else if (tell (r.drop 2)).1.kind ≠ 3 then .inr 2
       else if p.defs.length = 32 then .inr 1 else .inl { p with defs := p.defs ++ [⟨tx r 0, (tell (r.drop 2)).1⟩] }
     else .inr 2
   else .inr 2
noncomputable def readAll : P -> List (List Tok) -> P ⊕ Nat
 | p, [] => .inl p
 | p, c :: cs => match readOne p c with
   | .inl q => readAll q cs
   | .inr e => .inr e
def P0 : P := ⟨[], [], [], T0⟩
noncomputable def progT (l : List Tok) : P ⊕ Nat :=
 if 96 < (cutL l).length - 1 then .inr 1
 else match readAll P0 (cutL l).dropLast with
   | .inr e => .inr e
   | .inl p => if (tell ((cutL l).getLastD [])).2 ≠ 0 then .inr (tell ((cutL l).getLastD [])).2 else .inl { p with body := (tell ((cutL l).getLastD [])).1 }
theorem readAll_app : ∀ (l m : List (List Tok)) {p q : P}, readAll p l = .inl q -> readAll p (l ++ m) = readAll q m
 | [], m, p, q, h => by cases h; rfl
 | c :: l, m, p, q, h => by
   rw [List.cons_append, readAll]
   rw [readAll] at h
   cases h1 : readOne p c with
   | inl r => rw [h1] at h; exact readAll_app l m h
   | inr e => rw [h1] at h; cases h
theorem tx_nm (s : ByteArray) : txB (nm s).text = s := txB_data s
theorem read_ins : ∀ (l : List D) (p : P), (∀ d ∈ l, okD 1 d) -> p.cells = [] -> p.defs = [] -> p.ins.length + l.length <= 32 -> readAll p (l.map inL) = .inl { p with ins := p.ins ++ l }
 | [], p, _, _, _, _ => by rw [List.map_nil, readAll, List.append_nil]
 | d :: l, p, h, hc, hd, hl => by
   rw [List.length_cons] at hl
   obtain ⟨_, _, h3, h4⟩ := h d (by simp)
   have e0 : (⟨d.name, d.label, 0⟩ : D) = d := by
     have : d.n = 0 := by omega
     cases d; simp at this; rw [this]
   have e1 : readOne p (inL d) = .inl { p with ins := p.ins ++ [d] } := by
     unfold inL readOne
     dsimp only
     rw [if_pos (show kIn.text = [105, 110, 112, 117, 116] from rfl), if_pos ⟨rfl, hc, hd⟩, if_neg (by omega)]
     show (Sum.inl { p with ins := p.ins ++ [(⟨txB (nm d.name).text, txB (nm d.label).text, 0⟩ : D)] } : P ⊕ Nat) = _
     rw [tx_nm, tx_nm, e0]
   rw [List.map_cons, readAll, e1]
   show readAll { p with ins := p.ins ++ [d] } (l.map inL) = _
   rw [read_ins l { p with ins := p.ins ++ [d] } (fun x hx => h x (by simp [hx])) hc hd (by simp; omega)]
   simp
theorem read_cells : ∀ (l : List D) (p : P), (∀ d ∈ l, okD 2147483648 d) -> p.defs = [] -> p.cells.length + l.length <= 32 -> readAll p (l.map cellL) = .inl { p with cells := p.cells ++ l }
 | [], p, _, _, _ => by rw [List.map_nil, readAll, List.append_nil]
 | d :: l, p, h, hd, hl => by
   rw [List.length_cons] at hl
   have e1 : readOne p (cellL d) = .inl { p with cells := p.cells ++ [d] } := by
     unfold cellL readOne
     dsimp only
     rw [if_neg (by decide), if_pos (show kCell.text = [99, 101, 108, 108] from rfl), if_pos ⟨rfl, hd⟩, if_neg (by omega)]
     show (Sum.inl { p with cells := p.cells ++ [(⟨txB (nm d.name).text, txB (nm d.label).text, d.n⟩ : D)] } : P ⊕ Nat) = _
     rw [tx_nm, tx_nm]
   rw [List.map_cons, readAll, e1]
   show readAll { p with cells := p.cells ++ [d] } (l.map cellL) = _
   rw [read_cells l { p with cells := p.cells ++ [d] } (fun x hx => h x (by simp [hx])) hd (by simp; omega)]
   simp
theorem read_defs : ∀ (l : List Df) (p : P), (∀ d ∈ l, okDf d) -> p.defs.length + l.length <= 32 -> readAll p (l.map defL) = .inl { p with defs := p.defs ++ l }
 | [], p, _, _ => by rw [List.map_nil, readAll, List.append_nil]
 | d :: l, p, h, hl => by
   rw [List.length_cons] at hl
   obtain ⟨_, h2, h3⟩ := h d (by simp)
   have et := tell_of (told_back h3)
   have e1 : readOne p (defL d) = .inl { p with defs := p.defs ++ [d] } := by
     unfold defL readOne
     dsimp only
     rw [if_neg (by decide), if_neg (by decide), if_pos (show kDef.text = [100, 101, 102] from rfl)]
     show (if fitsF [nm d.name, mTok [61]] [.nm, .tx [61]] = true then if (tell (toksT d.t)).2 ≠ 0 then Sum.inr (tell (toksT d.t)).2 else if (tell (toksT d.t)).1.kind ≠ 3 then Sum.inr 2 else if p.defs.length = 32 then Sum.inr 1 else Sum.inl { p with defs := p.defs ++ [(⟨txB (nm d.name).text, (tell (toksT d.t)).1⟩ : Df)] } else Sum.inr 2 : P ⊕ Nat) = _
     rw [et, if_pos (show fitsF [nm d.name, mTok [61]] [.nm, .tx [61]] = true from rfl), if_neg (by simp), if_neg (by simp [h2]), if_neg (by omega), tx_nm]
   rw [List.map_cons, readAll, e1]
   show readAll { p with defs := p.defs ++ [d] } (l.map defL) = _
   rw [read_defs l { p with defs := p.defs ++ [d] } (fun x hx => h x (by simp [hx])) (by simp; omega)]
   simp
theorem prog_back {p : P} (h : Sound p) : progT (progL p) = .inl p := by
 have h1 := h.li
 have h2 := h.lc
 have h3 := h.ld
 have hn : (pieces p).length <= 96 := by unfold pieces; simp; omega
 have hr : readAll P0 (pieces p) = .inl { p with body := T0 } := by
   unfold pieces
   rw [readAll_app _ _ (read_ins p.ins P0 h.ins rfl rfl (by show 0 + _ <= _; omega))]
   rw [readAll_app _ _ (read_cells p.cells _ h.cells rfl (by show 0 + _ <= _; omega))]
   rw [read_defs p.defs _ h.defs (by show 0 + _ <= _; omega)]
   rfl
 unfold progT
 rw [cut_prog h]
 rw [if_neg (by simp; omega), List.dropLast_concat, hr, List.getLastD_concat, tell_of (told_back h.body)]
 dsimp only
 rw [if_neg (by simp)]
def linesP (p : P) : List (List Tok) := (pieces p).map (· ++ [dot]) ++ [toksT p.body]
def lineS (c : UInt8) (l : List Tok) : List UInt8 := printL l ++ [c]
def textL (c : UInt8) (p : P) : List UInt8 := (linesP p).flatMap (lineS c)
theorem lines_flat (p : P) : (linesP p).flatten = progL p := by
 unfold linesP progL linesL
 rw [List.flatten_append, List.flatMap_def]
 simp
theorem lex_lines {c : UInt8} (hc : c = 10 ∨ c = 32) : ∀ (ls : List (List Tok)), (∀ l ∈ ls, l ≠ [] /\ Go.Lx.rightL l = true) -> lexL (ls.flatMap (lineS c)) = some ls.flatten
 | [], _ => rfl
 | l :: ls, h => by
   have he : ends c := by rcases hc with rfl | rfl <;> exact ⟨by decide, by decide, by decide, by decide⟩
   obtain ⟨h1, h2⟩ := h l (by simp)
   rw [List.flatMap_cons]
   unfold lineS
   rw [List.append_assoc, List.singleton_append, lex_print c he _ l h1 h2, lexL_blank c hc]
   have ih := lex_lines hc ls (fun x hx => h x (by simp [hx]))
   unfold lineS at ih
   rw [ih]
   simp
theorem r_dot : Go.Lx.rightL [dot] = true := by decide +kernel
theorem r_in : Go.Lx.rightT kIn = true := by decide +kernel
theorem r_cell : Go.Lx.rightT kCell = true := by decide +kernel
theorem r_def : Go.Lx.rightT kDef = true := by decide +kernel
theorem r_58 : Go.Lx.rightT (mTok [58]) = true := by decide +kernel
theorem r_61 : Go.Lx.rightT (mTok [61]) = true := by decide +kernel
theorem in_right {d : D} {m : Int} (h : okD m d) : Go.Lx.rightL (inL d) = true := by
 have h1 : Go.Lx.rightT (nm d.name) = true := n_right h.1
 have h2 : Go.Lx.rightT (nm d.label) = true := n_right h.2.1
 unfold inL Go.Lx.rightL
 simp only [List.all_cons, List.all_nil, r_in, r_58, h1, h2, Bool.and_self]
theorem cell_right {d : D} (h : okD 2147483648 d) : Go.Lx.rightL (cellL d) = true := by
 have h1 : Go.Lx.rightT (nm d.name) = true := n_right h.1
 have h2 : Go.Lx.rightT (nm d.label) = true := n_right h.2.1
 have h3 : Go.Lx.rightT (dTok d.n) = true := d_right h.2.2.1 (by have := h.2.2.2; omega)
 unfold cellL Go.Lx.rightL
 simp only [List.all_cons, List.all_nil, r_cell, r_58, r_61, h1, h2, h3, Bool.and_self]
theorem def_right {d : Df} (h : okDf d) : Go.Lx.rightL (defL d) = true := by
 have h1 : Go.Lx.rightT (nm d.name) = true := n_right h.1
 have h2 := toks_right (rt_parts h.2.2).1
 unfold Go.Lx.rightL at h2
 unfold defL Go.Lx.rightL
 simp only [List.all_cons, r_def, r_61, h1, h2, Bool.and_self]
theorem pieces_right {p : P} (h : Sound p) : ∀ c ∈ pieces p, Go.Lx.rightL c = true := by
 intro c hc
 unfold pieces at hc
 rcases List.mem_append.1 hc with hc | hc
 . obtain ⟨d, hd, rfl⟩ := List.mem_map.1 hc
   exact in_right (h.ins d hd)
 . rcases List.mem_append.1 hc with hc | hc
   . obtain ⟨d, hd, rfl⟩ := List.mem_map.1 hc
     exact cell_right (h.cells d hd)
   . obtain ⟨d, hd, rfl⟩ := List.mem_map.1 hc
     exact def_right (h.defs d hd)
theorem lines_right {p : P} (h : Sound p) : ∀ l ∈ linesP p, l ≠ [] /\ Go.Lx.rightL l = true := by
 intro l hl
 unfold linesP at hl
 rcases List.mem_append.1 hl with hl | hl
 . obtain ⟨c, hc, rfl⟩ := List.mem_map.1 hl
   exact ⟨by simp, right_app (pieces_right h c hc) r_dot⟩
 . rw [List.mem_singleton] at hl
   subst hl
   exact ⟨toks_ne (rt_parts h.body).1, toks_right (rt_parts h.body).1⟩
theorem lex_text {c : UInt8} (hc : c = 10 ∨ c = 32) {p : P} (h : Sound p) : lexL (textL c p) = some (progL p) := by
 unfold textL
 rw [lex_lines hc _ (lines_right h), lines_flat]
/-! no token has a line feed -/
theorem runL_full {f : UInt8 -> Bool} : ∀ {s : List UInt8}, runL f s = s.length -> s.all f = true
 | [], _ => rfl
 | c :: r, h => by
   unfold runL at h
   split at h
   . rename_i hf
     rw [List.all_cons, hf, runL_full (s := r) (by simpa using h)]; rfl
   . simp at h
def blank (c : UInt8) : UInt8 := if c = 10 then 32 else c
/-! how long it is -/
theorem lines_len (c : UInt8) : ∀ (ls : List (List Tok)), (∀ l ∈ ls, l ≠ []) -> ((ls.flatMap (lineS c)).length : Int) = len2 ls.flatten
 | [], _ => rfl
 | l :: ls, h => by
   rw [List.flatMap_cons, List.flatten_cons, len2_app, <- lines_len c ls (fun x hx => h x (by simp [hx])), <- print_len2 l (h l (by simp))]
   unfold lineS
   simp only [List.length_append, List.length_cons, List.length_nil]
   omega
theorem text_len (c : UInt8) {p : P} (h : Go.Proofs.YticjidkomfnihaaGreatDoor.rightT p.body = true) : ((textL c p).length : Int) = len2 (progL p) := by
 unfold textL
 rw [lines_len c _ ?_, lines_flat]
 intro l hl
 unfold linesP at hl
 rcases List.mem_append.1 hl with hl | hl
 . obtain ⟨c, hc, rfl⟩ := List.mem_map.1 hl
   simp
 . rw [List.mem_singleton] at hl
   subst hl
   exact toks_ne (rt_parts h).1
theorem word_len {s : ByteArray} (h : wordB s = true) : (s.data.toList.length : Int) <= 16 := by
 obtain ⟨h1, h2⟩ := wordB_iff.1 h
 have h3 : nameL s.data.toList = true := h1
 have := (headRun_name h3).2.2
 omega
theorem cost_size {t : Go.Tm.T} (h : Rt t) : costT t <= 33 * (t.size : Int) := by
 have hn : ∀ {s : ByteArray}, wordB s = true -> nlen s <= 17 := fun h => by have := word_len h; unfold nlen; omega
 induction h with
 | num n h0 h1 =>
   unfold costT
   rw [toks_1, T.size, sizes, len2_cons, len2_nil]
   have := itoa_len h0 h1
   show ((Lib.itoa n).length : Int) + 1 + 0 + 4 <= _
   push_cast
   omega
 | var s h =>
   have := word_len h
   unfold costT
   rw [toks_2, T.size, sizes, len2_cons, len2_nil]
   show (s.data.toList.length : Int) + 1 + 0 + 4 <= _
   push_cast
   omega
 | fn s a h ha ia => have := hn h; have := cost_made (k := 3) (n := 1) (s := s) (b := [a]) (by decide) rfl; simp only [wk, named, costs] at this; rw [T.size, sizes, sizes]; simp at this ⊢; omega
 | app a b ha hb ia ib => have := cost_made (k := 4) (n := 2) (s := ⟨#[]⟩) (b := [a, b]) (by decide) rfl; simp only [wk, named, costs] at this; rw [T.size, sizes, sizes, sizes]; simp at this ⊢; omega
 | lt s a b h ha hb ia ib => have := hn h; have := cost_made (k := 5) (n := 2) (s := s) (b := [a, b]) (by decide) rfl; simp only [wk, named, costs] at this; rw [T.size, sizes, sizes, sizes]; simp at this ⊢; omega
 | cond a b c ha hb hc ia ib ic => have := cost_made (k := 6) (n := 3) (s := ⟨#[]⟩) (b := [a, b, c]) (by decide) rfl; simp only [wk, named, costs] at this; rw [T.size, sizes, sizes, sizes, sizes]; simp at this ⊢; omega
 | loop a b ha hb ia ib => have := cost_made (k := 7) (n := 2) (s := ⟨#[]⟩) (b := [a, b]) (by decide) rfl; simp only [wk, named, costs] at this; rw [T.size, sizes, sizes, sizes]; simp at this ⊢; omega
 | raise a ha ia => have := cost_made (k := 8) (n := 1) (s := ⟨#[]⟩) (b := [a]) (by decide) rfl; simp only [wk, named, costs] at this; rw [T.size, sizes, sizes]; simp at this ⊢; omega
 | tri s a b h ha hb ia ib => have := hn h; have := cost_made (k := 9) (n := 2) (s := s) (b := [a, b]) (by decide) rfl; simp only [wk, named, costs] at this; rw [T.size, sizes, sizes, sizes]; simp at this ⊢; omega
 | get a ha ia => have := cost_made (k := 10) (n := 1) (s := ⟨#[]⟩) (b := [a]) (by decide) rfl; simp only [wk, named, costs] at this; rw [T.size, sizes, sizes]; simp at this ⊢; omega
 | put a b ha hb ia ib => have := cost_made (k := 11) (n := 2) (s := ⟨#[]⟩) (b := [a, b]) (by decide) rfl; simp only [wk, named, costs] at this; rw [T.size, sizes, sizes, sizes]; simp at this ⊢; omega
 | op s a b h ha hb ia ib => have h9 : nlen s <= 17 := by { unfold nlen; rcases op_cases h with e | e | e | e | e <;> rw [e] <;> decide }; have := cost_made (k := 12) (n := 2) (s := s) (b := [a, b]) (by decide) rfl; simp only [wk, named, costs] at this; rw [T.size, sizes, sizes, sizes]; simp at this ⊢; omega
 | sq a b ha hb ia ib => have := cost_made (k := 13) (n := 2) (s := ⟨#[]⟩) (b := [a, b]) (by decide) rfl; simp only [wk, named, costs] at this; rw [T.size, sizes, sizes, sizes]; simp at this ⊢; omega
def sizeDs : List Df -> Nat
 | [] => 0
 | d :: l => d.t.size + sizeDs l
def sizeP (p : P) : Nat := p.body.size + sizeDs p.defs
theorem len2_flat_le {m : Int} : ∀ (ls : List (List Tok)), (∀ l ∈ ls, len2 l <= m) -> len2 (ls.flatMap (· ++ [dot])) <= (m + 2) * ls.length
 | [], _ => by simp [len2_nil]
 | l :: ls, h => by
   rw [List.flatMap_cons, len2_app, len2_app]
   have h1 := h l (by simp)
   have h2 := len2_flat_le ls (fun x hx => h x (by simp [hx]))
   have h3 : len2 [dot] = 2 := rfl
   rw [List.length_cons]
   push_cast
   rw [Int.mul_add]
   omega
theorem in_len {d : D} {m : Int} (h : okD m d) : len2 (inL d) <= 42 := by
 have h1 := word_len h.1
 have h2 := word_len h.2.1
 unfold inL
 simp only [len2_cons, len2_nil]
 show (5 : Int) + 1 + ((d.name.data.toList.length : Int) + 1 + (1 + 1 + ((d.label.data.toList.length : Int) + 1 + 0))) <= 42
 omega
theorem cell_len {d : D} (h : okD 2147483648 d) : len2 (cellL d) <= 54 := by
 have h1 := word_len h.1
 have h2 := word_len h.2.1
 have h3 := itoa_len h.2.2.1 (by have := h.2.2.2; omega)
 unfold cellL
 simp only [len2_cons, len2_nil]
 show (4 : Int) + 1 + ((d.name.data.toList.length : Int) + 1 + (1 + 1 + ((d.label.data.toList.length : Int) + 1 + (1 + 1 + (((Lib.itoa d.n).length : Int) + 1 + 0))))) <= 54
 omega
theorem defs_len : ∀ (l : List Df), (∀ d ∈ l, okDf d) -> len2 ((l.map defL).flatMap (· ++ [dot])) <= 33 * (sizeDs l : Int) + 25 * l.length
 | [], _ => by simp [len2_nil, sizeDs]
 | d :: l, h => by
   have h1 := h d (by simp)
   have h2 := word_len h1.1
   have h3 := cost_size (rt_parts h1.2.2).1
   have h4 := defs_len l (fun x hx => h x (by simp [hx]))
   rw [List.map_cons, List.flatMap_cons, len2_app, len2_app, sizeDs]
   have h5 : len2 [dot] = 2 := rfl
   have h6 : len2 (defL d) = 4 + ((d.name.data.toList.length : Int) + 1 + (2 + len2 (toksT d.t))) := by
     unfold defL
     simp only [len2_cons]
     rfl
   unfold costT at h3
   rw [List.length_cons]
   push_cast
   omega
theorem prog_len {p : P} (h : Sound p) : len2 (progL p) <= 33 * (sizeP p : Int) + 4000 := by
 have h1 := h.li
 have h2 := h.lc
 have h3 := h.ld
 have g1 := len2_flat_le (m := 42) (p.ins.map inL) (fun l hl => by obtain ⟨d, hd, rfl⟩ := List.mem_map.1 hl; exact in_len (h.ins d hd))
 have g2 := len2_flat_le (m := 54) (p.cells.map cellL) (fun l hl => by obtain ⟨d, hd, rfl⟩ := List.mem_map.1 hl; exact cell_len (h.cells d hd))
 have g3 := defs_len p.defs h.defs
 have g4 := cost_size (rt_parts h.body).1
 unfold costT at g4
 unfold progL linesL pieces
 rw [List.flatMap_append, List.flatMap_append, len2_app, len2_app, len2_app]
 rw [List.length_map] at g1 g2
 unfold sizeP
 push_cast
 omega
theorem told_cost {l : List Tok} {t : Go.Tm.T} (h : Pa.Told l t 0) : Go.Proofs.YticjidkomfnihaaGreatDoor.rightT t = true /\ costT t <= 5 * len2 l := by
 cases h with
 | ok hr _ g e ht =>
   refine ⟨ht, ?_⟩
   have hA : okA (σ0 l).plan := okA_of (by rfl)
   have h1 := g.short (fits_0 l) (by unfold σ0; exact Nat.zero_le _) (okR_right hr) hA
   have e2 : psi (σ0 l) = 5 * len2 l := by
     unfold psi σ0
     simp only [costs, nlens, Pa.pends, Pa.pend]
     omega
   rw [e, costs, e2] at h1
   have h3 := costs_nn (by assumption : List Go.Tm.T)
   omega
 | bad _ _ g => rcases ends_bad g with h | h <;> cases h
 | both _ _ _ g => rcases ends_bad g with h | h <;> cases h
theorem name_tok {x : Tok} (h : Go.Lx.rightT x = true) (hk : x.kind = 1) : wordB (txB x.text) = true := by
 rw [<- right_ref] at h
 unfold refRight at h
 rw [if_pos hk] at h
 simp only [Bool.and_eq_true, Bool.not_eq_true', decide_eq_true_eq] at h
 rw [wordB_iff]
 exact ⟨h.1.1, h.1.2⟩
theorem num_tok {x : Tok} (h : Go.Lx.rightT x = true) (hk : x.kind = 2) : 0 <= x.num /\ x.num < 2147483648 := by
 rw [<- right_ref] at h
 unfold refRight at h
 rw [if_neg (by rw [hk]; decide), if_pos hk] at h
 split at h
 . rename_i n hn
   rw [decide_eq_true_eq] at h
   unfold refNum at hn
   split at hn
   . rename_i h1
     cases hn
     have := h1.2.2.2.1
     omega
   . cases hn
 . cases h
structure SoundD (p : P) : Prop where
 li : p.ins.length <= 32
 lc : p.cells.length <= 32
 ld : p.defs.length <= 32
 ins : ∀ d ∈ p.ins, okD 1 d
 cells : ∀ d ∈ p.cells, okD 2147483648 d
 defs : ∀ d ∈ p.defs, okDf d
theorem SoundD.body {p : P} (h : SoundD p) {t : Go.Tm.T} (ht : Go.Proofs.YticjidkomfnihaaGreatDoor.rightT t = true) : Sound { p with body := t } := ⟨h.li, h.lc, h.ld, h.ins, h.cells, h.defs, ht⟩
def wgt (ls : List (List Tok)) : Int := len2 (ls.flatMap (· ++ [dot]))
theorem wgt_app (a b : List (List Tok)) : wgt (a ++ b) = wgt a + wgt b := by unfold wgt; rw [List.flatMap_append, len2_app]
theorem wgt_one (c : List Tok) : wgt [c] = len2 c + 2 := by
 unfold wgt
 rw [List.flatMap_cons, List.flatMap_nil, List.append_nil, len2_app]; rfl
def wgtP (p : P) : Int := wgt (p.ins.map inL) + (wgt (p.cells.map cellL) + wgt (p.defs.map defL))
theorem fits_3 {l : List Tok} {s : List UInt8} (h : fitsF l [.nm, .tx s, .nm] = true) : ∃ a b c, l = [a, b, c] /\ a.kind = 1 /\ b.text = s /\ c.kind = 1 := by
 match l, h with
 | [a, b, c], h =>
   simp only [fitsF, isF, Bool.and_eq_true, bne_iff_ne, ne_eq, beq_iff_eq, Bool.and_true] at h
   exact ⟨a, b, c, rfl, h.1, h.2.1.2, h.2.2⟩
 | [], h => cases h
 | [_], h => simp [fitsF] at h
 | [_, _], h => simp [fitsF] at h
 | _ :: _ :: _ :: _ :: _, h => simp [fitsF] at h
theorem fits_2 {l : List Tok} {s : List UInt8} (h : fitsF l [.nm, .tx s] = true) : ∃ a b, l = [a, b] /\ a.kind = 1 /\ b.text = s := by
 match l, h with
 | [a, b], h =>
   simp only [fitsF, isF, Bool.and_eq_true, bne_iff_ne, ne_eq, beq_iff_eq, Bool.and_true] at h
   exact ⟨a, b, rfl, h.1, h.2.2⟩
 | [], h => cases h
 | [_], h => simp [fitsF] at h
 | _ :: _ :: _ :: _, h => simp [fitsF] at h
theorem fits_5 {l : List Tok} {s u : List UInt8} (h : fitsF l [.nm, .tx s, .nm, .tx u, .num] = true) : ∃ a b c d e, l = [a, b, c, d, e] /\ a.kind = 1 /\ b.text = s /\ c.kind = 1 /\ d.text = u /\ e.kind = 2 := by
 match l, h with
 | [a, b, c, d, e], h =>
   simp only [fitsF, isF, Bool.and_eq_true, bne_iff_ne, ne_eq, beq_iff_eq, Bool.and_true] at h
   exact ⟨a, b, c, d, e, rfl, h.1, h.2.1.2, h.2.2.1, h.2.2.2.1.2, h.2.2.2.2⟩
 | [], h => cases h
 | [_], h => simp [fitsF] at h
 | [_, _], h => simp [fitsF] at h
 | [_, _, _], h => simp [fitsF] at h
 | [_, _, _, _], h => simp [fitsF] at h
 | _ :: _ :: _ :: _ :: _ :: _ :: _, h => simp [fitsF] at h
theorem mem_right {l : List Tok} (h : Go.Lx.rightL l = true) {x : Tok} (hx : x ∈ l) : Go.Lx.rightT x = true := by
 unfold Go.Lx.rightL at h; exact List.all_eq_true.1 h x hx
theorem all_mem {α : Type} {Q : α -> Prop} {l : List α} {x : α} (h : ∀ d ∈ l, Q d) (hx : Q x) : ∀ d ∈ l ++ [x], Q d := fun d hd => by
 rcases List.mem_append.1 hd with hd | hd
 . exact h d hd
 . rw [List.mem_singleton] at hd; subst hd; exact hx
theorem read_one {p q : P} {c : List Tok} (hr : Go.Lx.rightL c = true) (hs : SoundD p) (h : readOne p c = .inl q) : SoundD q /\ wgtP q <= wgtP p + 5 * (len2 c + 2) /\ q.body = p.body := by
 unfold readOne at h
 split at h
 . cases h
 . rename_i x r
   have hx : ∀ y ∈ r, Go.Lx.rightT y = true := fun y hy => mem_right hr (List.mem_cons_of_mem _ hy)
   split at h
   . rename_i hk
     split at h
     . rename_i hf
       split at h
       . cases h
       . rename_i h32
         obtain ⟨a, b, d, rfl, ha, hb, hd⟩ := fits_3 hf.1
         cases h
         have ok : okD 1 ⟨txB a.text, txB d.text, 0⟩ := ⟨name_tok (hx a (by simp)) ha, name_tok (hx d (by simp)) hd, Int.le_refl _, (show (0 : Int) < 1 by decide)⟩
         have e1 : inL ⟨txB a.text, txB d.text, 0⟩ = [kIn, nTok a.text, mTok [58], nTok d.text] := rfl
         have hli := hs.li
         refine ⟨⟨?_, hs.lc, hs.ld, ?_, hs.cells, hs.defs⟩, ?_, rfl⟩
         . show (p.ins ++ [_]).length <= 32
           rw [List.length_append]; simp; omega
         . exact all_mem hs.ins ok
         . show wgt ((p.ins ++ [(⟨txB a.text, txB d.text, 0⟩ : D)]).map inL) + (wgt (p.cells.map cellL) + wgt (p.defs.map defL)) <= _
           rw [List.map_append, wgt_app, List.map_cons, List.map_nil, wgt_one, e1]
           unfold wgtP
           simp only [len2_cons, len2_nil]
           rw [hk, hb]
           have z1 : kIn.text.length = 5 := rfl
           have z2 : (nTok a.text).text.length = a.text.length := rfl
           have z3 : (mTok [58]).text.length = 1 := rfl
           have z4 : (nTok d.text).text.length = d.text.length := rfl
           simp only [List.length_cons, List.length_nil]
           rw [z1, z2, z3, z4]
           omega
     . cases h
   . split at h
     . rename_i hk0 hk
       split at h
       . rename_i hf
         split at h
         . cases h
         . rename_i h32
           obtain ⟨a, b, d, e, g, rfl, ha, hb, hd, he, hg⟩ := fits_5 hf.1
           cases h
           have hn := num_tok (hx g (by simp)) hg
           have ok : okD 2147483648 ⟨txB a.text, txB d.text, g.num⟩ := ⟨name_tok (hx a (by simp)) ha, name_tok (hx d (by simp)) hd, hn.1, hn.2⟩
           have e1 : cellL ⟨txB a.text, txB d.text, g.num⟩ = [kCell, nTok a.text, mTok [58], nTok d.text, mTok [61], dTok g.num] := rfl
           have hlc := hs.lc
           refine ⟨⟨hs.li, ?_, hs.ld, hs.ins, ?_, hs.defs⟩, ?_, rfl⟩
           . show (p.cells ++ [_]).length <= 32
             rw [List.length_append]; simp; omega
           . exact all_mem hs.cells ok
           . show wgt (p.ins.map inL) + (wgt ((p.cells ++ [(⟨txB a.text, txB d.text, g.num⟩ : D)]).map cellL) + wgt (p.defs.map defL)) <= _
             rw [List.map_append, wgt_app, List.map_cons, List.map_nil, wgt_one, e1]
             unfold wgtP
             simp only [len2_cons, len2_nil]
             rw [hk, hb, he]
             have z1 : kCell.text.length = 4 := rfl
             have z2 : (nTok a.text).text.length = a.text.length := rfl
             have z3 : (mTok [58]).text.length = 1 := rfl
             have z4 : (nTok d.text).text.length = d.text.length := rfl
             have z5 : (mTok [61]).text.length = 1 := rfl
             have z6 : (dTok g.num).text.length = g.text.length := by show (Lib.itoa g.num).length = _; rw [num_text (hx g (by simp)) hg]
             simp only [List.length_cons, List.length_nil]
             rw [z1, z2, z3, z4, z5, z6]
             omega
       . cases h
     . split at h
       . rename_i hk
         split at h
         . rename_i hf
           split at h
           . cases h
           . rename_i hn
             split at h
             . cases h
             . rename_i hkind
               split at h
               . cases h
               . rename_i h32
                 have ht := tell_told (r.drop 2)
                 rw [show (tell (r.drop 2)).2 = 0 from Classical.not_not.1 hn] at ht
                 have hkind : (tell (r.drop 2)).1.kind = 3 := Classical.not_not.1 hkind
                 obtain ⟨a, b, h2, ha, hb⟩ := fits_2 hf
                 have hsp : r = a :: b :: r.drop 2 := by
                   have := List.take_append_drop 2 r
                   rw [h2] at this
                   exact this.symm
                 generalize hT : tell (r.drop 2) = T at *
                 generalize r.drop 2 = R at *
                 subst hsp
                 obtain ⟨c1, c2⟩ := told_cost ht
                 cases h
                 have ok : okDf ⟨txB a.text, T.1⟩ := ⟨name_tok (hx a (by simp)) ha, hkind, c1⟩
                 have e1 : defL ⟨txB a.text, T.1⟩ = kDef :: nTok a.text :: mTok [61] :: toksT T.1 := rfl
                 have hld := hs.ld
                 refine ⟨⟨hs.li, hs.lc, ?_, hs.ins, hs.cells, ?_⟩, ?_, rfl⟩
                 . show (p.defs ++ [_]).length <= 32
                   rw [List.length_append]; simp; omega
                 . exact all_mem hs.defs ok
                 . show wgt (p.ins.map inL) + (wgt (p.cells.map cellL) + wgt ((p.defs ++ [(⟨txB a.text, T.1⟩ : Df)]).map defL)) <= _
                   rw [List.map_append, wgt_app, List.map_cons, List.map_nil, wgt_one, e1]
                   unfold wgtP
                   simp only [len2_cons]
                   unfold costT at c2
                   rw [hk, hb]
                   have z1 : kDef.text.length = 3 := rfl
                   have z2 : (nTok a.text).text.length = a.text.length := rfl
                   have z3 : (mTok [61]).text.length = 1 := rfl
                   have z4 := len2_nn R
                   simp only [List.length_cons, List.length_nil]
                   rw [z1, z2, z3]
                   omega
         . cases h
       . cases h
def wgts : List (List Tok) -> Int
 | [] => 0
 | c :: l => (len2 c + 2) + wgts l
theorem read_all : ∀ (cs : List (List Tok)) {p q : P}, (∀ c ∈ cs, Go.Lx.rightL c = true) -> SoundD p -> readAll p cs = .inl q -> SoundD q /\ wgtP q <= wgtP p + 5 * wgts cs /\ q.body = p.body
 | [], p, q, _, hs, h => by cases h; exact ⟨hs, by unfold wgts; omega, rfl⟩
 | c :: cs, p, q, hr, hs, h => by
   rw [readAll] at h
   cases h1 : readOne p c with
   | inr e => rw [h1] at h; cases h
   | inl r =>
     rw [h1] at h
     obtain ⟨g1, g2, g3⟩ := read_one (hr c (by simp)) hs h1
     obtain ⟨k1, k2, k3⟩ := read_all cs (fun x hx => hr x (by simp [hx])) g1 h
     exact ⟨k1, by rw [wgts]; omega, k3.trans g3⟩
theorem cut_mem : ∀ (l : List Tok), ∀ c ∈ cutL l, ∀ x ∈ c, x ∈ l
 | [], c, hc, x, hx => by unfold cutL at hc; simp at hc; subst hc; cases hx
 | y :: l, c, hc, x, hx => by
   have ih := cut_mem l
   unfold cutL at hc
   split at hc
   . rcases List.mem_cons.1 hc with rfl | hc
     . cases hx
     . exact List.mem_cons_of_mem _ (ih c hc x hx)
   . split at hc
     . rw [List.mem_singleton] at hc
       subst hc
       rw [List.mem_singleton] at hx
       subst hx; simp
     . rename_i c1 cs he
       rcases List.mem_cons.1 hc with rfl | hc
       . rcases List.mem_cons.1 hx with rfl | hx
         . simp
         . exact List.mem_cons_of_mem _ (ih c1 (by rw [he]; simp) x hx)
       . exact List.mem_cons_of_mem _ (ih c (by rw [he]; simp [hc]) x hx)
theorem cut_right {l : List Tok} (h : Go.Lx.rightL l = true) : ∀ c ∈ cutL l, Go.Lx.rightL c = true := fun c hc => by
 unfold Go.Lx.rightL
 exact List.all_eq_true.2 fun x hx => mem_right h (cut_mem l c hc x hx)
theorem cut_wgts : ∀ (l : List Tok), wgts (cutL l) = len2 l + 2
 | [] => rfl
 | y :: l => by
   have ih := cut_wgts l
   unfold cutL
   split
   . rename_i hy
     rw [wgts, ih, len2_cons, hy]
     simp [len2_nil]
     omega
   . split
     . rename_i he; exact absurd he (cut_ne l)
     . rename_i c1 cs he
       rw [he, wgts] at ih
       rw [wgts, len2_cons, len2_cons]
       omega
theorem wgts_app : ∀ (a b : List (List Tok)), wgts (a ++ b) = wgts a + wgts b
 | [], b => by rw [List.nil_append, wgts]; omega
 | c :: a, b => by rw [List.cons_append, wgts, wgts, wgts_app a b]; omega
theorem wgtP_0 : wgtP P0 = 0 := rfl
theorem sound_0 : SoundD P0 := ⟨by decide, by decide, by decide, (fun _ h => by cases h), (fun _ h => by cases h), (fun _ h => by cases h)⟩
theorem prog_read {l : List Tok} {p : P} (hr : Go.Lx.rightL l = true) (h : progT l = .inl p) : Sound p /\ len2 (progL p) <= 5 * len2 l + 10 := by
 unfold progT at h
 split at h
 . cases h
 . cases h1 : readAll P0 (cutL l).dropLast with
   | inr e => rw [h1] at h; cases h
   | inl q =>
     rw [h1] at h
     dsimp only at h
     split at h
     . cases h
     . rename_i hn
       cases h
       have hR := cut_right hr
       have hlast : cutL l = (cutL l).dropLast ++ [(cutL l).getLastD []] := by
         have := List.dropLast_concat_getLast (cut_ne l)
         rw [List.getLastD_eq_getLast?, List.getLast?_eq_some_getLast (cut_ne l)]
         exact this.symm
       obtain ⟨k1, k2, k3⟩ := read_all _ (fun c hc => hR c ((List.dropLast_sublist _).subset hc)) sound_0 h1
       have ht := tell_told ((cutL l).getLastD [])
       rw [show (tell ((cutL l).getLastD [])).2 = 0 from Classical.not_not.1 hn] at ht
       obtain ⟨c1, c2⟩ := told_cost ht
       refine ⟨k1.body c1, ?_⟩
       have e1 := cut_wgts l
       rw [hlast, wgts_app] at e1
       simp only [wgts] at e1
       unfold costT at c2
       rw [wgtP_0] at k2
       have e2 : len2 (progL { q with body := (tell ((cutL l).getLastD [])).1 }) = wgtP q + len2 (toksT (tell ((cutL l).getLastD [])).1) := by
         unfold progL linesL pieces wgtP wgt
         rw [List.flatMap_append, List.flatMap_append, len2_app, len2_app, len2_app]
       rw [e2]
       omega
def okDB (most : Int) (d : D) : Bool := wordB d.name && wordB d.label && decide (0 <= d.n /\ d.n < most)
def okDfB (d : Df) : Bool := wordB d.name && (d.t.kind == 3) && Go.Proofs.YticjidkomfnihaaGreatDoor.rightT d.t
def soundB (p : P) : Bool := decide (p.ins.length <= 32 /\ p.cells.length <= 32 /\ p.defs.length <= 32) && p.ins.all (okDB 1) && p.cells.all (okDB 2147483648) && p.defs.all okDfB && Go.Proofs.YticjidkomfnihaaGreatDoor.rightT p.body
theorem okD_iff {m : Int} {d : D} : okDB m d = true ↔ okD m d := by
 unfold okDB okD
 simp only [Bool.and_eq_true, decide_eq_true_eq, and_assoc]
theorem okDf_iff {d : Df} : okDfB d = true ↔ okDf d := by
 unfold okDfB okDf
 simp only [Bool.and_eq_true, beq_iff_eq, and_assoc]
theorem sound_iff {p : P} : soundB p = true ↔ Sound p := by
 unfold soundB
 simp only [Bool.and_eq_true, decide_eq_true_eq, List.all_eq_true, okD_iff, okDf_iff]
 exact ⟨fun ⟨⟨⟨⟨⟨h1, h2, h3⟩, h4⟩, h5⟩, h6⟩, h7⟩ => ⟨h1, h2, h3, h4, h5, h6, h7⟩, fun h => ⟨⟨⟨⟨⟨h.li, h.lc, h.ld⟩, h.ins⟩, h.cells⟩, h.defs⟩, h.body⟩⟩
def rightP (p : P) : Bool := soundB p && decide ((textL 10 p).length <= 65536)
def printP (p : P) : ByteArray := if rightP p = true then X.strOf (textL 10 p) else ⟨#[]⟩
noncomputable def parseT (s : ByteArray) : P ⊕ Nat := if 65536 < s.size then .inr 1 else match lexL s.data.toList with
 | none => .inr 2
 | some l => progT l
theorem rightP_iff {p : P} : rightP p = true ↔ Sound p /\ (textL 10 p).length <= 65536 := by
 unfold rightP
 rw [Bool.and_eq_true, sound_iff, decide_eq_true_eq]
theorem parse_lex {s : ByteArray} {l : List Tok} (hs : s.size <= 65536) (h : lexL s.data.toList = some l) : parseT s = progT l := by
 unfold parseT
 rw [if_neg (by omega), h]
theorem parse_text {c : UInt8} (hc : c = 10 ∨ c = 32) {p : P} (h : Sound p) (hl : (textL c p).length <= 65536) : parseT (X.strOf (textL c p)) = .inl p := by
 rw [parse_lex (by rw [X.size_strOf]; exact hl) (by rw [X.data_strOf]; exact lex_text hc h), prog_back h]
theorem print_right {p : P} (h : rightP p = true) : printP p = X.strOf (textL 10 p) := by unfold printP; rw [if_pos h]
theorem print_wrong {p : P} (h : rightP p = false) : printP p = ⟨#[]⟩ := by unfold printP; rw [if_neg (by rw [h]; decide)]
theorem right_back {p : P} (h : rightP p = true) : parseT (printP p) = .inl p := by
 rw [print_right h]
 exact parse_text (.inl rfl) (rightP_iff.1 h).1 (rightP_iff.1 h).2
theorem parse_read {s : ByteArray} {p : P} (h : parseT s = .inl p) : Sound p /\ ((textL 10 p).length : Int) <= 10 * s.size + 10 := by
 unfold parseT at h
 split at h
 . cases h
 . split at h
   . cases h
   . rename_i l hl
     obtain ⟨h1, h2⟩ := prog_read (lexL_right _ _ (Nat.le_refl _) l hl) h
     have h3 := len2_lex _ _ (Nat.le_refl _) l hl
     have h4 : s.data.toList.length = s.size := by simp
     rw [h4] at h3
     refine ⟨h1, ?_⟩
     rw [text_len 10 h1.body]
     omega
theorem parse_right {s : ByteArray} {p : P} (h : parseT s = .inl p) (hs : s.size <= 3000) : rightP p = true := by
 obtain ⟨h1, h2⟩ := parse_read h
 exact rightP_iff.2 ⟨h1, by omega⟩
theorem readOne_err {p : P} {c : List Tok} {e : Nat} (h : readOne p c = .inr e) : e = 1 ∨ e = 2 := by
 have ht : ∀ r : List Tok, (tell r).2 ≠ 0 -> (tell r).2 = 1 ∨ (tell r).2 = 2 := fun r h0 => by
   rcases told_err (tell_told r) with ⟨h1, _⟩ | ⟨h1, _⟩ | ⟨h1, _⟩
   . exact absurd h1 h0
   . exact .inl h1
   . exact .inr h1
 unfold readOne at h
 split at h
 . cases h; exact .inr rfl
 . split at h
   . split at h
     . split at h
       . cases h; exact .inl rfl
       . cases h
     . cases h; exact .inr rfl
   . split at h
     . split at h
       . split at h
         . cases h; exact .inl rfl
         . cases h
       . cases h; exact .inr rfl
     . split at h
       . split at h
         . split at h
           . rename_i h9; cases h; exact ht _ h9
           . split at h
             . cases h; exact .inr rfl
             . split at h
               . cases h; exact .inl rfl
               . cases h
         . cases h; exact .inr rfl
       . cases h; exact .inr rfl
theorem readAll_err : ∀ {cs : List (List Tok)} {p : P} {e : Nat}, readAll p cs = .inr e -> e = 1 ∨ e = 2
 | [], _, _, h => by cases h
 | c :: cs, p, e, h => by
   rw [readAll] at h
   cases h1 : readOne p c with
   | inr e' => rw [h1] at h; cases h; exact readOne_err h1
   | inl q => rw [h1] at h; exact readAll_err h
theorem prog_err {l : List Tok} {e : Nat} (h : progT l = .inr e) : e = 1 ∨ e = 2 := by
 unfold progT at h
 split at h
 . cases h; exact .inl rfl
 . cases h1 : readAll P0 (cutL l).dropLast with
   | inr e' => rw [h1] at h; cases h; exact readAll_err h1
   | inl q =>
     rw [h1] at h
     dsimp only at h
     split at h
     . rename_i h9
       cases h
       rcases told_err (tell_told ((cutL l).getLastD [])) with ⟨h1, _⟩ | ⟨h1, _⟩ | ⟨h1, _⟩
       . exact absurd h1 h9
       . exact .inl h1
       . exact .inr h1
     . cases h
theorem parse_err {s : ByteArray} {e : Nat} (h : parseT s = .inr e) : e = 1 ∨ e = 2 := by
 unfold parseT at h
 split at h
 . cases h; exact .inl rfl
 . split at h
   . cases h; exact .inr rfl
   . exact prog_err h
end Go.Proofs.YticjidkomfnihaaGreatDoor.Pg
