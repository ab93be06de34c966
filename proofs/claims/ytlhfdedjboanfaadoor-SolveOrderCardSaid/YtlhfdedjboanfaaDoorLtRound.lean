/-
  A region that draws its order and only reads, within a round of a range over a function: one walk in the text's order serves. Condition: it holds no defer statement.
-/
import Derived.Sort.BigQuietIn
import Derived.RangeFuncNested
import Derived.StillTailTactics
namespace Go
variable {F : Fence} {n : Nat} {P : Program} {ops : Array Oper} {md : Region.Mode} {C : World → Prop}

def Oper.late (o : Oper) : Bool := match o.op with
  | .defer _ => true
  | _ => false
theorem Oper.late_no {o : Oper} (h : o.late = false) (c : Call) : o.op ≠ .defer c := fun e => by
  unfold Oper.late at h
  rw [e] at h
  cases h

theorem round_of_quiet {o : Oper} {a : Act} {K : Act → Prop} {K' : Act → World → Prop} {Q' : Exit → Act → World → Prop} {w : World} (hl : o.late = false) (hw : C w) (h : ∀ a w', C w' → K a → K' a w')
    (ha : o.askedIn F P a C) (hh : o.quietIn F n P a C K) : o.wpIn F n P a w K' Q' := by
  obtain ⟨v, h1, h2⟩ := hh
  have h3 := h1 w hw
  unfold Oper.quietAtIn at h3
  refine ⟨ha w hw, ?_⟩
  rw [Oper.semAt_eq F.round a.eval o (Oper.late_no hl)]
  generalize (execOp a.eval o).run P w = r at h3 ⊢
  rcases r with ⟨x, w'⟩ | ⟨x, w'⟩
  · cases x <;> first | exact h3.elim | skip
    all_goals simp only [Oper.quietUponIn] at h3
    all_goals simp only [Oper.uponIn]
    · obtain ⟨rfl, rfl⟩ := h3
      exact h _ _ hw h2
    · obtain ⟨rfl, rfl⟩ := h3
      exact h _ _ hw h2
    · obtain ⟨rfl, hd, hc⟩ := h3
      refine ⟨hd, hc.mono fun e w2 hq => ?_⟩
      obtain ⟨rfl, hC2⟩ := hq
      exact h _ _ hC2 h2
  · exact h3.elim

def noLate (ops : Array Oper) : Prop := ∀ (i : Nat) (o : Oper), ops[i]? = some o → o.late = false
theorem noLate_of {l : List Oper} (h : l.all (fun o => !o.late) = true) : noLate l.toArray := fun i o ho => by
  have hm : o ∈ l := by
    rw [List.getElem?_toArray] at ho
    exact List.mem_of_getElem? ho
  have := List.all_eq_true.1 h o hm
  simpa using this

theorem round_qOp {i : Nat} {a : Act} {K : Act → Prop} {K' : Act → World → Prop} {Q' : Exit → Act → World → Prop} {w : World} (hn : noLate ops) (hC : C w) (h : ∀ a w', C w' → K a → K' a w')
    (hh : qOpIn F n P ops C i K a) : wpOpIn F n P ops Q' i K' a w := by
  unfold qOpIn at hh
  unfold wpOpIn
  cases ho : ops[i]? with
  | none => rw [ho] at hh; exact h _ _ hC hh
  | some o =>
    rw [ho] at hh
    obtain ⟨ha, hh⟩ := hh
    simp only at hh ⊢
    by_cases hw : Region.wanted o (yielded ops a.tmps) = true
    · rw [if_pos hw] at hh ⊢
      exact round_of_quiet (hn i o ho) hC h ha hh
    · rw [if_neg hw] at hh ⊢
      exact ⟨ha w hC, h _ _ hC hh⟩

theorem round_any {Q : Act → Prop} {Q' : Exit → Act → World → Prop} (hn : noLate ops) (hQ : ∀ a w, C w → Q a → Q' .normal a w) : ∀ (fuel : Nat) (listed : Array Bool) (a : Act) (w : World), C w →
    wpAnyQIn F n P md ops C Q fuel listed a → wpAnyIn F n P md ops Q' fuel listed a w
  | 0, _, _, _, hw, h => ⟨h.1, hQ _ _ hw h.2⟩
  | fuel + 1, _, _, _, hw, h => ⟨fun h0 => hQ _ _ hw (h.1 h0), fun i hi => round_qOp hn hw (fun a' w' hw' hk => round_any hn hQ fuel _ a' w' hw' hk) (h.2 i hi)⟩

/-- ONE WALK OF THE TEXT's ORDER, IN A ROUND. -/
theorem wpIn_round_quiet {id : Nat} {Q : Exit → Act → World → Prop} {a : Act} {w : World} {l : List Oper} (hm : P.follows .mixedOrders = true) (hB : Region.lexB .any l.toArray = true) (hn : l.all (fun o => !o.late) = true)
    (h : wpQuietIn F n P l.toArray (fun w' => ∃ k, w' = w.drewN k) (fun a' => ∀ w', (∃ k, w' = w.drewN k) → Q .normal a' w') l a) : (Code.region id l.toArray true).wpIn F n P Q a w := by
  have hB2 := hB
  simp only [Region.lexB, Bool.and_eq_true] at hB2
  refine wpIn_region_any hm (round_any (C := fun w' => ∃ k, w' = w.drewN k) (Q := fun a' => ∀ w', (∃ k, w' = w.drewN k) → Q .normal a' w') (noLate_of hn) (fun _ w' hw' h => h w' hw') _ _ _ _ ⟨1, rfl⟩ ?_)
  have := wpAnyQIn_lex (F := F) (n := n) (P := P) (C := fun w' => ∃ k, w' = w.drewN k) (md := .any) hB2.1 l 0 (Array.replicate l.toArray.size false) a (by simp) (by simpa using hB2.2) h
  simpa using this

/-! A region that reads, then ends in operations in one forced order (a store), within a round of the wide fence. -/
section
variable {l : Nat}
theorem round_upon {o : Oper} {a : Act} {w : World} {K K' : Act → World → Prop} {Q : Exit → Act → World → Prop} (hl : o.late = false) (hK : ∀ a w, K a w → K' a w) (h : o.wp P a w K Q) : o.wpIn (Fence.wide.inRound l) n P a w K' Q := by
  refine ⟨fun _ _ => trivial, ?_⟩
  rw [Oper.semAt_eq _ a.eval o (Oper.late_no hl)]
  unfold Oper.wp at h
  generalize (execOp a.eval o).run P w = r at h ⊢
  rcases r with ⟨x, w'⟩ | ⟨x, w'⟩
  · cases x <;> simp only [Oper.upon] at h <;> simp only [Oper.uponIn] <;> first | exact hK _ _ h | exact h.elim | skip
    · refine ⟨fun e => (by cases e), CallsIn.inRound l (callsIn_wide.2 (h.mono fun e w2 hq => ?_))⟩
      cases e <;> first | exact hK _ _ hq | exact hq
    · refine ⟨fun e => (by cases e), fun c cs _ => ?_⟩
      obtain ⟨v, w2, hv, hs⟩ := h c cs
      exact ⟨v, w2, hK _ _ hv, stepsIn_wide.2 hs⟩
  · cases x <;> simp only [Oper.upon] at h <;> simp only [Oper.uponIn] <;> first | exact h | exact h.elim
theorem round_of_any {Q : Exit → Act → World → Prop} (hn : noLate ops) (hlo : ¬ LetsOut Q) : ∀ (fuel : Nat) (listed : Array Bool) (a : Act) (w : World),
    wpAny P md ops Q fuel listed a w → wpAnyIn (Fence.wide.inRound l) n P md ops Q fuel listed a w
  | 0, _, _, _, h => h
  | fuel + 1, listed, a, w, h => ⟨h.1, fun i hi => by
    have h2 := h.2 i hi
    unfold wpOp at h2
    unfold wpOpIn
    cases ho : ops[i]? with
    | none => rw [ho] at h2; exact round_of_any hn hlo fuel _ _ _ h2
    | some o =>
      rw [ho] at h2
      simp only at h2 ⊢
      by_cases hw : Region.wanted o (yielded ops a.tmps) = true
      · rw [if_pos hw] at h2 ⊢
        exact round_upon (hn i o ho) (fun a' w' hk => round_of_any hn hlo fuel _ a' w' hk) (h2.resolve_right fun hx => hlo hx.2)
      · rw [if_neg hw] at h2 ⊢
        exact ⟨fun _ _ => trivial, round_of_any hn hlo fuel _ _ _ h2⟩⟩

theorem wpIn_round_still_tail {id : Nat} {Q : Exit → Act → World → Prop} {a : Act} {w : World} {l' : List Oper} (k : Nat) (hm : P.follows .mixedOrders = true) (hB : Region.lexTailB .any l'.toArray k = true) (hn : l'.all (fun o => !o.late) = true) (hlo : ¬ LetsOut Q)
    (h : wpStill P l'.toArray { w with drawn := w.drawn + 1 } (fun a' => wpList P l'.toArray Q (l'.drop k) a' { w with drawn := w.drawn + 1 }) (l'.take k) a) : (Code.region id l'.toArray true).wpIn (Fence.wide.inRound l) n P Q a w := by
  simp only [Region.lexTailB, Bool.and_eq_true, decide_eq_true_eq] at hB
  obtain ⟨⟨⟨⟨hsel, hk⟩, hs⟩, hc⟩, hlex⟩ := hB
  have hk' : k < l'.length := by simpa using hk
  have htl : (l'.take k).length = k := by simp; omega
  have hdl : (l'.drop k).length = l'.toArray.size - k := by simp
  have inv0 : HeadInv .any l'.toArray k (Array.replicate l'.toArray.size false) :=
    ⟨by simp, fun j oj _ hl => (by rw [getD_replicate_false] at hl; cases hl), fun t _ ht => getD_in (by simpa using ht) (getD_replicate_false _ _)⟩
  have H := wpAnyL_lex (md := .any) (g := l'.toArray.size - k) hsel hs hc hk (l'.take k) 0 _ a (fun j hj => by
    have hj' : j < k := by rw [htl] at hj; exact hj
    simp [hj']) (by simpa using htl) inv0 (by rw [htl]; exact hlex) h
  refine wpIn_region_any hm (round_of_any (noLate_of hn) hlo _ _ _ _ ?_)
  have h2 := wpAny_of_head (Q' := Q) (g := l'.toArray.size - k) (fun listed a' hL => by
    have h3 := wpAny_of_seq (md := .any) (Q' := Q) (l'.drop k) k listed a' { w with drawn := w.drawn + 1 } (fun j => by simp [List.getElem?_drop]) (by rw [hdl]; exact hL.1) hL.2
    rwa [hdl] at h3) _ _ _ H
  rw [htl, show k + (l'.toArray.size - k) = l'.toArray.size by omega] at h2
  exact h2
end
end Go
