/-
  A range over a function whose iterator lays and writes blocks of its own and hands out pointers into them: who owns which block is told apart by a list. Condition: the widest fence, outside every other loop of that kind.
-/
import Derived.RangeFuncNested
import Derived.RangeFuncBound
import Derived.RangeFuncCalls
import Derived.RangeFuncLeaves
namespace Go
open Go.RowKit
variable {P : Program} {n : Nat}

/-- a block of terms: no iterator writes there -/
def TyB (W : World) (k : Nat) : Prop := ∃ cs f, W.heap[k]? = some (.cells cs 24 f)
/-- A STEP OF THE ITERATOR's OWN: what is not its own lies as it lay; T: the blocks that are its own. -/
structure ItStep (T T' : List Nat) (W W' : World) : Prop where
  below : Below 0 W W'
  same : ∀ k o, W.heap[k]? = some o → k ∉ T → W'.heap[k]? = some o
  fresh : ∀ k, k ∈ T' → k ∈ T ∨ W.heap.size ≤ k
  node : ∀ k, TyB W k → W'.heap[k]? = W.heap[k]?
/-- what a caller's own facts have to bear: a step of the iterator's, or the turn of a block behind B that is no cells -/
structure CalmV (B : Nat) (T T' : List Nat) (W W' : World) : Prop where
  below : Below 0 W W'
  same : ∀ k o, W.heap[k]? = some o → k ∉ T → (k < B ∨ o.isCells = true) → W'.heap[k]? = some o
  fresh : ∀ k, k ∈ T' → k ∈ T ∨ W.heap.size ≤ k
  node : ∀ k, TyB W k → W'.heap[k]? = W.heap[k]?
theorem ItStep.calm {B : Nat} {T T' : List Nat} {W W' : World} (h : ItStep T T' W W') : CalmV B T T' W W' := ⟨h.below, fun k o hk ht _ => h.same k o hk ht, h.fresh, h.node⟩
theorem CalmV.putObj {B l : Nat} {T : List Nat} {W : World} {o : Obj} (o' : Obj) (hB : B ≤ l) (hl : W.heap[l]? = some o) (ho : o.isCells = false) : CalmV B T T W (W.putObj l o') := by
  refine ⟨(Below.refl 0 W).grown (grownBy_putObj' W l o') (Nat.zero_le _) (fun _ _ => Nat.zero_le _), fun k ob hk _ hc => ?_, fun k hk => .inl hk, fun k ⟨cs, f, hk⟩ => World.putObj_heap_other fun e => ?_⟩
  · by_cases e : k = l
    · subst e
      rw [hl] at hk
      cases hk
      rcases hc with hc | hc
      · omega
      · rw [ho] at hc; cases hc
    · exact (World.putObj_heap_other e).trans hk
  · subst e
    rw [hl] at hk
    cases hk; cases ho

/-- the blocks of a list lie as they lay -/
def KeepT (T : List Nat) (W W' : World) : Prop := ∀ k, k ∈ T → W'.heap[k]? = W.heap[k]?
theorem KeepT.trans {T : List Nat} {A B C : World} (h : KeepT T A B) (k : KeepT T B C) : KeepT T A C := fun i hi => (k i hi).trans (h i hi)
/-- all cells lie as they lay -/
def KeepC (W W' : World) : Prop := ∀ (k : Nat) (o : Obj), W.heap[k]? = some o → o.isCells = true → W'.heap[k]? = some o

/-- WHAT AN ITERATOR PROMISES: to hand out what S says (or a beginning that Sp takes), each x with V x in the world at hand, and with Sp of all that came, x among them; the rounds keep its own blocks T, and what lay below n₀. -/
def SeqV {α : Type} (n : Nat) (P : Program) (g : Nat) (lb : Array Value) (encs : α → Array Value) (V : α → World → Prop) (n₀ : Nat) (S Sp : List α → Prop) (w : World) : Prop :=
  ∀ (l : Nat) (J : List α → List Nat → World → Prop) (Jx : List α → World → Prop) (W : World), Below w.heap.size w W →
    (∀ pre T T' W W', J pre T W → ItStep T T' W W' → J pre T' W') →
    (∀ m pre T x W1, J pre T W1 → V x W1 → Sp (pre ++ [x]) → (∀ k, k ∈ T → k < W1.heap.size) → YieldAt Fence.wide m P l (encs x) W1 fun e W' =>
      (e = .returned (.bool true) ∧ J (pre ++ [x]) T W' ∧ KeepT T W1 W' ∧ Below n₀ W1 W') ∨ (e = .returned (.bool false) ∧ Jx (pre ++ [x]) W')) →
    J [] [] W →
    CallsIn Fence.wide n P g (#[.func (.yield l) #[] #[]] ++ lb) W fun e W' => (∃ v, e = .returned v) ∧ ((∃ xs T, S xs ∧ J xs T W') ∨ (∃ pre, Sp pre ∧ Jx pre W'))

/-- what is handed out may be told with less -/
theorem SeqV.weaken {α : Type} {n : Nat} {P : Program} {g : Nat} {lb : Array Value} {encs : α → Array Value} {V V' : α → World → Prop} {n₀ : Nat} {S Sp : List α → Prop} {w : World} (h : SeqV n P g lb encs V n₀ S Sp w) (hv : ∀ x W, V x W → V' x W) : SeqV n P g lb encs V' n₀ S Sp w :=
  fun l J Jx W hW hJ hY h0 => h l J Jx W hW hJ (fun m pre T x W1 h1 h2 => hY m pre T x W1 h1 (hv x W1 h2)) h0

/-- HOW THE BODY OF A ROUND MAY BE LEFT. -/
def ownPostV {α : Type} (B n₀ : Nat) (T : List Nat) (I : List α → List Nat → World → Prop) (Ix : Code → List α → World → Prop) (xs : List α) (W : World) : Exit → Act → World → Prop
  | .normal, _, W' => KeepsFrom B W W' ∧ KeepT T W W' ∧ Below n₀ W W' ∧ I xs T W'
  | .ret, _, W' => KeepsFrom B W W' ∧ Ix .ret xs W'
  | .exit id, _, W' => KeepsFrom B W W' ∧ Ix (.exit id) xs W'
  | .goto t, _, W' => KeepsFrom B W W' ∧ Ix (.goto t) xs W'
  | .panic _, _, _ => False
  | .outgrown, _, _ => False

theorem RoundIn.wideAny {m m' : Nat} {l : Nat} {f : FuncId} {tmps : Array Value} {assign body : Code} {w : World} {R : Ending → World → Prop}
    (h : RoundIn Fence.wide m P l f tmps assign body w R) : RoundIn Fence.wide m' P l f tmps assign body w R := ⟨h.1, fun c cs _ => h.2 c cs (room_wide _)⟩
theorem YieldAt.wideAny {m : Nat} (m' : Nat) {l : Nat} {args : Array Value} {W : World} {R : Ending → World → Prop} (h : YieldAt Fence.wide m P l args W R) : YieldAt Fence.wide m' P l args W R := by
  obtain ⟨fn, tmps, assign, body, hy, hR⟩ := h
  exact ⟨fn, tmps, assign, body, hy, hR.wideAny⟩

/-- **THE LOOP**, where the iterator has blocks of its own. -/
theorem wpIn_rangeV {α : Type} {g : Operand} {ps : Array Tmp} {assign body : Code} {Q : Exit → Act → World → Prop} {a : Act} {w : World} {n₀ : Nat}
    {gf : Nat} {lb : Array Value} (hg : a.eval g = .func (.func gf) #[] lb) (eg : ∀ args w, (callFunc gf args).run P w = .ok (.enter gf args) w)
    {encs : α → Array Value} {V : α → World → Prop} {S Sp : List α → Prop} {w0 : World} (hseq : SeqV (n - 1) P gf lb encs V n₀ S Sp w0)
    (hb0 : Below w0.heap.size w0 w) (hps : ∀ x, (encs x).size = ps.size) (hn0 : n₀ ≤ w.heap.size)
    (hV : ∀ x W W', V x W → Below 0 W W' → KeepC W W' → V x W')
    (I : List α → List Nat → World → Prop) (Ix : Code → List α → World → Prop)
    (hI : ∀ pre T T' W W', I pre T W → CalmV w.heap.size T T' W W' → I pre T' W')
    (hIx : ∀ c pre W l o o', Ix c pre W → w.heap.size ≤ l → W.heap[l]? = some o → o.isCells = false → Ix c pre (W.putObj l o'))
    (h0 : I [] [] w) (Ax : α → Act → World → Prop) (hAx : ∀ x a' W l o o', Ax x a' W → w.heap.size ≤ l → W.heap[l]? = some o → o.isCells = false → Ax x a' (W.putObj l o'))
    (hassign : ∀ (l : Nat) (pre : List α) (T : List Nat) (x : α) (W : World) (K : Act → World → Prop), I pre T W → V x W →
      (∀ a' W', Below W.heap.size W W' → I pre T W' → Ax x a' W' → K a' W') →
      assign.wpIn (Fence.wide.inRound l) (n - 1 - 1) P (Exit.then K (fun _ _ _ => False)) { tmps := (ps.zip (encs x)).foldl (fun t (p, v) => t.setIfInBounds p v) a.tmps, defers := [] } W)
    (hbody : ∀ (l : Nat) (pre : List α) (T : List Nat) (x : α) (a' : Act) (W : World), I pre T W → V x W → Ax x a' W → (∀ k, k ∈ T → k < W.heap.size) → Sp (pre ++ [x]) → body.wpIn (Fence.wide.inRound l) (n - 1 - 1) P (ownPostV w.heap.size n₀ T I Ix (pre ++ [x]) W) a' W)
    (hdone : ∀ (D : Nat) (xs : List α) (T : List Nat) (W : World), w.heap.size ≤ D → S xs → I xs T W → W.heap[D]? = some (.deferred (some [])) → Q .normal { a with defers := { target := .collected D, args := #[] } :: a.defers } W)
    (hstop : ∀ (D : Nat) (c : Code) (pre : List α) (W : World), w.heap.size ≤ D → Sp pre → Ix c pre W → W.heap[D]? = some (.deferred (some [])) → c.wpIn Fence.wide n P Q { a with defers := { target := .collected D, args := #[] } :: a.defers } W) :
    (Code.rangeFunc g ps assign body).wpIn Fence.wide n P Q a w := by
  refine wpIn_rangeFunc fun fn hfn => ?_
  let B := w.heap.size
  let rec_ : LoopState → Option Code → Loop := fun st pe => { state := st, pending := pe, fn, tmps := a.tmps, params := ps, assign, body, defers := B }
  obtain ⟨W1, hW1⟩ : ∃ W1, (w.alloc (.deferred (some []))).alloc (.loop (rec_ .ready none)) = W1 := ⟨_, rfl⟩
  have hsz1 : W1.heap.size = B + 2 := by rw [← hW1]; simp [B]
  have hL1 : W1.heap[B + 1]? = some (.loop (rec_ .ready none)) := by
    rw [← hW1]
    have := World.alloc_heap_new (w.alloc (.deferred (some []))) (.loop (rec_ .ready none))
    rwa [World.size_alloc] at this
  have hbw : Below B w W1 := by
    rw [← hW1]
    exact ((Below.refl _ w).alloc (Nat.le_refl _) _).alloc (by simp) _
  have hD1 : W1.heap[B]? = some (.deferred (some [])) := by
    rw [← hW1]
    exact (Below.heap_alloc _ _ _ (by simp [B])).trans (World.alloc_heap_new w _)
  have hI1 : I [] [] W1 := hI _ _ _ _ _ h0 ⟨hbw.mono (Nat.zero_le _), fun k o hk _ _ => (hbw.block k (Array.getElem?_eq_some_iff.1 hk).1).trans hk, fun k hk => .inl hk, fun k ⟨_, _, hk⟩ => hbw.block k (Array.getElem?_eq_some_iff.1 hk).1⟩
  refine ⟨B + 1, [{ target := .collected B, args := #[] }], W1, { target := .fn (.func gf) lb, args := #[.func (.yield (B + 1)) #[] #[]] }, W1, gf, #[.func (.yield (B + 1)) #[] #[]] ++ lb, W1, ?_, ?_, fun _ _ => trivial, ?_, fun h => by simp [Fence.wide] at h, ?_⟩
  · rw [← hW1]; exact run_enterLoop_outer _ _ _ _ _
  · simp only [resolve, hg]
    simp [go_sem]
  · simp [invoke, go_sem, eg]
  · -- the iterator, its word taken at the caller's facts with the loop's two blocks beside them
    have hend : ∀ (jump : Option Code) (st : LoopState) (pe : Option Code) (W3 : World), W3.heap[B + 1]? = some (.loop (rec_ st pe)) →
        (Instr.endRound (B + 1) jump).run P W3 = .ok (.bool jump.isNone) (W3.putObj (B + 1) (.loop (rec_ (if jump.isNone then .ready else .done) jump))) := fun jump st pe W3 h => run_endRound (P := P) jump h
    refine (hseq (B + 1)
      (fun pre T W => I pre T W ∧ (B ∉ T ∧ B + 1 ∉ T) ∧ W.heap[B + 1]? = some (.loop (rec_ .ready none)) ∧ W.heap[B]? = some (.deferred (some [])))
      (fun pre W => ∃ c, Ix c pre W ∧ W.heap[B + 1]? = some (.loop (rec_ .done (some c))) ∧ W.heap[B]? = some (.deferred (some [])))
      W1 (hb0.trans (hbw.mono hb0.size))
      (fun pre T T' X Y h hs => by
        obtain ⟨h1, ⟨h2, h3⟩, h4, h5⟩ := h
        have hsz : B + 1 < X.heap.size := (Array.getElem?_eq_some_iff.1 h4).1
        exact ⟨hI _ _ _ _ _ h1 hs.calm, ⟨fun e => (hs.fresh _ e).elim h2 (fun e => by omega), fun e => (hs.fresh _ e).elim h3 (fun e => by omega)⟩, hs.same _ _ h4 h3, hs.same _ _ h5 h2⟩)
      ?_ ⟨hI1, ⟨by simp, by simp⟩, hL1, hD1⟩).mono ?_
    · rintro m pre T x W ⟨hi, ⟨hT1, hT2⟩, hl, hk⟩ hv hsp hTlt
      refine YieldAt.wideAny m (m := n - 1 - 1) ⟨fn, _, assign, body, run_yield (P := P) (args := encs x) hl (hps x), roundIn_of_wpIn trivial (hassign _ pre T x W _ hi hv ?_)⟩
      intro a' Wa hga hia hax
      have hl' := (hga.block _ (Array.getElem?_eq_some_iff.1 hl).1).trans hl
      have hk' := (hga.block _ (Array.getElem?_eq_some_iff.1 hk).1).trans hk
      have hla : B + 1 < Wa.heap.size := (Array.getElem?_eq_some_iff.1 hl').1
      have hTa : KeepT T W Wa := fun k hk2 => hga.block k (hTlt k hk2)
      have hva : V x Wa := hV x W Wa hv (hga.mono (Nat.zero_le _)) fun k o ho _ => (hga.block k (Array.getElem?_eq_some_iff.1 ho).1).trans ho
      refine ⟨_, run_beginRound hl' rfl, ?_⟩
      obtain ⟨Wb, hWb⟩ : ∃ Wb, Wa.putObj (B + 1) (.loop (rec_ .busy none)) = Wb := ⟨_, rfl⟩
      have hszb : Wb.heap.size = Wa.heap.size := by rw [← hWb]; simp
      have hlb : Wb.heap[B + 1]? = some (.loop (rec_ .busy none)) := by rw [← hWb]; exact World.putObj_heap_same hla
      have hkb : Wb.heap[B]? = some (.deferred (some [])) := by rw [← hWb]; exact (World.putObj_heap_other (by omega)).trans hk'
      have hib : I pre T Wb := by rw [← hWb]; exact hI _ _ _ _ _ hia (CalmV.putObj _ (by omega) hl' rfl)
      have haxb : Ax x a' Wb := by rw [← hWb]; exact hAx _ _ _ _ _ _ hax (by omega) hl' rfl
      have hvb : V x Wb := by
        rw [← hWb]
        refine hV x _ _ hva ((Below.refl 0 Wa).grown (grownBy_putObj' Wa _ _) (Nat.zero_le _) (fun _ _ => Nat.zero_le _)) fun k o ho hc => ?_
        refine (World.putObj_heap_other fun e => ?_).trans ho
        subst e
        rw [hl'] at ho; cases ho; cases hc
      have hTb : KeepT T Wa Wb := fun k hk2 => by rw [← hWb]; exact World.putObj_heap_other (fun e => hT2 (e ▸ hk2))
      have hbb : Below n₀ Wa Wb := by
        rw [← hWb]
        exact (Below.refl n₀ Wa).grown (grownBy_putObj' Wa _ _) (by have := hga.size; have := (Array.getElem?_eq_some_iff.1 hk).1; omega) (fun k e => by cases e; omega)
      rw [show (Obj.loop { rec_ .ready none with state := .busy }) = Obj.loop (rec_ .busy none) from rfl, hWb]
      refine wpIn_mono (hbody _ pre T x a' Wb hib hvb haxb (fun k hk2 => by have := hTlt k hk2; have := hga.size; omega) hsp) ?_
      have hsame : ∀ W3, KeepsFrom B Wb W3 → W3.heap[B + 1]? = some (.loop (rec_ .busy none)) ∧ W3.heap[B]? = some (.deferred (some [])) := fun W3 h => ⟨h.same _ _ (by omega) hlb rfl, h.same _ _ (Nat.le_refl _) hkb rfl⟩
      have hwn : n₀ ≤ W.heap.size := by have := (Array.getElem?_eq_some_iff.1 hk).1; omega
      rintro e a3 W3 hp
      cases e with
      | normal =>
        obtain ⟨g1, g2, g3, g4⟩ := hp
        obtain ⟨s1, s2⟩ := hsame W3 g1
        have hsz3 : B + 1 < W3.heap.size := (Array.getElem?_eq_some_iff.1 s1).1
        refine ⟨_, _, hend none _ _ W3 s1, .inl ⟨rfl, ⟨hI _ _ _ _ _ g4 (CalmV.putObj _ (by omega) s1 rfl), ⟨hT1, hT2⟩, World.putObj_heap_same hsz3, (World.putObj_heap_other (by omega)).trans s2⟩, ?_, ?_⟩⟩
        · exact ((hTa.trans hTb).trans g2).trans fun k hk2 => World.putObj_heap_other (fun e => hT2 (e ▸ hk2))
        · refine (((hga.mono hwn).trans hbb).trans g3).grown (grownBy_putObj' W3 _ _) ?_ (fun k e => by cases e; omega)
          have := hga.size; have := g3.size; omega
      | ret =>
        obtain ⟨g1, g2⟩ := hp
        obtain ⟨s1, s2⟩ := hsame W3 g1
        have hsz3 : B + 1 < W3.heap.size := (Array.getElem?_eq_some_iff.1 s1).1
        exact ⟨_, _, hend (some .ret) _ _ W3 s1, .inr ⟨rfl, .ret, hIx _ _ _ _ _ _ g2 (by omega) s1 rfl, World.putObj_heap_same hsz3, (World.putObj_heap_other (by omega)).trans s2⟩⟩
      | exit id =>
        obtain ⟨g1, g2⟩ := hp
        obtain ⟨s1, s2⟩ := hsame W3 g1
        have hsz3 : B + 1 < W3.heap.size := (Array.getElem?_eq_some_iff.1 s1).1
        exact ⟨_, _, hend (some (.exit id)) _ _ W3 s1, .inr ⟨rfl, .exit id, hIx _ _ _ _ _ _ g2 (by omega) s1 rfl, World.putObj_heap_same hsz3, (World.putObj_heap_other (by omega)).trans s2⟩⟩
      | goto t =>
        obtain ⟨g1, g2⟩ := hp
        obtain ⟨s1, s2⟩ := hsame W3 g1
        have hsz3 : B + 1 < W3.heap.size := (Array.getElem?_eq_some_iff.1 s1).1
        exact ⟨_, _, hend (some (.goto t)) _ _ W3 s1, .inr ⟨rfl, .goto t, hIx _ _ _ _ _ _ g2 (by omega) s1 rfl, World.putObj_heap_same hsz3, (World.putObj_heap_other (by omega)).trans s2⟩⟩
      | panic ch => exact hp.elim
      | outgrown => exact hp.elim
    · rintro e W2 ⟨⟨v, rfl⟩, ⟨xs, T, hS, hi, _, hl, hk⟩ | ⟨pre, hSp, c, hi, hl, hk⟩⟩
      · refine ⟨none, _, run_endLoop (P := P) hl (by simp [rec_]), hdone B xs T _ (Nat.le_refl _) hS (hI _ _ _ _ _ hi (CalmV.putObj _ (by omega) hl rfl)) ((World.putObj_heap_other (by omega)).trans hk)⟩
      · exact ⟨some c, _, run_endLoop (P := P) hl (by simp [rec_]), hstop B c pre _ (Nat.le_refl _) hSp (hIx _ _ _ _ _ _ hi (by omega) hl rfl) ((World.putObj_heap_other (by omega)).trans hk)⟩
end Go
