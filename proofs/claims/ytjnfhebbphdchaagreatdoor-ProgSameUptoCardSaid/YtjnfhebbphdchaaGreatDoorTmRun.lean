/-
  Terms as trees, and the places in them in the order in which they are gone through. No condition.
  A range over a function whose iterator lays and writes blocks of its own and hands out pointers into them:
  Terms in memory:
  The walks of place.term, place.under, Binder.
  A region that draws its order and only reads, within a round of a range over a function:
  What an iterator over a term keeps while it runs:
  The walk of below:
-/
import Derived.RangeFuncNested
import Derived.RangeFuncBound
import Derived.RangeFuncCalls
import Derived.RangeFuncLeaves
import Derived.WalkKit
import Derived.Shelf.Abstract
import Derived.Shelf.RegionOpen
import Derived.OwnWalkIn
import Derived.TacticsInMore
import Derived.LoopNIn
import Derived.LoopIn
import Derived.Lib.Hide
import Derived.BigQuiet
import Derived.Deep.QuietTactic
import Derived.Deep.RegionHeld3
import Derived.Deep.DrawnRows
import Derived.Test.YtjnfhebbphdchaaGreatDoorProg
import Derived.Sort.BigQuietIn
import Derived.StillTailTactics
import Derived.Maps.OwnIn
import Derived.Sort.LoopGhostIn
set_option maxHeartbeats 4000000
set_option maxRecDepth 100000
open Go.Lib (hid)
namespace Go.Tm
inductive T where
 | node (kind : Int) (name : ByteArray) (num : Int) (kids : List T) : T
def T.kind : T -> Int | .node k _ _ _ => k
def T.name : T -> ByteArray | .node _ s _ _ => s
def T.num : T -> Int | .node _ _ n _ => n
def T.kids : T -> List T | .node _ _ _ ks => ks
instance : Inhabited T := ⟨.node 0 ByteArray.empty 0 []⟩
mutual
def T.size : T -> Nat
 | .node _ _ _ ks => 1 + sizes ks
def sizes : List T -> Nat
 | [] => 0
 | t :: ts => t.size + sizes ts
end
mutual
def T.depth : T -> Nat
 | .node _ _ _ ks => 1 + qax ks
def qax : List T -> Nat
 | [] => 0
 | t :: ts => max t.depth (qax ts)
end
theorem qil (t : T) : 1 <= t.size := by cases t; unfold T.size; omega
theorem qll : ∀ (ks : List T) (i : Nat), i < ks.length -> (ks.getD i default).size <= sizes ks
 | [], i, h => absurd h (Nat.not_lt_zero i)
 | t :: ts, 0, _ => by
   show t.size <= sizes (t :: ts)
   rw [sizes]; omega
 | t :: ts, i + 1, h => by
   have := qll ts i (by simpa using h)
   show (ts.getD i default).size <= sizes (t :: ts)
   rw [sizes]; omega
theorem T.eta (t : T) : t = .node t.kind t.name t.num t.kids := by cases t; rfl
theorem qnJ (t : T) : t.size = 1 + sizes t.kids := by cases t; rfl
theorem qci (t : T) (i : Nat) (h : i < t.kids.length) : (t.kids.getD i default).size < t.size := by
 have := qll t.kids i h
 rw [qnJ t]; omega
abbrev P3 := T × Nat × Nat
mutual
def walk (par : T) (kid d : Nat) : T -> List P3
 | .node k s n ks => (par, kid, d) :: walks (.node k s n ks) 0 (d + 1) ks
def walks (par : T) (i d : Nat) : List T -> List P3
 | [] => []
 | t :: ts => walk par i d t ++ walks par (i + 1) d ts
end
theorem qfg (par : T) (kid d : Nat) (t : T) : walk par kid d t = (par, kid, d) :: walks t 0 (d + 1) t.kids := by
 cases t; rw [walk]; rfl
mutual
theorem qeq (par : T) (kid d : Nat) : ∀ t : T, (walk par kid d t).length = t.size
 | .node k s n ks => by rw [walk, List.length_cons, qiX (.node k s n ks) 0 (d + 1) ks, T.size]; omega
theorem qiX (par : T) (i d : Nat) : ∀ ts : List T, (walks par i d ts).length = sizes ts
 | [] => by rw [walks, sizes]; rfl
 | t :: ts => by rw [walks, sizes, List.length_append, qeq par i d t, qiX par (i + 1) d ts]
end
theorem qnK {ks : List T} {i : Nat} (h : i < ks.length) : ks.drop i = ks.getD i default :: ks.drop (i + 1) := by
 rw [List.drop_eq_getElem_cons h, List.getD_eq_getElem?_getD, List.getElem?_eq_getElem h]; rfl
theorem qdR (par : T) (i d : Nat) {ks : List T} (h : i < ks.length) : walks par i d (ks.drop i) = walk par i d (ks.getD i default) ++ walks par (i + 1) d (ks.drop (i + 1)) := by
 rw [qnK h, walks]
structure Pl where
 blk : Nat
 off : Nat
 par : T
 kid : Nat
 depth : Nat
def Pl.t (p : Pl) : T := p.par.kids.getD p.kid default
def Pl.p3 (p : Pl) : P3 := (p.par, p.kid, p.depth)
end Go.Tm
namespace Go
open Go.RowKit
variable {P : Program} {n : Nat}
def TyB (W : World) (k : Nat) : Prop := ∃ cs f, W.heap[k]? = some (.cells cs 26 f)
structure ItStep (T T' : List Nat) (W W' : World) : Prop where
 below : Below 0 W W'
 same : ∀ k o, W.heap[k]? = some o -> k ∉ T -> W'.heap[k]? = some o
 fresh : ∀ k, k ∈ T' -> k ∈ T ∨ W.heap.size <= k
 node : ∀ k, TyB W k -> W'.heap[k]? = W.heap[k]?
structure CalmV (B : Nat) (T T' : List Nat) (W W' : World) : Prop where
 below : Below 0 W W'
 same : ∀ k o, W.heap[k]? = some o -> k ∉ T -> (k < B ∨ o.isCells = true) -> W'.heap[k]? = some o
 fresh : ∀ k, k ∈ T' -> k ∈ T ∨ W.heap.size <= k
 node : ∀ k, TyB W k -> W'.heap[k]? = W.heap[k]?
theorem ItStep.calm {B : Nat} {T T' : List Nat} {W W' : World} (h : ItStep T T' W W') : CalmV B T T' W W' := ⟨h.below, fun k o hk ht _ => h.same k o hk ht, h.fresh, h.node⟩
theorem CalmV.putObj {B l : Nat} {T : List Nat} {W : World} {o : Obj} (o' : Obj) (hB : B <= l) (hl : W.heap[l]? = some o) (ho : o.isCells = false) : CalmV B T T W (W.putObj l o') := by
 refine ⟨(Below.refl 0 W).grown (grownBy_putObj' W l o') (Nat.zero_le _) (fun _ _ => Nat.zero_le _), fun k ob hk _ hc => ?_, fun k hk => .inl hk, fun k ⟨cs, f, hk⟩ => World.putObj_heap_other fun e => ?_⟩
 . by_cases e : k = l
   . subst e
     rw [hl] at hk
     cases hk
     rcases hc with hc | hc
     . omega
     . rw [ho] at hc; cases hc
   . exact (World.putObj_heap_other e).trans hk
 . subst e
   rw [hl] at hk
   cases hk; cases ho
def KeepT (T : List Nat) (W W' : World) : Prop := ∀ k, k ∈ T -> W'.heap[k]? = W.heap[k]?
theorem KeepT.trans {T : List Nat} {A B C : World} (h : KeepT T A B) (k : KeepT T B C) : KeepT T A C := fun i hi => (k i hi).trans (h i hi)
def KeepC (W W' : World) : Prop := ∀ (k : Nat) (o : Obj), W.heap[k]? = some o -> o.isCells = true -> W'.heap[k]? = some o
def SeqV {α : Type} (n : Nat) (P : Program) (g : Nat) (lb : Array Value) (encs : α -> Array Value) (V : α -> World -> Prop) (n₀ : Nat) (S Sp : List α -> Prop) (w : World) : Prop :=
 ∀ (l : Nat) (J : List α -> List Nat -> World -> Prop) (Jx : List α -> World -> Prop) (W : World), Below w.heap.size w W →
   (∀ pre T T' W W', J pre T W -> ItStep T T' W W' -> J pre T' W') →
   (∀ m pre T x W1, J pre T W1 -> V x W1 -> Sp (pre ++ [x]) -> (∀ k, k ∈ T -> k < W1.heap.size) -> YieldAt Fence.wide m P l (encs x) W1 fun e W' =>
     (e = .returned (.bool true) /\ J (pre ++ [x]) T W' /\ KeepT T W1 W' /\ Below n₀ W1 W') ∨ (e = .returned (.bool false) /\ Jx (pre ++ [x]) W')) →
   J [] [] W →
   CallsIn Fence.wide n P g (#[.func (.yield l) #[] #[]] ++ lb) W fun e W' => (∃ v, e = .returned v) /\ ((∃ xs T, S xs /\ J xs T W') ∨ (∃ pre, Sp pre /\ Jx pre W'))
theorem SeqV.weaken {α : Type} {n : Nat} {P : Program} {g : Nat} {lb : Array Value} {encs : α -> Array Value} {V V' : α -> World -> Prop} {n₀ : Nat} {S Sp : List α -> Prop} {w : World} (h : SeqV n P g lb encs V n₀ S Sp w) (hv : ∀ x W, V x W -> V' x W) : SeqV n P g lb encs V' n₀ S Sp w :=
 fun l J Jx W hW hJ hY h0 => h l J Jx W hW hJ (fun m pre T x W1 h1 h2 => hY m pre T x W1 h1 (hv x W1 h2)) h0
def qpL {α : Type} (B n₀ : Nat) (T : List Nat) (I : List α -> List Nat -> World -> Prop) (Ix : Code -> List α -> World -> Prop) (xs : List α) (W : World) : Exit -> Act -> World -> Prop
 | .normal, _, W' => KeepsFrom B W W' /\ KeepT T W W' /\ Below n₀ W W' /\ I xs T W'
 | .ret, _, W' => KeepsFrom B W W' /\ Ix .ret xs W'
 | .exit id, _, W' => KeepsFrom B W W' /\ Ix (.exit id) xs W'
 | .goto t, _, W' => KeepsFrom B W W' /\ Ix (.goto t) xs W'
 | .panic _, _, _ => False
 | .outgrown, _, _ => False
theorem RoundIn.wideAny {m m' : Nat} {l : Nat} {f : FuncId} {tmps : Array Value} {assign body : Code} {w : World} {R : Ending -> World -> Prop}
   (h : RoundIn Fence.wide m P l f tmps assign body w R) : RoundIn Fence.wide m' P l f tmps assign body w R := ⟨h.1, fun c cs _ => h.2 c cs (room_wide _)⟩
theorem YieldAt.wideAny {m : Nat} (m' : Nat) {l : Nat} {args : Array Value} {W : World} {R : Ending -> World -> Prop} (h : YieldAt Fence.wide m P l args W R) : YieldAt Fence.wide m' P l args W R := by
 obtain ⟨fn, tmps, assign, body, hy, hR⟩ := h
 exact ⟨fn, tmps, assign, body, hy, hR.wideAny⟩
theorem qei {α : Type} {g : Operand} {ps : Array Tmp} {assign body : Code} {Q : Exit -> Act -> World -> Prop} {a : Act} {w : World} {n₀ : Nat}
   {gf : Nat} {lb : Array Value} (hg : a.eval g = .func (.func gf) #[] lb) (eg : ∀ args w, (callFunc gf args).run P w = .ok (.enter gf args) w)
   {encs : α -> Array Value} {V : α -> World -> Prop} {S Sp : List α -> Prop} {w0 : World} (hseq : SeqV (n - 1) P gf lb encs V n₀ S Sp w0)
   (hb0 : Below w0.heap.size w0 w) (hps : ∀ x, (encs x).size = ps.size) (hn0 : n₀ <= w.heap.size)
   (hV : ∀ x W W', V x W -> Below 0 W W' -> KeepC W W' -> V x W')
   (I : List α -> List Nat -> World -> Prop) (Ix : Code -> List α -> World -> Prop)
   (hI : ∀ pre T T' W W', I pre T W -> CalmV w.heap.size T T' W W' -> I pre T' W')
   (hIx : ∀ c pre W l o o', Ix c pre W -> w.heap.size <= l -> W.heap[l]? = some o -> o.isCells = false -> Ix c pre (W.putObj l o'))
   (h0 : I [] [] w) (Ax : α -> Act -> World -> Prop) (hAx : ∀ x a' W l o o', Ax x a' W -> w.heap.size <= l -> W.heap[l]? = some o -> o.isCells = false -> Ax x a' (W.putObj l o'))
   (hassign : ∀ (l : Nat) (pre : List α) (T : List Nat) (x : α) (W : World) (K : Act -> World -> Prop), I pre T W -> V x W →
     (∀ a' W', Below W.heap.size W W' -> I pre T W' -> Ax x a' W' -> K a' W') →
     assign.wpIn (Fence.wide.inRound l) (n - 1 - 1) P (Exit.then K (fun _ _ _ => False)) { tmps := (ps.zip (encs x)).foldl (fun t (p, v) => t.setIfInBounds p v) a.tmps, defers := [] } W)
   (hbody : ∀ (l : Nat) (pre : List α) (T : List Nat) (x : α) (a' : Act) (W : World), I pre T W -> V x W -> Ax x a' W -> (∀ k, k ∈ T -> k < W.heap.size) -> Sp (pre ++ [x]) -> body.wpIn (Fence.wide.inRound l) (n - 1 - 1) P (qpL w.heap.size n₀ T I Ix (pre ++ [x]) W) a' W)
   (hdone : ∀ (D : Nat) (xs : List α) (T : List Nat) (W : World), w.heap.size <= D -> S xs -> I xs T W -> W.heap[D]? = some (.deferred (some [])) -> Q .normal { a with defers := { target := .collected D, args := #[] } :: a.defers } W)
   (hstop : ∀ (D : Nat) (c : Code) (pre : List α) (W : World), w.heap.size <= D -> Sp pre -> Ix c pre W -> W.heap[D]? = some (.deferred (some [])) -> c.wpIn Fence.wide n P Q { a with defers := { target := .collected D, args := #[] } :: a.defers } W) :
   (Code.rangeFunc g ps assign body).wpIn Fence.wide n P Q a w := by
 refine wpIn_rangeFunc fun fn hfn => ?_
 let B := w.heap.size
 let rec_ : LoopState -> Option Code -> Loop := fun st pe => { state := st, pending := pe, fn, tmps := a.tmps, params := ps, assign, body, defers := B }
 obtain ⟨W1, hW1⟩ : ∃ W1, (w.alloc (.deferred (some []))).alloc (.loop (rec_ .ready none)) = W1 := ⟨_, rfl⟩
 have hsz1 : W1.heap.size = B + 2 := by rw [<- hW1]; simp [B]
 have hL1 : W1.heap[B + 1]? = some (.loop (rec_ .ready none)) := by
   rw [<- hW1]
   have := World.alloc_heap_new (w.alloc (.deferred (some []))) (.loop (rec_ .ready none))
   rwa [World.size_alloc] at this
 have hbw : Below B w W1 := by
   rw [<- hW1]
   exact ((Below.refl _ w).alloc (Nat.le_refl _) _).alloc (by simp) _
 have hD1 : W1.heap[B]? = some (.deferred (some [])) := by
   rw [<- hW1]
   exact (Below.heap_alloc _ _ _ (by simp [B])).trans (World.alloc_heap_new w _)
 have hI1 : I [] [] W1 := hI _ _ _ _ _ h0 ⟨hbw.mono (Nat.zero_le _), fun k o hk _ _ => (hbw.block k (Array.getElem?_eq_some_iff.1 hk).1).trans hk, fun k hk => .inl hk, fun k ⟨_, _, hk⟩ => hbw.block k (Array.getElem?_eq_some_iff.1 hk).1⟩
 refine ⟨B + 1, [{ target := .collected B, args := #[] }], W1, { target := .fn (.func gf) lb, args := #[.func (.yield (B + 1)) #[] #[]] }, W1, gf, #[.func (.yield (B + 1)) #[] #[]] ++ lb, W1, ?_, ?_, fun _ _ => trivial, ?_, fun h => by simp [Fence.wide] at h, ?_⟩
 . rw [<- hW1]; exact run_enterLoop_outer _ _ _ _ _
 . simp only [resolve, hg]
   simp [go_sem]
 . simp [invoke, go_sem, eg]
 . -- the iterator, its word taken at the caller's facts with the loop's two blocks beside them
   have hend : ∀ (jump : Option Code) (st : LoopState) (pe : Option Code) (W3 : World), W3.heap[B + 1]? = some (.loop (rec_ st pe)) →
       (Instr.endRound (B + 1) jump).run P W3 = .ok (.bool jump.isNone) (W3.putObj (B + 1) (.loop (rec_ (if jump.isNone then .ready else .done) jump))) := fun jump st pe W3 h => run_endRound (P := P) jump h
   refine (hseq (B + 1)
     (fun pre T W => I pre T W /\ (B ∉ T /\ B + 1 ∉ T) /\ W.heap[B + 1]? = some (.loop (rec_ .ready none)) /\ W.heap[B]? = some (.deferred (some [])))
     (fun pre W => ∃ c, Ix c pre W /\ W.heap[B + 1]? = some (.loop (rec_ .done (some c))) /\ W.heap[B]? = some (.deferred (some [])))
     W1 (hb0.trans (hbw.mono hb0.size))
     (fun pre T T' X Y h hs => by
       obtain ⟨h1, ⟨h2, h3⟩, h4, h5⟩ := h
       have hsz : B + 1 < X.heap.size := (Array.getElem?_eq_some_iff.1 h4).1
       exact ⟨hI _ _ _ _ _ h1 hs.calm, ⟨fun e => (hs.fresh _ e).elim h2 (fun e => by omega), fun e => (hs.fresh _ e).elim h3 (fun e => by omega)⟩, hs.same _ _ h4 h3, hs.same _ _ h5 h2⟩)
     ?_ ⟨hI1, ⟨by simp, by simp⟩, hL1, hD1⟩).mono ?_
   . rintro m pre T x W ⟨hi, ⟨hT1, hT2⟩, hl, hk⟩ hv hsp hTlt
     refine YieldAt.wideAny m (m := n - 1 - 1) ⟨fn, _, assign, body, run_yield (P := P) (args := encs x) hl (hps x), roundIn_of_wpIn trivial (hassign _ pre T x W _ hi hv ?_)⟩
     intro a' Wa hga hia hax
     have hl' := (hga.block _ (Array.getElem?_eq_some_iff.1 hl).1).trans hl
     have hk' := (hga.block _ (Array.getElem?_eq_some_iff.1 hk).1).trans hk
     have hla : B + 1 < Wa.heap.size := (Array.getElem?_eq_some_iff.1 hl').1
     have hTa : KeepT T W Wa := fun k hk2 => hga.block k (hTlt k hk2)
     have hva : V x Wa := hV x W Wa hv (hga.mono (Nat.zero_le _)) fun k o ho _ => (hga.block k (Array.getElem?_eq_some_iff.1 ho).1).trans ho
     refine ⟨_, run_beginRound hl' rfl, ?_⟩
     obtain ⟨Wb, hWb⟩ : ∃ Wb, Wa.putObj (B + 1) (.loop (rec_ .busy none)) = Wb := ⟨_, rfl⟩
     have hszb : Wb.heap.size = Wa.heap.size := by rw [<- hWb]; simp
     have hlb : Wb.heap[B + 1]? = some (.loop (rec_ .busy none)) := by rw [<- hWb]; exact World.putObj_heap_same hla
     have hkb : Wb.heap[B]? = some (.deferred (some [])) := by rw [<- hWb]; exact (World.putObj_heap_other (by omega)).trans hk'
     have hib : I pre T Wb := by rw [<- hWb]; exact hI _ _ _ _ _ hia (CalmV.putObj _ (by omega) hl' rfl)
     have haxb : Ax x a' Wb := by rw [<- hWb]; exact hAx _ _ _ _ _ _ hax (by omega) hl' rfl
     have hvb : V x Wb := by
       rw [<- hWb]
       refine hV x _ _ hva ((Below.refl 0 Wa).grown (grownBy_putObj' Wa _ _) (Nat.zero_le _) (fun _ _ => Nat.zero_le _)) fun k o ho hc => ?_
       refine (World.putObj_heap_other fun e => ?_).trans ho
       subst e
       rw [hl'] at ho; cases ho; cases hc
     have hTb : KeepT T Wa Wb := fun k hk2 => by rw [<- hWb]; exact World.putObj_heap_other (fun e => hT2 (e ▸ hk2))
     have hbb : Below n₀ Wa Wb := by
       rw [<- hWb]
       exact (Below.refl n₀ Wa).grown (grownBy_putObj' Wa _ _) (by have := hga.size; have := (Array.getElem?_eq_some_iff.1 hk).1; omega) (fun k e => by cases e; omega)
     rw [show (Obj.loop { rec_ .ready none with state := .busy }) = Obj.loop (rec_ .busy none) from rfl, hWb]
     refine wpIn_mono (hbody _ pre T x a' Wb hib hvb haxb (fun k hk2 => by have := hTlt k hk2; have := hga.size; omega) hsp) ?_
     have hsame : ∀ W3, KeepsFrom B Wb W3 -> W3.heap[B + 1]? = some (.loop (rec_ .busy none)) /\ W3.heap[B]? = some (.deferred (some [])) := fun W3 h => ⟨h.same _ _ (by omega) hlb rfl, h.same _ _ (Nat.le_refl _) hkb rfl⟩
     have hwn : n₀ <= W.heap.size := by have := (Array.getElem?_eq_some_iff.1 hk).1; omega
     rintro e a3 W3 hp
     cases e with
     | normal =>
       obtain ⟨g1, g2, g3, g4⟩ := hp
       obtain ⟨s1, s2⟩ := hsame W3 g1
       have hsz3 : B + 1 < W3.heap.size := (Array.getElem?_eq_some_iff.1 s1).1
       refine ⟨_, _, hend none _ _ W3 s1, .inl ⟨rfl, ⟨hI _ _ _ _ _ g4 (CalmV.putObj _ (by omega) s1 rfl), ⟨hT1, hT2⟩, World.putObj_heap_same hsz3, (World.putObj_heap_other (by omega)).trans s2⟩, ?_, ?_⟩⟩
       . exact ((hTa.trans hTb).trans g2).trans fun k hk2 => World.putObj_heap_other (fun e => hT2 (e ▸ hk2))
       . refine (((hga.mono hwn).trans hbb).trans g3).grown (grownBy_putObj' W3 _ _) ?_ (fun k e => by cases e; omega)
         have := hga.size; have := g3.size; omega
     | ret =>
       obtain ⟨g1, g2⟩ := hp
       obtain ⟨s1, s2⟩ := hsame W3 g1
       have hsz3 : B + 1 < W3.heap.size := (Array.getElem?_eq_some_iff.1 s1).1
       exact ⟨_, _, hend (some .ret) _ _ W3 s1, .inr ⟨rfl, .ret, hIx _ _ _ _ _ _ g2 (by omega) s1 rfl, World.putObj_heap_same hsz3, (World.putObj_heap_other (by omega)).trans s2⟩⟩
     | exit id =>
       obtain ⟨g1, g2⟩ := hp
       obtain ⟨s1, s2⟩ := hsame W3 g1
       have hsz3 : B + 1 < W3.heap.size := (Array.getElem?_eq_some_iff.1 s1).1
       exact ⟨_, _, hend (some (.exit id)) _ _ W3 s1, .inr ⟨rfl, .exit id, hIx _ _ _ _ _ _ g2 (by omega) s1 rfl, World.putObj_heap_same hsz3, (World.putObj_heap_other (by omega)).trans s2⟩⟩
     | goto t =>
       obtain ⟨g1, g2⟩ := hp
       obtain ⟨s1, s2⟩ := hsame W3 g1
       have hsz3 : B + 1 < W3.heap.size := (Array.getElem?_eq_some_iff.1 s1).1
       exact ⟨_, _, hend (some (.goto t)) _ _ W3 s1, .inr ⟨rfl, .goto t, hIx _ _ _ _ _ _ g2 (by omega) s1 rfl, World.putObj_heap_same hsz3, (World.putObj_heap_other (by omega)).trans s2⟩⟩
     | panic ch => exact hp.elim
     | outgrown => exact hp.elim
   . rintro e W2 ⟨⟨v, rfl⟩, ⟨xs, T, hS, hi, _, hl, hk⟩ | ⟨pre, hSp, c, hi, hl, hk⟩⟩
     . refine ⟨none, _, run_endLoop (P := P) hl (by simp [rec_]), hdone B xs T _ (Nat.le_refl _) hS (hI _ _ _ _ _ hi (CalmV.putObj _ (by omega) hl rfl)) ((World.putObj_heap_other (by omega)).trans hk)⟩
     . exact ⟨some c, _, run_endLoop (P := P) hl (by simp [rec_]), hstop B c pre _ (Nat.le_refl _) hSp (hIx _ _ _ _ _ _ hi (by omega) hl rfl) ((World.putObj_heap_other (by omega)).trans hk)⟩
end Go
namespace Go.Proofs.YtjnfhebbphdchaaGreatDoor
open Go.RowKit Go.Shelf Go.Tm
mutual
def qan (W : World) (p : Nat -> Prop) (b o : Nat) : T -> Prop
 | .node k s n ks => p b /\ s.size <= 9223372036854775807 /\ W.cell? ⟨b, o, none⟩ = some (.int .i64 k) /\ W.cell? ⟨b, o + 1, none⟩ = some (.string s) /\ W.cell? ⟨b, o + 2, none⟩ = some (.int .i64 n) ∧
     ∃ A c, W.cell? ⟨b, o + 3, none⟩ = some (.slice A ks.length c) /\ (ks = [] ∨ ∃ kb ko, A = some ⟨kb, ko, none⟩ /\ RowAt W p kb ko ks)
def RowAt (W : World) (p : Nat -> Prop) (b o : Nat) : List T -> Prop
 | [] => True
 | t :: ts => qan W p b o t /\ RowAt W p b (o + 4) ts
end
mutual
theorem qan.kept {W W' : World} {p q : Nat -> Prop} (hpq : ∀ b, p b -> q b) (hk : ∀ b, p b -> W'.heap[b]? = W.heap[b]?) : ∀ {b o : Nat} {t : T}, qan W p b o t -> qan W' q b o t
 | b, o, .node k s n ks, h => by
   rw [qan] at h ⊢
   obtain ⟨hb, hz, h0, h1, h2, A, c, h3, h4⟩ := h
   have hc : ∀ i, W'.cell? ⟨b, i, none⟩ = W.cell? ⟨b, i, none⟩ := fun i => World.cell?_of_block (a := ⟨b, i, none⟩) (hk b hb)
   refine ⟨hpq b hb, hz, (hc _).trans h0, (hc _).trans h1, (hc _).trans h2, A, c, (hc _).trans h3, ?_⟩
   rcases h4 with h4 | ⟨kb, ko, h4, h5⟩
   . exact .inl h4
   . exact .inr ⟨kb, ko, h4, RowAt.kept hpq hk h5⟩
theorem RowAt.kept {W W' : World} {p q : Nat -> Prop} (hpq : ∀ b, p b -> q b) (hk : ∀ b, p b -> W'.heap[b]? = W.heap[b]?) : ∀ {b o : Nat} {ts : List T}, RowAt W p b o ts -> RowAt W' q b o ts
 | _, _, [], _ => by rw [RowAt]; trivial
 | b, o, t :: ts, h => by
   rw [RowAt] at h ⊢
   exact ⟨qan.kept hpq hk h.1, RowAt.kept hpq hk h.2⟩
end
theorem RowAt.get {W : World} {p : Nat -> Prop} : ∀ {b o : Nat} {ts : List T} (i : Nat), RowAt W p b o ts -> i < ts.length -> qan W p b (o + i * 4) (ts.getD i default)
 | _, _, [], i, _, hi => absurd hi (Nat.not_lt_zero i)
 | b, o, t :: ts, 0, h, _ => by
   rw [RowAt] at h
   show qan W p b (o + 0 * 4) t
   rw [Nat.zero_mul, Nat.add_zero]; exact h.1
 | b, o, t :: ts, i + 1, h, hi => by
   rw [RowAt] at h
   have := RowAt.get i h.2 (by simpa using hi)
   show qan W p b (o + (i + 1) * 4) (ts.getD i default)
   rwa [show o + (i + 1) * 4 = o + 4 + i * 4 by omega]
structure Hdr (W : World) (p : Nat -> Prop) (b o : Nat) (t : T) (A : Option Addr) (c : Nat) : Prop where
 at_ : p b
 nsz : t.name.size <= 9223372036854775807
 kind : W.cell? ⟨b, o, none⟩ = some (.int .i64 t.kind)
 name : W.cell? ⟨b, o + 1, none⟩ = some (.string t.name)
 num : W.cell? ⟨b, o + 2, none⟩ = some (.int .i64 t.num)
 kids : W.cell? ⟨b, o + 3, none⟩ = some (.slice A t.kids.length c)
 row : ∀ i, i < t.kids.length -> ∃ kb ko, A = some ⟨kb, ko, none⟩ /\ qan W p kb (ko + i * 4) (t.kids.getD i default)
theorem qan.hdr {W : World} {p : Nat -> Prop} {b o : Nat} {t : T} (h : qan W p b o t) : ∃ A c, Hdr W p b o t A c := by
 cases t with
 | node k s n ks =>
   rw [qan] at h
   obtain ⟨hb, hz, h0, h1, h2, A, c, h3, h4⟩ := h
   refine ⟨A, c, hb, hz, h0, h1, h2, h3, fun i hi => ?_⟩
   rcases h4 with rfl | ⟨kb, ko, rfl, h5⟩
   . exact absurd hi (Nat.not_lt_zero i)
   . exact ⟨kb, ko, rfl, RowAt.get i h5 hi⟩
theorem qan.block {W : World} {p : Nat -> Prop} {b o : Nat} {t : T} (h : qan W p b o t) : b < W.heap.size := by
 obtain ⟨A, c, h⟩ := h.hdr
 exact World.block_lt_of_cell? W _ h.kind
def anyB : Nat -> Prop := fun _ => True
def plV (x : Pl) : Value := .agg #[.pointer (some ⟨x.blk, x.off, none⟩), .int .i64 x.kid, .int .i64 x.depth]
def PlOk (x : Pl) (W : World) : Prop := qan W anyB x.blk x.off x.par /\ x.kid < x.par.kids.length
theorem qdv {W : World} {b i : Nat} {v : Value} (h : W.cell? ⟨b, i, none⟩ = some v) : ∃ o, W.heap[b]? = some o /\ o.isCells = true := by
 unfold World.cell? at h
 cases ho : W.heap[b]? with
 | none => rw [ho] at h; cases h
 | some o =>
   rw [ho] at h
   cases o with
   | cells c t f => exact ⟨_, rfl, rfl⟩
   | _ => cases h
mutual
theorem qan.cells {W W' : World} (hk : KeepC W W') : ∀ {b o : Nat} {t : T}, qan W anyB b o t -> qan W' anyB b o t
 | b, o, .node k s n ks, h => by
   rw [qan] at h ⊢
   obtain ⟨hb, hz, h0, h1, h2, A, c, h3, h4⟩ := h
   obtain ⟨ob, ho, hoc⟩ := qdv h0
   have hc : ∀ i, W'.cell? ⟨b, i, none⟩ = W.cell? ⟨b, i, none⟩ := fun i => World.cell?_of_block (a := ⟨b, i, none⟩) ((hk b ob ho hoc).trans ho.symm)
   refine ⟨trivial, hz, (hc _).trans h0, (hc _).trans h1, (hc _).trans h2, A, c, (hc _).trans h3, ?_⟩
   rcases h4 with h4 | ⟨kb, ko, h4, h5⟩
   . exact .inl h4
   . exact .inr ⟨kb, ko, h4, RowAt.cells hk h5⟩
theorem RowAt.cells {W W' : World} (hk : KeepC W W') : ∀ {b o : Nat} {ts : List T}, RowAt W anyB b o ts -> RowAt W' anyB b o ts
 | _, _, [], _ => by rw [RowAt]; trivial
 | b, o, t :: ts, h => by
   rw [RowAt] at h ⊢
   exact ⟨qan.cells hk h.1, RowAt.cells hk h.2⟩
end
theorem PlOk.cells (x : Pl) (W W' : World) (h : PlOk x W) (_ : Below 0 W W') (hk : KeepC W W') : PlOk x W' := ⟨h.1.cells hk, h.2⟩
theorem qan.wide {W : World} {p q : Nat -> Prop} (hpq : ∀ b, p b -> q b) {b o : Nat} {t : T} (h : qan W p b o t) : qan W q b o t := qan.kept hpq (fun _ _ => rfl) h
end Go.Proofs.YtjnfhebbphdchaaGreatDoor
namespace Go.Proofs.YtjnfhebbphdchaaGreatDoor
open Go.RowKit Go.Shelf Go.Tm
attribute [local go_sem ↓] Go.wp_at_zero Go.wp_at_succ
theorem qap {B : Nat} {X W : World} (h : Below B X W) (k : Nat) : Below B X (W.drewN k) := ⟨h.os, h.tape, h.output, h.size, h.block⟩
theorem qab (w : World) (o : Obj) : Below w.heap.size w (w.alloc o) := (Below.refl _ _).alloc (Nat.le_refl _) o
theorem qaa (W : World) (B i : Nat) (cs : Array Value) (t : TypeId) (f : Nat × Nat) (h : W.heap[B]? = some (.cells cs t f)) : W.cell? ⟨B, i, none⟩ = cs[i]? := by
 simp [World.cell?, h]
theorem qac {W : World} {B : Nat} {cs : Array Value} {t : TypeId} (h : W.heap[B]? = some (.cells cs t (0, 0))) (i : Nat) : W.frozen? ⟨B, i, none⟩ = false := by
 simp [World.frozen?, h]
theorem qae {a b : Bool} (h : a = b) : Ending.returned (.bool a) = .returned (.bool b) := by rw [h]
theorem qeh {k : IntKind} {a b : Int} (h : a = b) : Ending.returned (.int k a) = .returned (.int k b) := by rw [h]
theorem qdd (blk off kid d len kb ko c : Nat) (w : World) (h3 : w.cell? ⟨blk, off + 3, none⟩ = some (.slice (some ⟨kb, ko, none⟩) len c)) (hk : kid < len) :
   Calls Tryz.prog 49 #[.agg #[.pointer (some ⟨blk, off, none⟩), .int .i64 kid, .int .i64 d]] w fun e w' => e = .returned (.pointer (some ⟨kb, ko + kid * 4, none⟩)) /\ Below w.heap.size w w' := by
 have hb := hid (qab w (.cells #[.pointer (some ⟨blk, off, none⟩), .int .i64 kid, .int .i64 d] 110))
 have h3' := (hb.out.cell (p := ⟨blk, off + 3, none⟩) (World.block_lt_of_cell? w _ h3)).trans h3
 have hn := World.alloc_heap_new w (.cells #[.pointer (some ⟨blk, off, none⟩), .int .i64 kid, .int .i64 d] 110)
 have c0 := qaa _ w.heap.size 0 _ _ _ hn
 have c1 := qaa _ w.heap.size 1 _ _ _ hn
 clear hn h3
 go_enter Tryz.func49, Tryz.ntmps49
 go_wp2_with fail
 go_quiet (fail)
 all_goals go_wp2
 all_goals go_ret
 all_goals exact ⟨rfl, qap hb.out _⟩
theorem qmt (x : Int) (h1 : -9223372036854775808 <= x) (h2 : x <= 9223372036854775807) : IntKind.i64.wrap x = x := by
 rw [IntKind.wrap_i64]; omega
theorem set3 {W : World} {B C i : Nat} {y : Value} (hne : C ≠ B) (u v x : Value) (h : W.cell? ⟨B, i, none⟩ = some y) : (((W.setCell ⟨C, 0, none⟩ u).setCell ⟨C, 1, none⟩ v).setCell ⟨C, 2, none⟩ x).cell? ⟨B, i, none⟩ = some y := by
 have n : ∀ j, (⟨C, j, none⟩ : Addr) ≠ ⟨B, i, none⟩ := fun j e => by injection e with e1; exact hne e1
 exact (World.cell?_setCell_other _ _ _ _ (n 2)).trans ((World.cell?_setCell_other _ _ _ _ (n 1)).trans ((World.cell?_setCell_other _ _ _ _ (n 0)).trans h))
theorem qim {W : World} {C : Nat} {a b c : Value} (u v x : Value) (h0 : W.cell? ⟨C, 0, none⟩ = some a) (h1 : W.cell? ⟨C, 1, none⟩ = some b) (h2 : W.cell? ⟨C, 2, none⟩ = some c) :
   (((W.setCell ⟨C, 0, none⟩ u).setCell ⟨C, 1, none⟩ v).setCell ⟨C, 2, none⟩ x).cell? ⟨C, 0, none⟩ = some u /\ (((W.setCell ⟨C, 0, none⟩ u).setCell ⟨C, 1, none⟩ v).setCell ⟨C, 2, none⟩ x).cell? ⟨C, 1, none⟩ = some v /\ (((W.setCell ⟨C, 0, none⟩ u).setCell ⟨C, 1, none⟩ v).setCell ⟨C, 2, none⟩ x).cell? ⟨C, 2, none⟩ = some x := by
 have n : ∀ i j : Nat, i ≠ j -> (⟨C, i, none⟩ : Addr) ≠ ⟨C, j, none⟩ := fun i j h e => by injection e with _ e1; exact h e1
 have e0 : (W.setCell ⟨C, 0, none⟩ u).cell? ⟨C, 0, none⟩ = some u := World.cell?_setCell_same' _ _ _ (by rw [h0]; rfl)
 have e1 : (W.setCell ⟨C, 0, none⟩ u).cell? ⟨C, 1, none⟩ = some b := (World.cell?_setCell_other _ _ _ _ (n 0 1 (by decide))).trans h1
 have e2 : (W.setCell ⟨C, 0, none⟩ u).cell? ⟨C, 2, none⟩ = some c := (World.cell?_setCell_other _ _ _ _ (n 0 2 (by decide))).trans h2
 have g1 : ((W.setCell ⟨C, 0, none⟩ u).setCell ⟨C, 1, none⟩ v).cell? ⟨C, 1, none⟩ = some v := World.cell?_setCell_same' _ _ _ (by rw [e1]; rfl)
 have g2 : ((W.setCell ⟨C, 0, none⟩ u).setCell ⟨C, 1, none⟩ v).cell? ⟨C, 2, none⟩ = some c := (World.cell?_setCell_other _ _ _ _ (n 1 2 (by decide))).trans e2
 refine ⟨(World.cell?_setCell_other _ _ _ _ (n 2 0 (by decide))).trans ((World.cell?_setCell_other _ _ _ _ (n 1 0 (by decide))).trans e0), (World.cell?_setCell_other _ _ _ _ (n 2 1 (by decide))).trans g1, World.cell?_setCell_same' _ _ _ (by rw [g2]; rfl)⟩
theorem qiY (blk off kid d len kb ko c i : Nat) (w : World) (h3 : w.cell? ⟨blk, off + 3, none⟩ = some (.slice (some ⟨kb, ko, none⟩) len c)) (hk : kid < len) (hd : d <= 4294967296) :
   Calls Tryz.prog 80 #[.agg #[.pointer (some ⟨blk, off, none⟩), .int .i64 kid, .int .i64 d], .int .i64 i] w fun e w' => e = .returned (.agg #[.pointer (some ⟨kb, ko + kid * 4, none⟩), .int .i64 i, .int .i64 ((d : Int) + 1)]) /\ Below w.heap.size w w' := by
 have hT : Hid (∀ W, Below w.heap.size w W -> Calls Tryz.prog 49 #[.agg #[.pointer (some ⟨blk, off, none⟩), .int .i64 kid, .int .i64 d]] W fun e w' => e = .returned (.pointer (some ⟨kb, ko + kid * 4, none⟩)) /\ Hid (Below W.heap.size W w')) := fun W hb =>
   qdd blk off kid d len kb ko c W ((hb.cell (p := ⟨blk, off + 3, none⟩) (World.block_lt_of_cell? w _ h3)).trans h3) hk
 obtain ⟨W0, hW0⟩ : ∃ W0, (w.alloc (.cells #[.pointer (some ⟨blk, off, none⟩), .int .i64 kid, .int .i64 d] 110)).alloc (.cells #[.pointer none, .int .i64 0, .int .i64 0] 110) = W0 := ⟨_, rfl⟩
 have hb0 : Below w.heap.size w W0 := by rw [<- hW0]; exact (qab _ _).alloc (by simp) _
 have hn1 : W0.heap[w.heap.size]? = some (.cells #[.pointer (some ⟨blk, off, none⟩), .int .i64 kid, .int .i64 d] 110 (0, 0)) := by
   rw [<- hW0]; exact (Below.heap_alloc _ _ _ (by simp)).trans (World.alloc_heap_new w _)
 have hn2 : W0.heap[w.heap.size + 1]? = some (.cells #[.pointer none, .int .i64 0, .int .i64 0] 110 (0, 0)) := by
   rw [<- hW0]
   have := World.alloc_heap_new (w.alloc (.cells #[.pointer (some ⟨blk, off, none⟩), .int .i64 kid, .int .i64 d] 110)) (.cells #[.pointer none, .int .i64 0, .int .i64 0] 110)
   rwa [World.size_alloc] at this
 have hsz : W0.heap.size = w.heap.size + 2 := by rw [<- hW0]; simp
 have hX : Hid (∀ n, Below w.heap.size w (W0.drewN n)) := fun n => qap hb0 n
 have hK : Hid (∀ n W, Below (W0.drewN n).heap.size (W0.drewN n) W -> (∀ i, W.frozen? ⟨w.heap.size + 1, i, none⟩ = false) /\ W.heap[w.heap.size + 1]? = some (.cells #[.pointer none, .int .i64 0, .int .i64 0] 110 (0, 0)) /\ Below w.heap.size w W /\ W.cell? ⟨w.heap.size, 0, none⟩ = some (.pointer (some ⟨blk, off, none⟩)) /\ W.cell? ⟨w.heap.size, 1, none⟩ = some (.int .i64 kid) /\ W.cell? ⟨w.heap.size, 2, none⟩ = some (.int .i64 d)) := fun n W h => by
   have e : (W0.drewN n).heap.size = w.heap.size + 2 := hsz
   have e2 := (h.block (w.heap.size + 1) (by omega)).trans hn2
   have e3 := (h.block w.heap.size (by omega)).trans hn1
   exact ⟨fun i => qac e2 i, e2, (qap hb0 n).trans (h.mono (by omega)), qaa W w.heap.size 0 _ _ _ e3, qaa W w.heap.size 1 _ _ _ e3, qaa W w.heap.size 2 _ _ _ e3⟩
 have q0 := qaa W0 w.heap.size 0 _ _ _ hn1
 have q1 := qaa W0 w.heap.size 1 _ _ _ hn1
 have q2 := qaa W0 w.heap.size 2 _ _ _ hn1
 replace hn1 := hid hn1
 replace hn2 := hid hn2
 replace hsz := hid hsz
 replace hb0 := hid hb0
 clear h3
 go_enter Tryz.func80, Tryz.ntmps80
 go_wp2_with fail
 replace hW0 := hid hW0
 go_region_held3 (fun w' => w'.cell? ⟨w.heap.size, 0, none⟩ = some (.pointer (some ⟨blk, off, none⟩)) /\ w'.cell? ⟨w.heap.size, 1, none⟩ = some (.int .i64 kid) /\ w'.cell? ⟨w.heap.size, 2, none⟩ = some (.int .i64 d)) (first | exact ⟨q0, q1, q2⟩ | exact ⟨set3 (by omega) _ _ _ q0, set3 (by omega) _ _ _ q1, set3 (by omega) _ _ _ q2⟩) (first | (go_at_call 49; refine (hT.out _ (hX.out 1)).mono ?_; rintro e w1 ⟨rfl, hb1⟩; clear q0 q1 q2; obtain ⟨f1, g1, b1, q0, q1, q2⟩ := hK.out 1 _ hb1.out; have f10 := f1 0; have f11 := f1 1; have f12 := f1 2; have g10 := qaa w1 (w.heap.size + 1) 0 _ _ _ g1; have g11 := qaa w1 (w.heap.size + 1) 1 _ _ _ g1; have g12 := qaa w1 (w.heap.size + 1) 2 _ _ _ g1; replace b1 := hid b1; replace g1 := hid g1; clear f1))
 have hw : IntKind.i64.wrap ((d : Int) + 1) = (d : Int) + 1 := qmt _ (by omega) (by omega)
 rw [hw]
 obtain ⟨x0, x1, x2⟩ := qim (.pointer (some ⟨kb, ko + kid * 4, none⟩)) (.int .i64 i) (.int .i64 ((d : Int) + 1)) g10 g11 g12
 have hbe : Below w.heap.size w (((w1.setCell ⟨w.heap.size + 1, 0, none⟩ (.pointer (some ⟨kb, ko + kid * 4, none⟩))).setCell ⟨w.heap.size + 1, 1, none⟩ (.int .i64 i)).setCell ⟨w.heap.size + 1, 2, none⟩ (.int .i64 ((d : Int) + 1))) :=
   ((b1.out.setCell (p := ⟨w.heap.size + 1, 0, none⟩) (Nat.le_succ _) _).setCell (p := ⟨w.heap.size + 1, 1, none⟩) (Nat.le_succ _) _).setCell (p := ⟨w.heap.size + 1, 2, none⟩) (Nat.le_succ _) _
 generalize ((w1.setCell ⟨w.heap.size + 1, 0, none⟩ (.pointer (some ⟨kb, ko + kid * 4, none⟩))).setCell ⟨w.heap.size + 1, 1, none⟩ (.int .i64 i)).setCell ⟨w.heap.size + 1, 2, none⟩ (.int .i64 ((d : Int) + 1)) = W9 at x0 x1 x2 hbe ⊢
 replace hbe := hid hbe
 clear f10 f11 f12 g10 g11 g12 q0 q1 q2 hw
 go_wp2_with fail
 refine bodyPost_ret (v := .agg #[.pointer (some ⟨kb, ko + kid * 4, none⟩), .int .i64 i, .int .i64 ((d : Int) + 1)]) ?_ rfl ⟨rfl, hbe.out⟩
 simp [results, Tryz.f80, go_sem, x0, x1, x2]
end Go.Proofs.YtjnfhebbphdchaaGreatDoor
namespace Go
variable {F : Fence} {n : Nat} {P : Program} {ops : Array Oper} {md : Region.Mode} {C : World -> Prop}
def Oper.late (o : Oper) : Bool := match o.op with
 | .defer _ => true
 | _ => false
theorem Oper.late_no {o : Oper} (h : o.late = false) (c : Call) : o.op ≠ .defer c := fun e => by
 unfold Oper.late at h
 rw [e] at h
 cases h
theorem qhA {o : Oper} {a : Act} {K : Act -> Prop} {K' : Act -> World -> Prop} {Q' : Exit -> Act -> World -> Prop} {w : World} (hl : o.late = false) (hw : C w) (h : ∀ a w', C w' -> K a -> K' a w')
   (ha : o.askedIn F P a C) (hh : o.quietIn F n P a C K) : o.wpIn F n P a w K' Q' := by
 obtain ⟨v, h1, h2⟩ := hh
 have h3 := h1 w hw
 unfold Oper.quietAtIn at h3
 refine ⟨ha w hw, ?_⟩
 rw [Oper.semAt_eq F.round a.eval o (Oper.late_no hl)]
 generalize (execOp a.eval o).run P w = r at h3 ⊢
 rcases r with ⟨x, w'⟩ | ⟨x, w'⟩
 . cases x <;> first | exact h3.elim | skip
   all_goals simp only [Oper.quietUponIn] at h3
   all_goals simp only [Oper.uponIn]
   . obtain ⟨rfl, rfl⟩ := h3
     exact h _ _ hw h2
   . obtain ⟨rfl, rfl⟩ := h3
     exact h _ _ hw h2
   . obtain ⟨rfl, hd, hc⟩ := h3
     refine ⟨hd, hc.mono fun e w2 hq => ?_⟩
     obtain ⟨rfl, hC2⟩ := hq
     exact h _ _ hC2 h2
 . exact h3.elim
def qlm (ops : Array Oper) : Prop := ∀ (i : Nat) (o : Oper), ops[i]? = some o -> o.late = false
theorem qiZ {l : List Oper} (h : l.all (fun o => !o.late) = true) : qlm l.toArray := fun i o ho => by
 have hm : o ∈ l := by
   rw [List.getElem?_toArray] at ho
   exact List.mem_of_getElem? ho
 have := List.all_eq_true.1 h o hm
 simpa using this
theorem qnL {i : Nat} {a : Act} {K : Act -> Prop} {K' : Act -> World -> Prop} {Q' : Exit -> Act -> World -> Prop} {w : World} (hn : qlm ops) (hC : C w) (h : ∀ a w', C w' -> K a -> K' a w')
   (hh : qOpIn F n P ops C i K a) : wpOpIn F n P ops Q' i K' a w := by
 unfold qOpIn at hh
 unfold wpOpIn
 cases ho : ops[i]? with
 | none => rw [ho] at hh; exact h _ _ hC hh
 | some o =>
   rw [ho] at hh
   obtain ⟨ha, hh⟩ := hh
   simp only at hh ⊢
   by_cases hw : Region.wanted o (yielded ops a.tmps) = true
   . rw [if_pos hw] at hh ⊢
     exact qhA (hn i o ho) hC h ha hh
   . rw [if_neg hw] at hh ⊢
     exact ⟨ha w hC, h _ _ hC hh⟩
theorem qja {Q : Act -> Prop} {Q' : Exit -> Act -> World -> Prop} (hn : qlm ops) (hQ : ∀ a w, C w -> Q a -> Q' .normal a w) : ∀ (fuel : Nat) (listed : Array Bool) (a : Act) (w : World), C w →
   wpAnyQIn F n P md ops C Q fuel listed a -> wpAnyIn F n P md ops Q' fuel listed a w
 | 0, _, _, _, hw, h => ⟨h.1, hQ _ _ hw h.2⟩
 | fuel + 1, _, _, _, hw, h => ⟨fun h0 => hQ _ _ hw (h.1 h0), fun i hi => qnL hn hw (fun a' w' hw' hk => qja hn hQ fuel _ a' w' hw' hk) (h.2 i hi)⟩
theorem qbL {id : Nat} {Q : Exit -> Act -> World -> Prop} {a : Act} {w : World} {l : List Oper} (hm : P.follows .mixedOrders = true) (hB : Region.lexB .any l.toArray = true) (hn : l.all (fun o => !o.late) = true)
   (h : wpQuietIn F n P l.toArray (fun w' => ∃ k, w' = w.drewN k) (fun a' => ∀ w', (∃ k, w' = w.drewN k) -> Q .normal a' w') l a) : (Code.region id l.toArray true).wpIn F n P Q a w := by
 have hB2 := hB
 simp only [Region.lexB, Bool.and_eq_true] at hB2
 refine wpIn_region_any hm (qja (C := fun w' => ∃ k, w' = w.drewN k) (Q := fun a' => ∀ w', (∃ k, w' = w.drewN k) -> Q .normal a' w') (qiZ hn) (fun _ w' hw' h => h w' hw') _ _ _ _ ⟨1, rfl⟩ ?_)
 have := wpAnyQIn_lex (F := F) (n := n) (P := P) (C := fun w' => ∃ k, w' = w.drewN k) (md := .any) hB2.1 l 0 (Array.replicate l.toArray.size false) a (by simp) (by simpa using hB2.2) h
 simpa using this
/-! A region that reads, then ends in operations in one forced order (a store), within a round of the wide fence. -/
section
variable {l : Nat}
theorem qmu {o : Oper} {a : Act} {w : World} {K K' : Act -> World -> Prop} {Q : Exit -> Act -> World -> Prop} (hl : o.late = false) (hK : ∀ a w, K a w -> K' a w) (h : o.wp P a w K Q) : o.wpIn (Fence.wide.inRound l) n P a w K' Q := by
 refine ⟨fun _ _ => trivial, ?_⟩
 rw [Oper.semAt_eq _ a.eval o (Oper.late_no hl)]
 unfold Oper.wp at h
 generalize (execOp a.eval o).run P w = r at h ⊢
 rcases r with ⟨x, w'⟩ | ⟨x, w'⟩
 . cases x <;> simp only [Oper.upon] at h <;> simp only [Oper.uponIn] <;> first | exact hK _ _ h | exact h.elim | skip
   . refine ⟨fun e => (by cases e), CallsIn.inRound l (callsIn_wide.2 (h.mono fun e w2 hq => ?_))⟩
     cases e <;> first | exact hK _ _ hq | exact hq
   . refine ⟨fun e => (by cases e), fun c cs _ => ?_⟩
     obtain ⟨v, w2, hv, hs⟩ := h c cs
     exact ⟨v, w2, hK _ _ hv, stepsIn_wide.2 hs⟩
 . cases x <;> simp only [Oper.upon] at h <;> simp only [Oper.uponIn] <;> first | exact h | exact h.elim
theorem qcE {Q : Exit -> Act -> World -> Prop} (hn : qlm ops) (hlo : ¬ LetsOut Q) : ∀ (fuel : Nat) (listed : Array Bool) (a : Act) (w : World),
   wpAny P md ops Q fuel listed a w -> wpAnyIn (Fence.wide.inRound l) n P md ops Q fuel listed a w
 | 0, _, _, _, h => h
 | fuel + 1, listed, a, w, h => ⟨h.1, fun i hi => by
   have h2 := h.2 i hi
   unfold wpOp at h2
   unfold wpOpIn
   cases ho : ops[i]? with
   | none => rw [ho] at h2; exact qcE hn hlo fuel _ _ _ h2
   | some o =>
     rw [ho] at h2
     simp only at h2 ⊢
     by_cases hw : Region.wanted o (yielded ops a.tmps) = true
     . rw [if_pos hw] at h2 ⊢
       exact qmu (hn i o ho) (fun a' w' hk => qcE hn hlo fuel _ a' w' hk) (h2.resolve_right fun hx => hlo hx.2)
     . rw [if_neg hw] at h2 ⊢
       exact ⟨fun _ _ => trivial, qcE hn hlo fuel _ _ _ h2⟩⟩
end
end Go
namespace Go.Proofs.YtjnfhebbphdchaaGreatDoor
open Go.RowKit Go.Shelf Go.Tm
def PT (n₀ : Nat) (T : List Nat) (W : World) (b : Nat) : Prop := b < n₀ ∨ (b ∈ T /\ TyB W b)
def PS (n₀ : Nat) (W : World) (b : Nat) : Prop := b < n₀ ∨ TyB W b
def PlIn (n₀ : Nat) (x : Pl) (W : World) : Prop := qan W (PS n₀ W) x.blk x.off x.par /\ x.kid < x.par.kids.length
theorem _root_.Go.TyB.same {W W' : World} {k : Nat} (h : TyB W k) (e : W'.heap[k]? = W.heap[k]?) : TyB W' k := by
 obtain ⟨cs, f, h⟩ := h
 exact ⟨cs, f, e.trans h⟩
theorem PlIn.ok {n₀ : Nat} {x : Pl} {W : World} (h : PlIn n₀ x W) : PlOk x W := ⟨h.1.wide fun _ _ => trivial, h.2⟩
theorem qan.stay {n₀ : Nat} {W W' : World} (hl : ∀ k, k < n₀ -> W'.heap[k]? = W.heap[k]?) (ht : ∀ k, TyB W k -> W'.heap[k]? = W.heap[k]?) {b o : Nat} {t : Go.Tm.T} (h : qan W (PS n₀ W) b o t) : qan W' (PS n₀ W') b o t :=
 qan.kept (fun b hb => hb.imp id fun hb => hb.same (ht b hb)) (fun b hb => hb.elim (hl b) (ht b)) h
theorem ItStep.of_below {T : List Nat} {W W' : World} (h : Below W.heap.size W W') : ItStep T T W W' :=
 ⟨h.mono (Nat.zero_le _), fun k _ hk _ => (h.block k (Array.getElem?_eq_some_iff.1 hk).1).trans hk, fun _ hk => .inl hk, fun k ⟨_, _, hk⟩ => h.block k (Array.getElem?_eq_some_iff.1 hk).1⟩
theorem ItStep.alloc (T : List Nat) (W : World) (o : Obj) : ItStep T (W.heap.size :: T) W (W.alloc o) := by
 have h := qab W o
 refine ⟨h.mono (Nat.zero_le _), fun k _ hk _ => (h.block k (Array.getElem?_eq_some_iff.1 hk).1).trans hk, fun k hk => ?_, fun k ⟨_, _, hk⟩ => h.block k (Array.getElem?_eq_some_iff.1 hk).1⟩
 rcases List.mem_cons.1 hk with rfl | hk
 . exact .inr (Nat.le_refl _)
 . exact .inl hk
structure Run (J : List Pl -> List Nat -> World -> Prop) (n₀ : Nat) (T0 : List Nat) (W0 : World) (pre : List Pl) (T : List Nat) (W : World) : Prop where
 j : J pre T W
 sub : ∀ k, k ∈ T0 -> k ∈ T
 lt : ∀ k, k ∈ T -> k < W.heap.size
 below : Below n₀ W0 W
 keep : KeepT T0 W0 W
 n0 : n₀ <= W.heap.size
section
variable {J : List Pl -> List Nat -> World -> Prop} {n₀ : Nat} {T0 T : List Nat} {W0 W W' : World} {pre : List Pl}
theorem Run.later (hJ : ∀ pre T T' W W', J pre T W -> ItStep T T' W W' -> J pre T' W') (h : Run J n₀ T0 W0 pre T W) (hb : Below W.heap.size W W') : Run J n₀ T0 W0 pre T W' :=
 ⟨hJ _ _ _ _ _ h.j (ItStep.of_below hb), h.sub, fun k hk => Nat.lt_of_lt_of_le (h.lt k hk) hb.size, h.below.trans (hb.mono h.n0), fun k hk => (hb.block k (h.lt k (h.sub k hk))).trans (h.keep k hk), Nat.le_trans h.n0 hb.size⟩
theorem Run.alloc (hJ : ∀ pre T T' W W', J pre T W -> ItStep T T' W W' -> J pre T' W') (h : Run J n₀ T0 W0 pre T W) (o : Obj) : Run J n₀ T0 W0 pre (W.heap.size :: T) (W.alloc o) := by
 have hb := qab W o
 have h2 := Run.later hJ h hb
 refine ⟨hJ _ _ _ _ _ h.j (ItStep.alloc T W o), fun k hk => List.mem_cons_of_mem _ (h.sub k hk), fun k hk => ?_, h2.below, h2.keep, h2.n0⟩
 rcases List.mem_cons.1 hk with rfl | hk
 . simp
 . exact h2.lt k hk
theorem Run.grown (hJ : ∀ pre T T' W W', J pre T W -> ItStep T T' W W' -> J pre T' W') (h : Run J n₀ T0 W0 pre T W) {row : Option Nat} {g' : Nat} (hg : W.grownBy W' row) (hrow : ∀ r, row = some r -> r ∈ T /\ r ∉ T0 /\ n₀ <= r) (hty : ∀ r, row = some r -> ¬ TyB W r) (hg' : g' ∈ T ∨ g' = W.heap.size) (hlt : g' < W'.heap.size) :
   Run J n₀ T0 W0 pre (g' :: T) W' := by
 have hb0 : Below 0 W W' := (Below.refl 0 W).grown hg (Nat.zero_le _) (fun _ _ => Nat.zero_le _)
 refine ⟨hJ _ _ _ _ _ h.j ⟨hb0, fun k o hk hT => (hg.block k (Array.getElem?_eq_some_iff.1 hk).1 (fun e => hT (hrow k e.symm).1)).trans hk, fun k hk => ?_, fun k hk => hg.block k (Array.getElem?_eq_some_iff.1 hk.choose_spec.choose_spec).1 (fun e => hty k e.symm hk)⟩, fun k hk => List.mem_cons_of_mem _ (h.sub k hk), fun k hk => ?_, h.below.trans ?_, fun k hk => ?_, Nat.le_trans h.n0 hg.size⟩
 . rcases List.mem_cons.1 hk with rfl | hk
   . rcases hg' with hg' | rfl
     . exact .inl hg'
     . exact .inr (Nat.le_refl _)
   . exact .inl hk
 . rcases List.mem_cons.1 hk with rfl | hk
   . exact hlt
   . exact Nat.lt_of_lt_of_le (h.lt k hk) hg.size
 . exact (Below.refl n₀ W).grown hg h.n0 (fun k e => (hrow k e).2.2)
 . exact (hg.block k (h.lt k (h.sub k hk)) (fun e => (hrow k e.symm).2.1 hk)).trans (h.keep k hk)
theorem Run.start (hJ : J pre T W) (hlt : ∀ k, k ∈ T -> k < W.heap.size) (hn : n₀ <= W.heap.size) : Run J n₀ T W pre T W :=
 ⟨hJ, fun _ h => h, hlt, Below.refl _ _, fun _ _ => rfl, hn⟩
theorem Run.round {x : Pl} (h : Run J n₀ T0 W0 pre T W) (hj : J (pre ++ [x]) T W') (hk : KeepT T W W') (hb : Below n₀ W W') : Run J n₀ T0 W0 (pre ++ [x]) T W' :=
 ⟨hj, h.sub, fun k hk2 => Nat.lt_of_lt_of_le (h.lt k hk2) hb.size, h.below.trans hb, fun k hk2 => (hk k (h.sub k hk2)).trans (h.keep k hk2), Nat.le_trans h.n0 hb.size⟩
end
def Went (J : List Pl -> List Nat -> World -> Prop) (Jx : List Pl -> World -> Prop) (n₀ : Nat) (T0 : List Nat) (W0 : World) (pre : List Pl) (ys : List P3) (e : Ending) (W' : World) : Prop :=
 (e = .returned (.bool true) /\ ∃ xs T', xs.map Pl.p3 = ys /\ Run J n₀ T0 W0 (pre ++ xs) T' W') ∨
 (e = .returned (.bool false) /\ ∃ q : List Pl, q.map Pl.p3 <+: ys /\ Jx (pre ++ q) W')
def qnM (P : Program) (l n₀ : Nat) (L : List P3) (J : List Pl -> List Nat -> World -> Prop) (Jx : List Pl -> World -> Prop) : Prop :=
 ∀ m pre T x W1, J pre T W1 -> PlIn n₀ x W1 -> (pre ++ [x]).map Pl.p3 <+: L -> (∀ k, k ∈ T -> k < W1.heap.size) -> YieldAt Fence.wide m P l #[plV x] W1 fun e W' =>
   (e = .returned (.bool true) /\ J (pre ++ [x]) T W' /\ KeepT T W1 W' /\ Below n₀ W1 W') ∨ (e = .returned (.bool false) /\ Jx (pre ++ [x]) W')
/-! what is still to come, of a list of places of which the last one comes first -/
def sibs (d0 : Nat) (e : Pl) : List P3 := if d0 < e.depth then walks e.par (e.kid + 1) e.depth (e.par.kids.drop (e.kid + 1)) else []
def pend (d0 : Nat) (e : Pl) : List P3 := walk e.par e.kid e.depth e.t ++ sibs d0 e
def pends (d0 : Nat) : List Pl -> List P3
 | [] => []
 | e :: st => pends d0 st ++ pend d0 e
theorem qdw (d0 : Nat) : ∀ (a b : List Pl), pends d0 (a ++ b) = pends d0 b ++ pends d0 a
 | [], b => by simp [pends]
 | e :: a, b => by rw [List.cons_append, pends, qdw d0 a b, pends, List.append_assoc]
theorem qbR (d0 : Nat) (st : List Pl) (e : Pl) : pends d0 (st ++ [e]) = pend d0 e ++ pends d0 st := by
 rw [qdw]; simp [pends]
theorem qin (d0 : Nat) (e : Pl) : pend d0 e = e.p3 :: (walks e.t 0 (e.depth + 1) e.t.kids ++ sibs d0 e) := by
 unfold pend; rw [qfg]; rfl
theorem qjb {d0 : Nat} {e : Pl} (hd : d0 < e.depth) (hk : e.kid < e.par.kids.length) : pend d0 e = walks e.par e.kid e.depth (e.par.kids.drop e.kid) := by
 unfold pend sibs
 rw [if_pos hd, qdR _ _ _ hk]; rfl
end Go.Proofs.YtjnfhebbphdchaaGreatDoor
namespace Go.Proofs.YtjnfhebbphdchaaGreatDoor
open Go.RowKit Go.Shelf Go.Tm
attribute [local go_sem] Oper.semAt_some
theorem wide1 (n : Nat) : Fence.wide.depth.isSome = true -> 1 <= n := fun h => by simp [Fence.wide] at h
def plC (e : Pl) : List Value := [.pointer (some ⟨e.blk, e.off, none⟩), .int .i64 e.kid, .int .i64 e.depth]
def qdx (st : List Pl) : List Value := st.flatMap plC
theorem qdS (st : List Pl) : (qdx st).length = st.length * 3 := by
 induction st with
 | nil => rfl
 | cons e st ih =>
   show (plC e ++ qdx st).length = _
   rw [List.length_append, ih]; simp [plC]; omega
theorem qej (st : List Pl) (e : Pl) : qdx (st ++ [e]) = qdx st ++ plC e := by simp [qdx]
theorem qmv : (Tryz.prog.info? 110).map (fun i => (i.zero, i.size, i.bytes)) = some (some (.agg #[.pointer none, .int .i64 0, .int .i64 0]), 3, 24) := by kernel_rfl
theorem Run.node {J : List Pl -> List Nat -> World -> Prop} {n₀ : Nat} {T0 T : List Nat} {W0 W : World} {pre : List Pl} (h : Run J n₀ T0 W0 pre T W) {b o : Nat} {t : Go.Tm.T} (hn : qan W0 (PT n₀ T0 W0) b o t) : qan W (PT n₀ T0 W) b o t :=
 qan.kept (fun k hk => hk.imp id fun hk => ⟨hk.1, hk.2.same (h.keep k hk.1)⟩) (fun k hk => hk.elim (fun hk => h.below.block k hk) (fun hk => h.keep k hk.1)) hn
theorem Run.cell {J : List Pl -> List Nat -> World -> Prop} {n₀ : Nat} {T0 T : List Nat} {W0 W : World} {pre : List Pl} (h : Run J n₀ T0 W0 pre T W) {b : Nat} (hb : PT n₀ T0 W0 b) (i : Nat) : W.cell? ⟨b, i, none⟩ = W0.cell? ⟨b, i, none⟩ :=
 World.cell?_of_block (a := ⟨b, i, none⟩) (hb.elim (fun hk => h.below.block b hk) (fun hk => h.keep b hk.1))
theorem qkn (t : T) : t.kids.length <= t.size := by
 have : ∀ ks : List T, ks.length <= sizes ks := fun ks => by
   induction ks with
   | nil => simp [sizes]
   | cons a ks ih => rw [sizes, List.length_cons]; have := qil a; omega
 have := this t.kids
 rw [qnJ]; omega
structure BI (J : List Pl -> List Nat -> World -> Prop) (n₀ : Nat) (T : List Nat) (W : World) (pre : List Pl) (x : Pl) (st xs : List Pl) (T' : List Nat) (gb cap : Nat) (wr : World) : Prop where
 run : Run J n₀ T W (pre ++ xs) T' wr
 own : wr.ownsRow (W.heap.size + 1) 110 3 (.slice (some ⟨gb, 0, none⟩) st.length cap) st.length (qdx st)
 gT : gb ∈ T'
 gn : W.heap.size + 1 <= gb
 fst : wr.heap[W.heap.size]? = some (.cells #[.pointer (some ⟨x.blk, x.off, none⟩), .int .i64 x.kid, .int .i64 x.depth] 110 (0, 0))
 fT : W.heap.size ∈ T'
 ys : walk x.par x.kid x.depth x.t = xs.map Pl.p3 ++ pends x.depth st
 ok : ∀ e, e ∈ st -> qan W (PT n₀ T W) e.blk e.off e.par /\ e.kid < e.par.kids.length /\ x.depth <= e.depth /\ e.depth + e.par.size <= 8388608
theorem qln (d0 : Nat) : ∀ st : List Pl, st.length <= (pends d0 st).length
 | [] => Nat.zero_le _
 | e :: st => by
   have := qln d0 st
   rw [pends, List.length_append, qin, List.length_cons, List.length_cons]
   omega
theorem BI.len {J : List Pl -> List Nat -> World -> Prop} {n₀ : Nat} {T : List Nat} {W : World} {pre : List Pl} {x : Pl} {st xs : List Pl} {T' : List Nat} {gb cap : Nat} {wr : World} (h : BI J n₀ T W pre x st xs T' gb cap wr) (hsz : x.depth + x.t.size <= 8388608) : st.length <= 8388608 := by
 have h1 := qln x.depth st
 have h2 := congrArg List.length h.ys
 rw [qeq, List.length_append] at h2
 omega
theorem qrs {W : World} {base gb n cap : Nat} {st : List Pl} {e : Pl} (h : W.ownsRow base 110 3 (.slice (some ⟨gb, 0, none⟩) n cap) (st ++ [e]).length (qdx (st ++ [e]))) :
   W.cell? ⟨gb, st.length * 3, none⟩ = some (.pointer (some ⟨e.blk, e.off, none⟩)) /\ W.cell? ⟨gb, st.length * 3 + 1, none⟩ = some (.int .i64 e.kid) /\ W.cell? ⟨gb, st.length * 3 + 2, none⟩ = some (.int .i64 e.depth) := by
 have hc := h.cells (g := gb) rfl
 have hadd : ∀ j, (⟨gb, 0, none⟩ : Addr).add j = ⟨gb, j, none⟩ := fun j => by unfold Addr.add; split <;> simp_all
 have hg : ∀ i v, (plC e)[i]? = some v -> W.cell? ⟨gb, st.length * 3 + i, none⟩ = some v := fun i v hv => by
   have := hc (st.length * 3 + i) v (by rw [qej, List.getElem?_append_right (by rw [qdS]; omega), qdS, Nat.add_sub_cancel_left]; exact hv)
   rwa [hadd] at this
 exact ⟨hg 0 _ rfl, hg 1 _ rfl, hg 2 _ rfl⟩
theorem qaU {W : World} {base gb n m cap : Nat} {e : TypeId} {size : Nat} {xs : List Value} (h : W.ownsRow base e size (.slice (some ⟨gb, 0, none⟩) n cap) m xs) : gb < W.heap.size := by
 obtain ⟨_, h2 | ⟨g, cp, cur, hv, hbg, hg, _⟩⟩ := h
 . obtain ⟨h2, _⟩ := h2; cases h2
 . cases hv; exact (Array.getElem?_eq_some_iff.1 hg).1
theorem qfY {W W1 W2 : World} {base gb n m cap : Nat} {e : TypeId} {size : Nat} {xs : List Value} (h : W.ownsRow base e size (.slice (some ⟨gb, 0, none⟩) n cap) m xs) (h2 : W2.heap[gb]? = W1.heap[gb]?) (h1 : W1.heap[gb]? = W.heap[gb]?) : W2.ownsRow base e size (.slice (some ⟨gb, 0, none⟩) n cap) m xs := by
 obtain ⟨g0, g1 | ⟨g, cp, cur, hv, hbg, hg, r⟩⟩ := h
 . obtain ⟨g1, _⟩ := g1; cases g1
 . cases hv; exact ⟨g0, .inr ⟨_, _, cur, rfl, hbg, (h2.trans h1).trans hg, r⟩⟩
theorem _root_.Go.World.lt_of_get {W : World} {k : Nat} {o : Obj} (h : W.heap[k]? = some o) : k < W.heap.size := (Array.getElem?_eq_some_iff.1 h).1
theorem qrt {W : World} {base gb n cap : Nat} {st : List Pl} {e : Pl} (h : W.ownsRow base 110 3 (.slice (some ⟨gb, 0, none⟩) n cap) (st ++ [e]).length (qdx (st ++ [e]))) :
   W.ownsRow base 110 3 (.slice (some ⟨gb, 0, none⟩) st.length cap) st.length (qdx st) := by
 obtain ⟨h1, h2 | ⟨g, cp, cur, hv, hbg, hg, r1, r2, r3, r4⟩⟩ := h
 . obtain ⟨h2, _⟩ := h2; cases h2
 . cases hv
   refine ⟨qdS st, .inr ⟨_, _, cur, rfl, hbg, hg, ?_, r2, r3, ?_⟩⟩
   . rw [List.length_append] at r1; simp at r1; omega
   . have := congrArg (List.take (st.length * 3)) r4
     rw [List.take_take, qej, List.take_left' (qdS st)] at this
     rw [<- this]
     congr 1
     rw [List.length_append, List.length_singleton]; omega
structure MI (J : List Pl -> List Nat -> World -> Prop) (n₀ : Nat) (T : List Nat) (W : World) (pre : List Pl) (x e : Pl) (Bp : Nat) (st xs : List Pl) (T' : List Nat) (gb cap : Nat) (wr : World) : Prop where
 run : Run J n₀ T W (pre ++ xs) T' wr
 own : wr.ownsRow (W.heap.size + 1) 110 3 (.slice (some ⟨gb, 0, none⟩) st.length cap) st.length (qdx st)
 gT : gb ∈ T'
 gn : W.heap.size + 1 <= gb
 fst : wr.heap[W.heap.size]? = some (.cells #[.pointer (some ⟨x.blk, x.off, none⟩), .int .i64 x.kid, .int .i64 x.depth] 110 (0, 0))
 fT : W.heap.size ∈ T'
 bp : wr.heap[Bp]? = some (.cells #[.pointer (some ⟨e.blk, e.off, none⟩), .int .i64 e.kid, .int .i64 e.depth] 110 (0, 0))
 bne : gb ≠ Bp
 hT : ∀ k, k ∈ T -> k < W.heap.size
 n0 : n₀ <= W.heap.size
section
variable {J : List Pl -> List Nat -> World -> Prop} {n₀ : Nat} {T : List Nat} {W : World} {pre : List Pl} {x e : Pl} {Bp : Nat} {st xs : List Pl} {T' : List Nat} {gb cap : Nat} {wr : World}
theorem MI.later (hJ : ∀ pre T T' W W', J pre T W -> ItStep T T' W W' -> J pre T' W') (h : MI J n₀ T W pre x e Bp st xs T' gb cap wr) {w' : World} (hb : Below wr.heap.size wr w') : MI J n₀ T W pre x e Bp st xs T' gb cap w' :=
 ⟨h.run.later hJ hb, qfY h.own (W1 := wr) (hb.block gb (qaU h.own)) rfl, h.gT, h.gn, (hb.block _ (World.lt_of_get h.fst)).trans h.fst, h.fT, (hb.block _ (World.lt_of_get h.bp)).trans h.bp, h.bne, h.hT, h.n0⟩
theorem MI.push (hJ : ∀ pre T T' W W', J pre T W -> ItStep T T' W W' -> J pre T' W') (h : MI J n₀ T W pre x e Bp st xs T' gb cap wr) (y : Pl) {v' : Value} {w' : World} {news : List Value} (hy : plC y = news) {n : Nat} (hnl : n = st.length)
   (hown' : w'.ownsRow (W.heap.size + 1) 110 3 v' (n + 1) (qdx st ++ news)) (hgrow : wr.grownBy w' (Value.ownBlock (.slice (some ⟨gb, 0, none⟩) n cap))) (hat : v'.ownBlock = Value.ownBlock (.slice (some ⟨gb, 0, none⟩) n cap) ∨ v'.ownBlock = some wr.heap.size) :
   ∃ gb' cap', v' = .slice (some ⟨gb', 0, none⟩) (n + 1) cap' /\ MI J n₀ T W pre x e Bp (st ++ [y]) xs (gb' :: T') gb' cap' w' := by
 subst hy hnl
 have hown2 := hown'
 obtain ⟨g0, g1 | ⟨g, cp, cur, hv, hbg, hg, r⟩⟩ := hown'
 . exact absurd g1.2 (by omega)
 . subst hv
   have hgn := h.gn
   have hbp := World.lt_of_get h.bp
   have hf := World.lt_of_get h.fst
   have hgg : g = gb ∨ g = wr.heap.size := by simpa [Value.ownBlock] using hat
   have hgT : g ∈ T' ∨ g = wr.heap.size := by
     rcases hgg with e1 | e1
     . exact .inl (by rw [e1]; exact h.gT)
     . exact .inr e1
   have hlen : (st ++ [y]).length = st.length + 1 := by simp
   refine ⟨g, cp, rfl, ⟨h.run.grown hJ hgrow (fun r er => ?_) (fun r er => ?_) hgT (World.lt_of_get hg), by rw [hlen, qej]; exact hown2, List.mem_cons_self .., hbg, ?_, List.mem_cons_of_mem _ h.fT, ?_, ?_, h.hT, h.n0⟩⟩
   . obtain rfl : gb = r := by simpa [Value.ownBlock] using er
     refine ⟨h.gT, fun hk => ?_, ?_⟩
     . have := h.hT _ hk; omega
     . have := h.n0; omega
   . obtain rfl : gb = r := by simpa [Value.ownBlock] using er
     obtain ⟨_, q1 | ⟨q, _, _, qv, _, qg, _⟩⟩ := h.own
     . obtain ⟨q1, _⟩ := q1; cases q1
     . cases qv
       rintro ⟨cs, f, hc⟩
       rw [qg] at hc; cases hc
   . exact (hgrow.block _ hf (by simp [Value.ownBlock]; omega)).trans h.fst
   . exact (hgrow.block _ hbp (by simp [Value.ownBlock]; exact fun e => h.bne e.symm)).trans h.bp
   . rcases hgg with rfl | rfl
     . exact h.bne
     . omega
end
theorem qfh {ys : List P3} {d0 : Nat} {s' xs st2 : List Pl} {e : Pl} (h : ys = xs.map Pl.p3 ++ pends d0 (s' ++ [e])) (h2 : pends d0 st2 = walks e.t 0 (e.depth + 1) e.t.kids ++ (sibs d0 e ++ pends d0 s')) :
   ys = (xs ++ [e]).map Pl.p3 ++ pends d0 st2 /\ (pends d0 st2).length < (pends d0 (s' ++ [e])).length := by
 have e1 : pends d0 (s' ++ [e]) = e.p3 :: pends d0 st2 := by
   rw [qbR, qin, h2]; simp
 rw [e1] at h ⊢
 refine ⟨by rw [h]; simp, by simp⟩
theorem qnN {L ys : List P3} {d0 : Nat} {s' xs pre : List Pl} {e : Pl} (h : pre.map Pl.p3 ++ ys <+: L) (hy : ys = xs.map Pl.p3 ++ pends d0 (s' ++ [e])) : ((pre ++ xs) ++ [e]).map Pl.p3 <+: L := by
 refine List.IsPrefix.trans ?_ h
 rw [hy, qbR, qin]
 exact ⟨walks e.t 0 (e.depth + 1) e.t.kids ++ sibs d0 e ++ pends d0 s', by simp⟩
theorem qlo {d0 : Nat} {e : Pl} (hd : d0 < e.depth) (hs : e.kid + 1 < e.par.kids.length) : pend d0 ⟨e.blk, e.off, e.par, e.kid + 1, e.depth⟩ = sibs d0 e := by
 rw [qjb (e := ⟨e.blk, e.off, e.par, e.kid + 1, e.depth⟩) hd hs]
 unfold sibs
 rw [if_pos hd]
theorem qlp {d0 : Nat} {e : Pl} (h : ¬ (d0 < e.depth /\ e.kid + 1 < e.par.kids.length)) : sibs d0 e = [] := by
 unfold sibs
 by_cases hd : d0 < e.depth
 . rw [if_pos hd, List.drop_eq_nil_of_le (by omega), walks]
 . rw [if_neg hd]
theorem qfi {d0 : Nat} {e : Pl} (b o : Nat) (hd : d0 <= e.depth) (hs : 0 < e.t.kids.length) : pend d0 ⟨b, o, e.t, 0, e.depth + 1⟩ = walks e.t 0 (e.depth + 1) e.t.kids := by
 rw [qjb (e := ⟨b, o, e.t, 0, e.depth + 1⟩) (by show d0 < e.depth + 1; omega) hs, List.drop_zero]
theorem qfj {t : Go.Tm.T} {d : Nat} {ks : List Go.Tm.T} (h : ¬ 0 < ks.length) : walks t 0 d ks = [] := by
 have h2 : ks = [] := List.eq_nil_of_length_eq_zero (by omega)
 rw [h2, walks]
theorem qfk (blk off kid d len kb ko c : Nat) (w : World) (h3 : w.cell? ⟨blk, off + 3, none⟩ = some (.slice (some ⟨kb, ko, none⟩) len c)) (hk : kid < len) (hd : d <= 4294967296) :
   Calls Tryz.prog 80 #[.agg #[.pointer (some ⟨blk, off, none⟩), .int .i64 kid, .int .i64 d], .int .i64 0] w fun e w' => e = .returned (.agg #[.pointer (some ⟨kb, ko + kid * 4, none⟩), .int .i64 0, .int .i64 ((d : Int) + 1)]) /\ Below w.heap.size w w' :=
 qiY blk off kid d len kb ko c 0 w h3 hk hd
theorem qdT (W : World) (a b c : Value) (t : TypeId) : ∀ (j : Nat) (u : Value), [a, b, c][j]? = some u -> (W.alloc (.cells #[a, b, c] t)).cell? ((⟨W.heap.size, 0, none⟩ : Addr).add j) = some u := by
 intro j u hu
 have hadd : (⟨W.heap.size, 0, none⟩ : Addr).add j = ⟨W.heap.size, j, none⟩ := by unfold Addr.add; split <;> simp_all
 rw [hadd, qaa _ W.heap.size j _ _ _ (World.alloc_heap_new W _)]
 simpa using hu
theorem one3 (x : Option Addr) (a b : Int) : ∀ u ∈ [Value.pointer x, .int .i64 a, .int .i64 b], u.oneCell' = true := by
 intro u hu
 simp at hu
 rcases hu with rfl | rfl | rfl <;> rfl
theorem qpM (n l n₀ : Nat) (L : List P3) (J : List Pl -> List Nat -> World -> Prop) (Jx : List Pl -> World -> Prop) (hJ : ∀ pre T T' W W', J pre T W -> ItStep T T' W W' -> J pre T' W') (hY : qnM Tryz.prog l n₀ L J Jx)
   (x : Pl) (pre : List Pl) (T : List Nat) (W : World) (hn : n₀ <= W.heap.size) (hj : J pre T W) (hlt : ∀ k, k ∈ T -> k < W.heap.size) (hx : qan W (PT n₀ T W) x.blk x.off x.par) (hk : x.kid < x.par.kids.length) (hsz : x.depth + x.par.size <= 8388608) (hS : pre.map Pl.p3 ++ walk x.par x.kid x.depth x.t <+: L) :
   CallsIn Fence.wide n Tryz.prog 79 #[plV x, .func (.yield l) #[] #[]] W (Went J Jx n₀ T W pre (walk x.par x.kid x.depth x.t)) := by
 obtain ⟨i0, hi, hi2⟩ := Option.map_eq_some_iff.1 qmv
 obtain ⟨hz0, hz1, hz2⟩ : i0.zero = some (.agg #[.pointer none, .int .i64 0, .int .i64 0]) /\ i0.size = 3 /\ i0.bytes = 24 := by
   injection hi2 with h1 h2; injection h2 with h2 h3; exact ⟨h1, h2, h3⟩
 replace hi := hid hi
 replace hz0 := hid hz0
 replace hz1 := hid hz1
 replace hz2 := hid hz2
 clear hi2
 have hB0 : Hid (BI J n₀ T W pre x [x] [] ((W.heap.size + 1) :: W.heap.size :: T) (W.heap.size + 1) 1 ((W.alloc (.cells #[.pointer (some ⟨x.blk, x.off, none⟩), .int .i64 x.kid, .int .i64 x.depth] 110)).alloc (.cells #[.pointer (some ⟨x.blk, x.off, none⟩), .int .i64 x.kid, .int .i64 x.depth] 110))) := by
   have r0 : Run J n₀ T W pre T W := Run.start hj hlt hn
   have r1 := (r0.alloc hJ (.cells #[.pointer (some ⟨x.blk, x.off, none⟩), .int .i64 x.kid, .int .i64 x.depth] 110)).alloc hJ (.cells #[.pointer (some ⟨x.blk, x.off, none⟩), .int .i64 x.kid, .int .i64 x.depth] 110)
   rw [World.size_alloc] at r1
   have hn2 := World.alloc_heap_new (W.alloc (.cells #[.pointer (some ⟨x.blk, x.off, none⟩), .int .i64 x.kid, .int .i64 x.depth] 110)) (.cells #[.pointer (some ⟨x.blk, x.off, none⟩), .int .i64 x.kid, .int .i64 x.depth] 110)
   rw [World.size_alloc] at hn2
   refine ⟨by rw [List.append_nil]; exact r1, ⟨rfl, .inr ⟨_, _, _, rfl, Nat.le_refl _, hn2, Nat.le_refl _, by decide, rfl, rfl⟩⟩, by simp, Nat.le_refl _, ?_, by simp, ?_, ?_⟩
   . exact (Below.heap_alloc _ _ _ (by simp)).trans (World.alloc_heap_new W _)
   . rw [List.map_nil, List.nil_append, pends, pends, List.nil_append]
     unfold pend sibs
     rw [if_neg (Nat.lt_irrefl _), List.append_nil]
   . intro e he
     obtain rfl := List.mem_singleton.1 he
     exact ⟨hx, hk, Nat.le_refl _, hsz⟩
 refine callsIn_of_wp Tryz.func79 rfl trivial ?_ rfl
 simp only [Tryz.ntmps79, List.size_toArray, List.length_cons, List.length_nil, Nat.reduceAdd, Nat.reduceSub, Array.replicate_succ, Array.replicate_zero, List.push_toArray, List.append_toArray, List.nil_append, List.cons_append, plV]
 have hsx : x.depth + x.t.size <= 8388608 := by have := qci x.par x.kid hk; show x.depth + (x.par.kids.getD x.kid default).size <= _; omega
 clear hj hx hk
 replace hlt := hid hlt
 replace hS := hid hS
 gi_wp2
 gi_loopg [5] ((pends x.depth [x]).length) (fun g v wr => ∃ (st xs : List Pl) (T' : List Nat) (gb cap : Nat), g = (pends x.depth st).length /\ v = .slice (some ⟨gb, 0, none⟩) st.length cap /\ Hid (BI J n₀ T W pre x st xs T' gb cap wr))
 case atStart => exact ⟨[x], [], _, _, _, rfl, rfl, hB0⟩
 case round =>
   clear hB0
   obtain ⟨st, xs, T', gb, cap, rfl, rfl, hB⟩ := hrel
   rcases List.eq_nil_or_concat st with rfl | ⟨s', e, he⟩
   . gi_wp2
     go_ret
     exact .inl ⟨rfl, xs, T', by have := hB.out.ys; rw [pends, List.append_nil] at this; exact this.symm, hB.out.run⟩
   . rw [List.concat_eq_append] at he
     subst he
     have hlen : (s' ++ [e]).length = s'.length + 1 := by simp
     obtain ⟨c0, c1, c2⟩ := qrs hB.out.own
     obtain ⟨k1, k2, k3, k4⟩ := hB.out.ok e (by simp)
     have hr3 := Run.alloc hJ hB.out.run (.cells #[.pointer (some ⟨e.blk, e.off, none⟩), .int .i64 e.kid, .int .i64 e.depth] 110)
     have hok3 : PlIn n₀ e (wr.alloc (.cells #[.pointer (some ⟨e.blk, e.off, none⟩), .int .i64 e.kid, .int .i64 e.depth] 110)) := ⟨(hr3.node k1).wide (fun _ hb => hb.imp id And.right), k2⟩
     obtain ⟨fn, tmps, assign, body, hy, hR⟩ := hY (n - 1) (pre ++ xs) _ e _ hr3.j hok3 (qnN hS.out hB.out.ys) hr3.lt
     simp only [plV] at hy
     have hq0 := World.alloc_heap_new wr (.cells #[.pointer (some ⟨e.blk, e.off, none⟩), .int .i64 e.kid, .int .i64 e.depth] 110)
     have hown3 := qrt hB.out.own
     rw [hlen]
     have hcap : s'.length + 1 <= cap := by
       obtain ⟨_, h2 | ⟨g, cp, cur, hv, hbg, hg, r1, _⟩⟩ := hB.out.own
       . obtain ⟨h2, _⟩ := h2; cases h2
       . cases hv; rw [hlen] at r1; exact r1
     have hcap2 : s'.length <= cap := by omega
     have hsl : s'.length < 8388608 := by have := hB.out.len hsx; omega
     replace hlen := hid hlen
     replace k1 := hid k1
     replace hr3 := hid hr3
     replace hq0 := hid hq0
     replace hown3 := hid hown3
     clear hok3
     gi_wp2
     refine ⟨wide1 _, ?_⟩
     refine hR.mono ?_
     rintro e1 W4 (⟨rfl, hj4, hk4, hb4⟩ | ⟨rfl, hx4⟩)
     . have hr4 := Run.round hr3.out hj4 hk4 hb4
       have hpb := (hk4 wr.heap.size (by simp)).trans hq0.out
       have hfb := (hk4 W.heap.size (by simp [hB.out.fT])).trans ((Below.heap_alloc wr _ _ (World.lt_of_get hB.out.fst)).trans hB.out.fst)
       have p0 := qaa W4 wr.heap.size 0 _ _ _ hpb
       have p1 := qaa W4 wr.heap.size 1 _ _ _ hpb
       have p2 := qaa W4 wr.heap.size 2 _ _ _ hpb
       have p3 := qaa W4 W.heap.size 2 _ _ _ hfb
       obtain ⟨A, c, hh⟩ := k1.out.hdr
       obtain ⟨kb, ko, rfl, hkid⟩ := hh.row e.kid k2
       obtain ⟨A2, cc, hh2⟩ := hkid.hdr
       have p4 := (hr4.cell hh.at_ _).trans hh.kids
       have hown4 := qfY hown3.out (hk4 gb (by simp [hB.out.gT])) (Below.heap_alloc wr _ _ (qaU hB.out.own))
       replace hr4 := hid hr4
       replace hpb := hid hpb
       replace hfb := hid hfb
       replace hown4 := hid hown4
       replace hkid := hid hkid
       replace hh := hid hh
       replace hh2 := hid hh2
       have hkl : e.par.kids.length <= 8388608 := by have := qkn e.par; omega
       have hkl2 : e.t.kids.length <= 8388608 := by
         have h1 := qkn e.t
         have h2 : e.t.size < e.par.size := qci e.par e.kid k2
         omega
       have hM : MI J n₀ T W pre x e wr.heap.size s' (xs ++ [e]) (wr.heap.size :: T') gb cap W4 :=
         ⟨by rw [<- List.append_assoc]; exact hr4.out, hown4.out, List.mem_cons_of_mem _ hB.out.gT, hB.out.gn, hfb.out, List.mem_cons_of_mem _ hB.out.fT, hpb.out, by have := qaU hB.out.own; omega, hlt.out, hn⟩
       have hM1 : Hid (∀ nq, MI J n₀ T W pre x e wr.heap.size s' (xs ++ [e]) (wr.heap.size :: T') gb cap ((W4.drewN nq).alloc (.cells #[.pointer (some ⟨e.blk, e.off, none⟩), .int .i64 ((e.kid : Int) + 1), .int .i64 e.depth] 110))) := fun nq =>
         (hM.later hJ (qap (Below.refl _ _) nq)).later hJ (qab _ _)
       replace hM := hid hM
       clear c0 c1 c2 hy hR
       by_cases hd : x.depth < e.depth
       . by_cases hs : e.kid + 1 < e.par.kids.length
         . gi_wp2
           refine qbL (by kernel_rfl) (by kernel_rfl) (by kernel_rfl) ?_
           repeat (gi_big_quiet_step (fail))
           refine wpQuietIn_nil ?_
           rintro _ ⟨nq, rfl⟩
           gi_wp2_with (gi_at_builtin; refine wpListIn_append_own_at _ rfl _ _ 188 rfl (W.heap.size + 1) 110 i0 (.agg #[.pointer none, .int .i64 0, .int .i64 0]) 3 24 Tryz.underlying188 hi.out hz0.out hz1.out hz2.out rfl (by decide) _ _ _ rfl (hM1.out nq).own ⟨W4.heap.size, 0, none⟩ 1 1 [.pointer (some ⟨e.blk, e.off, none⟩), .int .i64 ((e.kid : Int) + 1), .int .i64 e.depth] rfl rfl (qdT (W4.drewN nq) _ _ _ _) (one3 _ _ _) (by unfold maxLen; omega) (by omega) (World.lt_of_get (hM1.out nq).fst) ?_; intro v5 w5 hown5 hgrow5 _ hat5; obtain ⟨gb5, cap5, rfl, hM5⟩ := MI.push hJ (hM1.out nq) ⟨e.blk, e.off, e.par, e.kid + 1, e.depth⟩ rfl rfl hown5 hgrow5 hat5; clear hown5 hgrow5 hat5; have b0 := qaa w5 wr.heap.size 0 _ _ _ hM5.bp; have b1 := qaa w5 wr.heap.size 1 _ _ _ hM5.bp; have b2 := qaa w5 wr.heap.size 2 _ _ _ hM5.bp; replace hM5 := hid hM5)
           have hok2 : ∀ y, y ∈ s' ++ [(⟨e.blk, e.off, e.par, e.kid + 1, e.depth⟩ : Pl)] -> qan W (PT n₀ T W) y.blk y.off y.par /\ y.kid < y.par.kids.length /\ x.depth <= y.depth /\ y.depth + y.par.size <= 8388608 := fun y hy => by
             rcases List.mem_append.1 hy with hy | hy
             . exact hB.out.ok y (List.mem_append_left _ hy)
             . obtain rfl := List.mem_singleton.1 hy
               exact ⟨k1.out, hs, k3, k4⟩
           refine ⟨trivial, wide1 _, ?_⟩
           refine (callsIn_wide.2 (qdd e.blk e.off e.kid e.depth e.par.kids.length kb ko c w5 ((hM5.out.run.cell hh.out.at_ _).trans hh.out.kids) k2)).mono ?_
           rintro e6 w6 ⟨rfl, hb6⟩
           have hM6 := MI.later hJ hM5.out hb6
           have p5 : w6.cell? ⟨kb, ko + e.kid * 4 + 3, none⟩ = some (.slice A2 e.t.kids.length cc) := (hM6.run.cell hh2.out.at_ _).trans hh2.out.kids
           have b0' := qaa w6 wr.heap.size 0 _ _ _ hM6.bp
           have b1' := qaa w6 wr.heap.size 1 _ _ _ hM6.bp
           have b2' := qaa w6 wr.heap.size 2 _ _ _ hM6.bp
           replace hM6 := hid hM6
           replace hb6 := hid hb6
           have hst2 : (s' ++ [(⟨e.blk, e.off, e.par, e.kid + 1, e.depth⟩ : Pl)]).length <= 8388609 := by rw [List.length_append, List.length_singleton]; omega
           by_cases hz : 0 < e.t.kids.length
           . gi_wp2
             refine ⟨trivial, wide1 _, ?_⟩
             refine (callsIn_wide.2 (qfk e.blk e.off e.kid e.depth e.par.kids.length kb ko c w6 ((hM6.out.run.cell hh.out.at_ _).trans hh.out.kids) k2 (by omega))).mono ?_
             rintro e7 w7 ⟨rfl, hb7⟩
             have hM7 := MI.later hJ hM6.out hb7
             have hM8 := hid (MI.later hJ hM7 (qab w7 (.cells #[.pointer (some ⟨kb, ko + e.kid * 4, none⟩), .int .i64 0, .int .i64 ((e.depth : Int) + 1)] 110)))
             clear hb7 hM7
             have hln : (s' ++ [(⟨e.blk, e.off, e.par, e.kid + 1, e.depth⟩ : Pl)]).length = s'.length + 1 := by simp
             have hown8 := hM8.out.own
             rw [hln] at hown8
             replace hown8 := hid hown8
             replace hln := hid hln
             gi_wp2_with (gi_at_builtin; refine wpListIn_append_own_at _ rfl _ _ 188 rfl (W.heap.size + 1) 110 i0 (.agg #[.pointer none, .int .i64 0, .int .i64 0]) 3 24 Tryz.underlying188 hi.out hz0.out hz1.out hz2.out rfl (by decide) _ _ _ rfl hown8.out ⟨w7.heap.size, 0, none⟩ 1 1 [.pointer (some ⟨kb, ko + e.kid * 4, none⟩), .int .i64 0, .int .i64 ((e.depth : Int) + 1)] rfl rfl (qdT w7 _ _ _ _) (one3 _ _ _) (by unfold maxLen; omega) (by omega) (World.lt_of_get hM8.out.fst) ?_; intro v9 w9 hown9 hgrow9 _ hat9; obtain ⟨gb9, cap9, rfl, hM9⟩ := MI.push hJ hM8.out ⟨kb, ko + e.kid * 4, e.t, 0, e.depth + 1⟩ rfl hln.out.symm hown9 hgrow9 hat9; clear hown9 hgrow9 hat9; replace hM9 := hid hM9)
             have hnx := qfh (st2 := s' ++ [(⟨e.blk, e.off, e.par, e.kid + 1, e.depth⟩ : Pl)] ++ [⟨kb, ko + e.kid * 4, e.t, 0, e.depth + 1⟩]) hB.out.ys (by rw [qbR, qfi _ _ k3 hz, qbR, qlo hd hs])
             gi_roundg ((pends x.depth (s' ++ [(⟨e.blk, e.off, e.par, e.kid + 1, e.depth⟩ : Pl)] ++ [⟨kb, ko + e.kid * 4, e.t, 0, e.depth + 1⟩])).length)
             case measure => exact hnx.2
             case rel =>
               refine ⟨_, _, _, _, _, rfl, by simp, ⟨hM9.out.run, hM9.out.own, hM9.out.gT, hM9.out.gn, hM9.out.fst, hM9.out.fT, hnx.1, fun y hy => ?_⟩⟩
               rcases List.mem_append.1 hy with hy | hy
               . exact hok2 y hy
               . obtain rfl := List.mem_singleton.1 hy
                 exact ⟨hkid.out, hz, by show x.depth <= e.depth + 1; omega, by have h2 : e.t.size < e.par.size := qci e.par e.kid k2; show e.depth + 1 + e.t.size <= _; omega⟩
           . have hnx := qfh (st2 := s' ++ [(⟨e.blk, e.off, e.par, e.kid + 1, e.depth⟩ : Pl)]) hB.out.ys (by rw [qfj hz, List.nil_append, qbR, qlo hd hs])
             replace hnx := hid hnx
             have hz1 : e.t.kids.length = 0 := by omega
             rw [hz1] at p5
             clear hz
             replace hz1 := hid hz1
             gi_wp2
             gi_roundg ((pends x.depth (s' ++ [(⟨e.blk, e.off, e.par, e.kid + 1, e.depth⟩ : Pl)])).length)
             case measure => exact hnx.out.2
             case rel => exact ⟨_, _, _, _, _, rfl, by simp, ⟨hM6.out.run, hM6.out.own, hM6.out.gT, hM6.out.gn, hM6.out.fst, hM6.out.fT, hnx.out.1, hok2⟩⟩
         . have hns := qlp (d0 := x.depth) (e := e) (fun h => hs h.2)
           have hs2 : decide ((e.kid : Int) + 1 < (e.par.kids.length : Int)) = false := decide_eq_false (by omega)
           replace hns := hid hns
           gi_wp2
           refine qbL (by kernel_rfl) (by kernel_rfl) (by kernel_rfl) ?_
           repeat (gi_big_quiet_step (fail))
           refine wpQuietIn_nil ?_
           rintro _ ⟨nq, rfl⟩
           have hM5 := MI.later hJ hM.out (qap (Below.refl _ _) nq)
           have b0 := qaa (W4.drewN nq) wr.heap.size 0 _ _ _ hM5.bp
           have b1 := qaa (W4.drewN nq) wr.heap.size 1 _ _ _ hM5.bp
           have b2 := qaa (W4.drewN nq) wr.heap.size 2 _ _ _ hM5.bp
           replace hM5 := hid hM5
           gi_wp2
           have hok2 : ∀ y, y ∈ s' -> qan W (PT n₀ T W) y.blk y.off y.par /\ y.kid < y.par.kids.length /\ x.depth <= y.depth /\ y.depth + y.par.size <= 8388608 := fun y hy => hB.out.ok y (List.mem_append_left _ hy)
           refine ⟨trivial, wide1 _, ?_⟩
           refine (callsIn_wide.2 (qdd e.blk e.off e.kid e.depth e.par.kids.length kb ko c _ ((hM5.out.run.cell hh.out.at_ _).trans hh.out.kids) k2)).mono ?_
           rintro e6 w6 ⟨rfl, hb6⟩
           have hM6 := MI.later hJ hM5.out hb6
           have p5 : w6.cell? ⟨kb, ko + e.kid * 4 + 3, none⟩ = some (.slice A2 e.t.kids.length cc) := (hM6.run.cell hh2.out.at_ _).trans hh2.out.kids
           have b0' := qaa w6 wr.heap.size 0 _ _ _ hM6.bp
           have b1' := qaa w6 wr.heap.size 1 _ _ _ hM6.bp
           have b2' := qaa w6 wr.heap.size 2 _ _ _ hM6.bp
           replace hM6 := hid hM6
           replace hb6 := hid hb6
           have hst2 : (s').length <= 8388609 := by omega
           by_cases hz : 0 < e.t.kids.length
           . gi_wp2
             refine ⟨trivial, wide1 _, ?_⟩
             refine (callsIn_wide.2 (qfk e.blk e.off e.kid e.depth e.par.kids.length kb ko c w6 ((hM6.out.run.cell hh.out.at_ _).trans hh.out.kids) k2 (by omega))).mono ?_
             rintro e7 w7 ⟨rfl, hb7⟩
             have hM7 := MI.later hJ hM6.out hb7
             have hM8 := hid (MI.later hJ hM7 (qab w7 (.cells #[.pointer (some ⟨kb, ko + e.kid * 4, none⟩), .int .i64 0, .int .i64 ((e.depth : Int) + 1)] 110)))
             clear hb7 hM7
             have hown8 := hM8.out.own
             replace hown8 := hid hown8
             gi_wp2_with (gi_at_builtin; refine wpListIn_append_own_at _ rfl _ _ 188 rfl (W.heap.size + 1) 110 i0 (.agg #[.pointer none, .int .i64 0, .int .i64 0]) 3 24 Tryz.underlying188 hi.out hz0.out hz1.out hz2.out rfl (by decide) _ _ _ rfl hown8.out ⟨w7.heap.size, 0, none⟩ 1 1 [.pointer (some ⟨kb, ko + e.kid * 4, none⟩), .int .i64 0, .int .i64 ((e.depth : Int) + 1)] rfl rfl (qdT w7 _ _ _ _) (one3 _ _ _) (by unfold maxLen; omega) (by omega) (World.lt_of_get hM8.out.fst) ?_; intro v9 w9 hown9 hgrow9 _ hat9; obtain ⟨gb9, cap9, rfl, hM9⟩ := MI.push hJ hM8.out ⟨kb, ko + e.kid * 4, e.t, 0, e.depth + 1⟩ rfl rfl hown9 hgrow9 hat9; clear hown9 hgrow9 hat9; replace hM9 := hid hM9)
             have hnx := qfh (st2 := s' ++ [⟨kb, ko + e.kid * 4, e.t, 0, e.depth + 1⟩]) hB.out.ys (by rw [qbR, qfi _ _ k3 hz, hns.out, List.nil_append])
             gi_roundg ((pends x.depth (s' ++ [⟨kb, ko + e.kid * 4, e.t, 0, e.depth + 1⟩])).length)
             case measure => exact hnx.2
             case rel =>
               refine ⟨_, _, _, _, _, rfl, by simp, ⟨hM9.out.run, hM9.out.own, hM9.out.gT, hM9.out.gn, hM9.out.fst, hM9.out.fT, hnx.1, fun y hy => ?_⟩⟩
               rcases List.mem_append.1 hy with hy | hy
               . exact hok2 y hy
               . obtain rfl := List.mem_singleton.1 hy
                 exact ⟨hkid.out, hz, by show x.depth <= e.depth + 1; omega, by have h2 : e.t.size < e.par.size := qci e.par e.kid k2; show e.depth + 1 + e.t.size <= _; omega⟩
           . have hnx := qfh (st2 := s') hB.out.ys (by rw [qfj hz, List.nil_append, hns.out, List.nil_append])
             replace hnx := hid hnx
             have hz1 : e.t.kids.length = 0 := by omega
             rw [hz1] at p5
             clear hz
             replace hz1 := hid hz1
             gi_wp2
             gi_roundg ((pends x.depth (s')).length)
             case measure => exact hnx.out.2
             case rel => exact ⟨_, _, _, _, _, rfl, by simp, ⟨hM6.out.run, hM6.out.own, hM6.out.gT, hM6.out.gn, hM6.out.fst, hM6.out.fT, hnx.out.1, hok2⟩⟩
       . have hns := qlp (d0 := x.depth) (e := e) (fun h => hd h.1)
         have hd2 : decide ((x.depth : Int) < (e.depth : Int)) = false := decide_eq_false (by omega)
         replace hns := hid hns
         gi_wp2
         refine qbL (by kernel_rfl) (by kernel_rfl) (by kernel_rfl) ?_
         repeat (gi_big_quiet_step (fail))
         refine wpQuietIn_nil ?_
         rintro _ ⟨nq, rfl⟩
         have hM5 := MI.later hJ hM.out (qap (Below.refl _ _) nq)
         have b0 := qaa (W4.drewN nq) wr.heap.size 0 _ _ _ hM5.bp
         have b1 := qaa (W4.drewN nq) wr.heap.size 1 _ _ _ hM5.bp
         have b2 := qaa (W4.drewN nq) wr.heap.size 2 _ _ _ hM5.bp
         replace hM5 := hid hM5
         gi_wp2
         have hok2 : ∀ y, y ∈ s' -> qan W (PT n₀ T W) y.blk y.off y.par /\ y.kid < y.par.kids.length /\ x.depth <= y.depth /\ y.depth + y.par.size <= 8388608 := fun y hy => hB.out.ok y (List.mem_append_left _ hy)
         refine ⟨trivial, wide1 _, ?_⟩
         refine (callsIn_wide.2 (qdd e.blk e.off e.kid e.depth e.par.kids.length kb ko c _ ((hM5.out.run.cell hh.out.at_ _).trans hh.out.kids) k2)).mono ?_
         rintro e6 w6 ⟨rfl, hb6⟩
         have hM6 := MI.later hJ hM5.out hb6
         have p5 : w6.cell? ⟨kb, ko + e.kid * 4 + 3, none⟩ = some (.slice A2 e.t.kids.length cc) := (hM6.run.cell hh2.out.at_ _).trans hh2.out.kids
         have b0' := qaa w6 wr.heap.size 0 _ _ _ hM6.bp
         have b1' := qaa w6 wr.heap.size 1 _ _ _ hM6.bp
         have b2' := qaa w6 wr.heap.size 2 _ _ _ hM6.bp
         replace hM6 := hid hM6
         replace hb6 := hid hb6
         have hst2 : (s').length <= 8388609 := by omega
         by_cases hz : 0 < e.t.kids.length
         . gi_wp2
           refine ⟨trivial, wide1 _, ?_⟩
           refine (callsIn_wide.2 (qfk e.blk e.off e.kid e.depth e.par.kids.length kb ko c w6 ((hM6.out.run.cell hh.out.at_ _).trans hh.out.kids) k2 (by omega))).mono ?_
           rintro e7 w7 ⟨rfl, hb7⟩
           have hM7 := MI.later hJ hM6.out hb7
           have hM8 := hid (MI.later hJ hM7 (qab w7 (.cells #[.pointer (some ⟨kb, ko + e.kid * 4, none⟩), .int .i64 0, .int .i64 ((e.depth : Int) + 1)] 110)))
           clear hb7 hM7
           have hown8 := hM8.out.own
           replace hown8 := hid hown8
           gi_wp2_with (gi_at_builtin; refine wpListIn_append_own_at _ rfl _ _ 188 rfl (W.heap.size + 1) 110 i0 (.agg #[.pointer none, .int .i64 0, .int .i64 0]) 3 24 Tryz.underlying188 hi.out hz0.out hz1.out hz2.out rfl (by decide) _ _ _ rfl hown8.out ⟨w7.heap.size, 0, none⟩ 1 1 [.pointer (some ⟨kb, ko + e.kid * 4, none⟩), .int .i64 0, .int .i64 ((e.depth : Int) + 1)] rfl rfl (qdT w7 _ _ _ _) (one3 _ _ _) (by unfold maxLen; omega) (by omega) (World.lt_of_get hM8.out.fst) ?_; intro v9 w9 hown9 hgrow9 _ hat9; obtain ⟨gb9, cap9, rfl, hM9⟩ := MI.push hJ hM8.out ⟨kb, ko + e.kid * 4, e.t, 0, e.depth + 1⟩ rfl rfl hown9 hgrow9 hat9; clear hown9 hgrow9 hat9; replace hM9 := hid hM9)
           have hnx := qfh (st2 := s' ++ [⟨kb, ko + e.kid * 4, e.t, 0, e.depth + 1⟩]) hB.out.ys (by rw [qbR, qfi _ _ k3 hz, hns.out, List.nil_append])
           gi_roundg ((pends x.depth (s' ++ [⟨kb, ko + e.kid * 4, e.t, 0, e.depth + 1⟩])).length)
           case measure => exact hnx.2
           case rel =>
             refine ⟨_, _, _, _, _, rfl, by simp, ⟨hM9.out.run, hM9.out.own, hM9.out.gT, hM9.out.gn, hM9.out.fst, hM9.out.fT, hnx.1, fun y hy => ?_⟩⟩
             rcases List.mem_append.1 hy with hy | hy
             . exact hok2 y hy
             . obtain rfl := List.mem_singleton.1 hy
               exact ⟨hkid.out, hz, by show x.depth <= e.depth + 1; omega, by have h2 : e.t.size < e.par.size := qci e.par e.kid k2; show e.depth + 1 + e.t.size <= _; omega⟩
         . have hnx := qfh (st2 := s') hB.out.ys (by rw [qfj hz, List.nil_append, hns.out, List.nil_append])
           replace hnx := hid hnx
           have hz1 : e.t.kids.length = 0 := by omega
           rw [hz1] at p5
           clear hz
           replace hz1 := hid hz1
           gi_wp2
           gi_roundg ((pends x.depth (s')).length)
           case measure => exact hnx.out.2
           case rel => exact ⟨_, _, _, _, _, rfl, by simp, ⟨hM6.out.run, hM6.out.own, hM6.out.gT, hM6.out.gn, hM6.out.fst, hM6.out.fT, hnx.out.1, hok2⟩⟩
     . gi_wp2
       go_ret
       refine .inr ⟨rfl, xs ++ [e], ?_, by rw [<- List.append_assoc]; exact hx4⟩
       rw [hB.out.ys, qbR, qin, List.map_append]
       exact ⟨walks e.t 0 (e.depth + 1) e.t.kids ++ (sibs x.depth e ++ pends x.depth s'), by simp⟩
end Go.Proofs.YtjnfhebbphdchaaGreatDoor
