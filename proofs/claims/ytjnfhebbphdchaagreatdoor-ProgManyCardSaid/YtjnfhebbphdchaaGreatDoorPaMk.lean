/-
  A range over a function whose iterator only reads, in a round that turns older blocks: what the rounds must leave as it is is told by a predicate. Condition: the widest fence; no round leaves the loop.
  word and made:
  What slices.Backward's value promises to a loop.
-/
import Derived.Test.YtjnfhebbphdchaaGreatDoorTmRun
import Derived.Test.YtjnfhebbphdchaaGreatDoorPaAhead
import Derived.Laws.EntriesVeiled
set_option maxHeartbeats 2000000
set_option maxRecDepth 100000
open Go.Lib (hid)
namespace Go
open Go.RowKit
variable {P : Program} {n : Nat}
structure CalmK (B : Nat) (W W' : World) : Prop where
 below : Below 0 W W'
 same : ∀ (k : Nat) (ob : Obj), W.heap[k]? = some ob -> (k < B ∨ ob.isCells = true) -> W'.heap[k]? = some ob
theorem CalmK.of_below {B : Nat} {W W' : World} (h : Below W.heap.size W W') : CalmK B W W' := ⟨h.mono (Nat.zero_le _), fun k _ hk _ => (h.block k (Array.getElem?_eq_some_iff.1 hk).1).trans hk⟩
theorem CalmK.putObj {B l : Nat} {W : World} {o : Obj} (o' : Obj) (hB : B <= l) (hl : W.heap[l]? = some o) (ho : o.isCells = false) : CalmK B W (W.putObj l o') := by
 refine ⟨(Below.refl 0 W).grown (grownBy_putObj' W l o') (Nat.zero_le _) (fun _ _ => Nat.zero_le _), fun k ob hk hc => ?_⟩
 by_cases e : k = l
 . subst e
   rw [hl] at hk
   cases hk
   rcases hc with hc | hc
   . omega
   . rw [ho] at hc; cases hc
 . exact (World.putObj_heap_other e).trans hk
def SeqK {α : Type} (n : Nat) (P : Program) (g : Nat) (lb : Array Value) (encs : α -> Array Value) (Kp : Nat -> Prop) (S Sp : List α -> Prop) (w : World) : Prop :=
 ∀ (l : Nat) (J : List α -> World -> Prop) (W : World), Below w.heap.size w W →
   (∀ pre W W', J pre W -> Below W.heap.size W W' -> J pre W') →
   (∀ m pre x W1, J pre W1 -> Sp (pre ++ [x]) -> YieldAt Fence.wide m P l (encs x) W1 fun e W' => e = .returned (.bool true) /\ J (pre ++ [x]) W' /\ ∀ k, Kp k -> W'.heap[k]? = W1.heap[k]?) →
   J [] W →
   CallsIn Fence.wide n P g (#[.func (.yield l) #[] #[]] ++ lb) W fun e W' => (∃ v, e = .returned v) /\ ∃ xs, S xs /\ J xs W'
def postK {α : Type} (B : Nat) (Kp : Nat -> Prop) (I : List α -> World -> Prop) (xs : List α) (W : World) : Exit -> Act -> World -> Prop
 | .normal, _, W' => KeepsFrom B W W' /\ (∀ k, Kp k -> W'.heap[k]? = W.heap[k]?) /\ I xs W'
 | _, _, _ => False
theorem qkI {α : Type} {g : Operand} {ps : Array Tmp} {assign body : Code} {Q : Exit -> Act -> World -> Prop} {a : Act} {w : World} {Kp : Nat -> Prop}
   {gf : Nat} {lb : Array Value} (hg : a.eval g = .func (.func gf) #[] lb) (eg : ∀ args w, (callFunc gf args).run P w = .ok (.enter gf args) w)
   {encs : α -> Array Value} {S Sp : List α -> Prop} {w0 : World} (hseq : SeqK (n - 1) P gf lb encs Kp S Sp w0)
   (hb0 : Below w0.heap.size w0 w) (hps : ∀ x, (encs x).size = ps.size) (hKp : ∀ k, Kp k -> k < w.heap.size)
   (I : List α -> World -> Prop)
   (hI : ∀ pre W W', I pre W -> CalmK w.heap.size W W' -> I pre W')
   (h0 : I [] w) (Ax : α -> Act -> World -> Prop) (hAx : ∀ x a' W l o o', Ax x a' W -> w.heap.size <= l -> W.heap[l]? = some o -> o.isCells = false -> Ax x a' (W.putObj l o'))
   (hassign : ∀ (l : Nat) (pre : List α) (x : α) (W : World) (K : Act -> World -> Prop), I pre W →
     (∀ a' W', Below W.heap.size W W' -> I pre W' -> Ax x a' W' -> K a' W') →
     assign.wpIn (Fence.wide.inRound l) (n - 1 - 1) P (Exit.then K (fun _ _ _ => False)) { tmps := (ps.zip (encs x)).foldl (fun t (p, v) => t.setIfInBounds p v) a.tmps, defers := [] } W)
   (hbody : ∀ (l : Nat) (pre : List α) (x : α) (a' : Act) (W : World), I pre W -> Ax x a' W -> Sp (pre ++ [x]) -> body.wpIn (Fence.wide.inRound l) (n - 1 - 1) P (postK w.heap.size Kp I (pre ++ [x]) W) a' W)
   (hdone : ∀ (D : Nat) (xs : List α) (W : World), w.heap.size <= D -> S xs -> I xs W -> W.heap[D]? = some (.deferred (some [])) -> Q .normal { a with defers := { target := .collected D, args := #[] } :: a.defers } W) :
   (Code.rangeFunc g ps assign body).wpIn Fence.wide n P Q a w := by
 refine wpIn_rangeFunc fun fn hfn => ?_
 let B := w.heap.size
 let rec_ : LoopState -> Option Code -> Loop := fun st pe => { state := st, pending := pe, fn, tmps := a.tmps, params := ps, assign, body, defers := B }
 obtain ⟨W1, hW1⟩ : ∃ W1, (w.alloc (.deferred (some []))).alloc (.loop (rec_ .ready none)) = W1 := ⟨_, rfl⟩
 have hsz1 : W1.heap.size = B + 2 := by rw [<- hW1]; simp [B]
 have hL1 : W1.heap[B + 1]? = some (.loop (rec_ .ready none)) := by
   rw [<- hW1]
   have := World.alloc_heap_new (w.alloc (.deferred (some []))) (.loop (rec_ .ready none))
   rwa [World.size_alloc] at this
 have hbw : Below B w W1 := by
   rw [<- hW1]
   exact ((Below.refl _ w).alloc (Nat.le_refl _) _).alloc (by simp) _
 have hD1 : W1.heap[B]? = some (.deferred (some [])) := by
   rw [<- hW1]
   exact (Below.heap_alloc _ _ _ (by simp [B])).trans (World.alloc_heap_new w _)
 have hI1 : I [] W1 := hI _ _ _ h0 (.of_below hbw)
 refine ⟨B + 1, [{ target := .collected B, args := #[] }], W1, { target := .fn (.func gf) lb, args := #[.func (.yield (B + 1)) #[] #[]] }, W1, gf, #[.func (.yield (B + 1)) #[] #[]] ++ lb, W1, ?_, ?_, fun _ _ => trivial, ?_, fun h => by simp [Fence.wide] at h, ?_⟩
 . rw [<- hW1]; exact run_enterLoop_outer _ _ _ _ _
 . simp only [resolve, hg]
   simp [go_sem]
 . simp [invoke, go_sem, eg]
 . have hend : ∀ (jump : Option Code) (st : LoopState) (pe : Option Code) (W3 : World), W3.heap[B + 1]? = some (.loop (rec_ st pe)) →
       (Instr.endRound (B + 1) jump).run P W3 = .ok (.bool jump.isNone) (W3.putObj (B + 1) (.loop (rec_ (if jump.isNone then .ready else .done) jump))) := fun jump st pe W3 h => run_endRound (P := P) jump h
   refine (hseq (B + 1)
     (fun pre W => I pre W /\ W.heap[B + 1]? = some (.loop (rec_ .ready none)) /\ W.heap[B]? = some (.deferred (some [])))
     W1 (hb0.trans (hbw.mono hb0.size))
     (fun pre X Y h hs => by
       obtain ⟨h1, h4, h5⟩ := h
       exact ⟨hI _ _ _ h1 (.of_below hs), (hs.block _ (Array.getElem?_eq_some_iff.1 h4).1).trans h4, (hs.block _ (Array.getElem?_eq_some_iff.1 h5).1).trans h5⟩)
     ?_ ⟨hI1, hL1, hD1⟩).mono ?_
   . rintro m pre x W ⟨hi, hl, hk⟩ hsp
     refine YieldAt.wideAny m (m := n - 1 - 1) ⟨fn, _, assign, body, run_yield (P := P) (args := encs x) hl (hps x), roundIn_of_wpIn trivial (hassign _ pre x W _ hi ?_)⟩
     intro a' Wa hga hia hax
     have hl' := (hga.block _ (Array.getElem?_eq_some_iff.1 hl).1).trans hl
     have hk' := (hga.block _ (Array.getElem?_eq_some_iff.1 hk).1).trans hk
     have hla : B + 1 < Wa.heap.size := (Array.getElem?_eq_some_iff.1 hl').1
     have hlW : B + 1 < W.heap.size := (Array.getElem?_eq_some_iff.1 hl).1
     refine ⟨_, run_beginRound hl' rfl, ?_⟩
     obtain ⟨Wb, hWb⟩ : ∃ Wb, Wa.putObj (B + 1) (.loop (rec_ .busy none)) = Wb := ⟨_, rfl⟩
     have hszb : Wb.heap.size = Wa.heap.size := by rw [<- hWb]; simp
     have hlb : Wb.heap[B + 1]? = some (.loop (rec_ .busy none)) := by rw [<- hWb]; exact World.putObj_heap_same hla
     have hkb : Wb.heap[B]? = some (.deferred (some [])) := by rw [<- hWb]; exact (World.putObj_heap_other (by omega)).trans hk'
     have hib : I pre Wb := by rw [<- hWb]; exact hI _ _ _ hia (CalmK.putObj _ (by omega) hl' rfl)
     have haxb : Ax x a' Wb := by rw [<- hWb]; exact hAx _ _ _ _ _ _ hax (by omega) hl' rfl
     rw [show (Obj.loop { rec_ .ready none with state := .busy }) = Obj.loop (rec_ .busy none) from rfl, hWb]
     refine wpIn_mono (hbody _ pre x a' Wb hib haxb hsp) ?_
     have hsame : ∀ W3, KeepsFrom B Wb W3 -> W3.heap[B + 1]? = some (.loop (rec_ .busy none)) /\ W3.heap[B]? = some (.deferred (some [])) := fun W3 h => ⟨h.same _ _ (by omega) hlb rfl, h.same _ _ (Nat.le_refl _) hkb rfl⟩
     rintro e a3 W3 hp
     cases e with
     | normal =>
       obtain ⟨g1, g2, g4⟩ := hp
       obtain ⟨s1, s2⟩ := hsame W3 g1
       have hsz3 : B + 1 < W3.heap.size := (Array.getElem?_eq_some_iff.1 s1).1
       refine ⟨_, _, hend none _ _ W3 s1, rfl, ⟨hI _ _ _ g4 (CalmK.putObj _ (by omega) s1 rfl), World.putObj_heap_same hsz3, (World.putObj_heap_other (by omega)).trans s2⟩, fun k hk2 => ?_⟩
       have hkB : k < B := hKp k hk2
       refine (World.putObj_heap_other (by omega)).trans ((g2 k hk2).trans ?_)
       rw [<- hWb]
       exact (World.putObj_heap_other (by omega)).trans (hga.block k (by omega))
     | ret => exact hp.elim
     | exit id => exact hp.elim
     | goto t => exact hp.elim
     | panic ch => exact hp.elim
     | outgrown => exact hp.elim
   . rintro e W2 ⟨⟨v, rfl⟩, xs, hS, hi, hl, hk⟩
     exact ⟨none, _, run_endLoop (P := P) hl (by simp [rec_]), hdone B xs _ (Nat.le_refl _) hS (hI _ _ _ hi (CalmK.putObj _ (by omega) hl rfl)) ((World.putObj_heap_other (by omega)).trans hk)⟩
end Go
namespace Go.Proofs.YtjnfhebbphdchaaGreatDoor.Pa
open Go.RowKit Go.Lx
attribute [local go_sem] Oper.semAt_some
theorem qbp (s : ByteArray) (w : World) : Calls Tryz.prog 163 #[.string s] w fun e w' => e = .returned (.func (.func 184) #[] #[.pointer (some ⟨w.heap.size, 0, none⟩)]) /\ w' = w.alloc (.cells #[.string s] 9) := by
 go_enter Tryz.func163, Tryz.ntmps163
 go_wp2
 go_ret
 exact ⟨rfl, rfl⟩
theorem qbq (k n : Int) (w : World) : Calls Tryz.prog 165 #[.int .i64 k, .int .i64 n] w fun e w' => e = .returned (.func (.func 186) #[] #[.pointer (some ⟨w.heap.size, 0, none⟩), .pointer (some ⟨w.heap.size + 1, 0, none⟩)]) /\ w' = (w.alloc (.cells #[.int .i64 k] 3)).alloc (.cells #[.int .i64 n] 3) := by
 go_enter Tryz.func165, Tryz.ntmps165
 go_wp2
 go_ret
 exact ⟨rfl, rfl⟩
theorem qkJ (A : Option Addr) (n c : Nat) (w : World) : Calls Tryz.prog 134 #[.slice A n c] w fun e w' => e = .returned (.func (.func 161) #[] #[.pointer (some ⟨w.heap.size, 0, none⟩)]) /\ w.alloc (.cells #[.slice A n c] 164) = w' := by
 go_enter Tryz.func134, Tryz.ntmps134
 go_wp2
 go_ret
 exact ⟨rfl, rfl⟩
end Go.Proofs.YtjnfhebbphdchaaGreatDoor.Pa
namespace Go.Proofs.YtjnfhebbphdchaaGreatDoor.Pa
open Go.RowKit Go.Shelf
attribute [local go_sem] Oper.semAt_some
theorem qjk (n m : Nat) (h : m < n) : (List.range n).reverse.take m ++ [n - 1 - m] = (List.range n).reverse.take (m + 1) := by
 rw [List.take_succ_eq_append_getElem (by simpa using h)]
 simp
theorem qqb (n cb b off c : Nat) (vs : List Value) (w : World) (hlen : vs.length <= 1099511627776) (hcb : w.heap[cb]? = some (.cells #[.slice (some ⟨b, off, none⟩) vs.length c] 164 (0, 0)))
   (hvs : ∀ j, j < vs.length -> w.cell? ⟨b, off + j, none⟩ = some (vs.getD j undef)) (hb : b < w.heap.size) :
   SeqK n Tryz.prog 161 #[.pointer (some ⟨cb, 0, none⟩)] (fun i : Nat => #[.int .i64 i, vs.getD i undef]) (fun k => k = cb ∨ k = b) (fun xs => xs = (List.range vs.length).reverse) (fun pre => pre <+: (List.range vs.length).reverse) w := by
 intro l J W hW hJ hY h0
 have hcW := (hW.block cb (World.lt_of_get hcb)).trans hcb
 have hbW := hW.block b hb
 have c0 : W.cell? ⟨cb, 0, none⟩ = some (.slice (some ⟨b, off, none⟩) vs.length c) := qaa W cb 0 _ _ _ hcW
 obtain ⟨N, hN⟩ : ∃ N, vs.length = N := ⟨_, rfl⟩
 rw [hN] at hlen hcb hvs hcW c0 hY ⊢
 replace hN := hid hN
 have hcW' := hid hcW
 have hbW' := hid hbW
 have hvs' := hid hvs
 clear hcb hcW hbW hW hvs
 refine callsIn_of_wp Tryz.func161 rfl trivial ?_ rfl
 simp only [Tryz.ntmps161, List.size_toArray, List.length_cons, List.length_nil, Nat.reduceAdd, Nat.reduceSub, Array.replicate_succ, Array.replicate_zero, List.push_toArray, List.append_toArray, List.nil_append, List.cons_append]
 gi_wp2
 gi_loopw [3] (fun v wr => ∃ m : Nat, m <= N /\ v = .int .i64 ((N : Int) - 1 - m) /\ Hid (J ((List.range N).reverse.take m) wr /\ wr.heap[cb]? = some (.cells #[.slice (some ⟨b, off, none⟩) N c] 164 (0, 0)) /\ wr.heap[b]? = w.heap[b]?)) (fun v _ => (intOf v + 1).toNat)
 case atStart => exact ⟨0, Nat.zero_le _, by simp, by simpa using h0, hcW'.out, hbW'.out⟩
 case round =>
   obtain ⟨m, hm, rfl, hX⟩ := hrel
   clear c0
   by_cases hlt : m < N
   . have c0 : wr.cell? ⟨cb, 0, none⟩ = some (.slice (some ⟨b, off, none⟩) N c) := qaa wr cb 0 _ _ _ hX.out.2.1
     have e1 : ((N - 1 - m : Nat) : Int) = (N : Int) - 1 - m := by omega
     have c1 : wr.cell? ⟨b, off + (N - 1 - m), none⟩ = some (vs.getD (N - 1 - m) undef) := (World.cell?_of_block (a := ⟨b, off + (N - 1 - m), none⟩) hX.out.2.2).trans (hvs'.out _ (by omega))
     have hYx := hY (n - 1) _ (N - 1 - m) wr hX.out.1 (by rw [qjk N m hlt]; exact List.take_prefix _ _)
     rw [qjk N m hlt] at hYx
     obtain ⟨fn, tmps, assign, body, hy, hR⟩ := hYx
     rw [<- e1]
     generalize vs.getD (N - 1 - m) undef = val at c1 hy hR
     obtain ⟨q, hq⟩ : ∃ q, N - 1 - m = q := ⟨_, rfl⟩
     rw [hq] at c1 hy e1 ⊢
     have h1 : (0 : Int) <= (q : Int) := by omega
     have h2 : (q : Int) < (N : Int) := by omega
     have e1' := hid e1
     clear e1
     replace hq := hid hq
     have hR' := hid hR
     clear hR hY hJ h0
     gi_wp2
     refine ⟨wide1 _, ?_⟩
     refine hR'.out.mono ?_
     rintro e2 W2 ⟨rfl, hj2, hk2⟩
     have hP := hid (And.intro hj2 (And.intro ((hk2 cb (.inl rfl)).trans hX.out.2.1) ((hk2 b (.inr rfl)).trans hX.out.2.2)))
     clear hj2 hk2 c0 c1 hy hX
     gi_wp2
     go_roundw
     case rel => exact ⟨m + 1, by omega, by rw [show ((N : Int) - 1 - ((m + 1 : Nat) : Int)) = (q : Int) - 1 by have := e1'.out; omega], hP⟩
     case measure => simp [intOf]
   . obtain rfl : m = N := by omega
     have h1 : ¬ ((m : Int) - 1 - (m : Int) ≥ 0) := by omega
     gi_wp2
     go_end0
     have := hX.out.1
     rw [List.take_of_length_le (by simp)] at this
     exact ⟨⟨_, rfl⟩, this⟩
end Go.Proofs.YtjnfhebbphdchaaGreatDoor.Pa
