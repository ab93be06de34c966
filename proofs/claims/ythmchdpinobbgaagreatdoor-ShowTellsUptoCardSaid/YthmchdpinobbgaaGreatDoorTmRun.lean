/-
  What an iterator over a term keeps while it runs: which blocks are its own, what has come, what is still to come. No condition.
-/
import Derived.Test.YthmchdpinobbgaaGreatDoorTmW1
import Derived.Test.YthmchdpinobbgaaGreatDoorLtRound
import Derived.Maps.OwnIn
import Derived.Sort.LoopGhostIn
namespace Go.Proofs.YthmchdpinobbgaaGreatDoor
open Go.RowKit Go.Shelf Go.Tm

/-- the blocks that may be read: what lay there before, and the iterator's own -/
def PT (n₀ : Nat) (T : List Nat) (W : World) (b : Nat) : Prop := b < n₀ ∨ (b ∈ T ∧ TyB W b)
/-- the blocks of nodes that stay: what lay there before, and blocks of terms -/
def PS (n₀ : Nat) (W : World) (b : Nat) : Prop := b < n₀ ∨ TyB W b
/-- what a round may know of its place, in full -/
def PlIn (n₀ : Nat) (x : Pl) (W : World) : Prop := NodeAt W (PS n₀ W) x.blk x.off x.par ∧ x.kid < x.par.kids.length
theorem _root_.Go.TyB.same {W W' : World} {k : Nat} (h : TyB W k) (e : W'.heap[k]? = W.heap[k]?) : TyB W' k := by
  obtain ⟨cs, f, h⟩ := h
  exact ⟨cs, f, e.trans h⟩
theorem PlIn.ok {n₀ : Nat} {x : Pl} {W : World} (h : PlIn n₀ x W) : PlOk x W := ⟨h.1.wide fun _ _ => trivial, h.2⟩
/-- nodes that stay, after whatever keeps what lay below and the blocks of terms -/
theorem NodeAt.stay {n₀ : Nat} {W W' : World} (hl : ∀ k, k < n₀ → W'.heap[k]? = W.heap[k]?) (ht : ∀ k, TyB W k → W'.heap[k]? = W.heap[k]?) {b o : Nat} {t : Go.Tm.T} (h : NodeAt W (PS n₀ W) b o t) : NodeAt W' (PS n₀ W') b o t :=
  NodeAt.kept (fun b hb => hb.imp id fun hb => hb.same (ht b hb)) (fun b hb => hb.elim (hl b) (ht b)) h

theorem ItStep.of_below {T : List Nat} {W W' : World} (h : Below W.heap.size W W') : ItStep T T W W' :=
  ⟨h.mono (Nat.zero_le _), fun k _ hk _ => (h.block k (Array.getElem?_eq_some_iff.1 hk).1).trans hk, fun _ hk => .inl hk, fun k ⟨_, _, hk⟩ => h.block k (Array.getElem?_eq_some_iff.1 hk).1⟩
theorem ItStep.alloc (T : List Nat) (W : World) (o : Obj) : ItStep T (W.heap.size :: T) W (W.alloc o) := by
  have h := later_alloc W o
  refine ⟨h.mono (Nat.zero_le _), fun k _ hk _ => (h.block k (Array.getElem?_eq_some_iff.1 hk).1).trans hk, fun k hk => ?_, fun k ⟨_, _, hk⟩ => h.block k (Array.getElem?_eq_some_iff.1 hk).1⟩
  rcases List.mem_cons.1 hk with rfl | hk
  · exact .inr (Nat.le_refl _)
  · exact .inl hk

structure Run (J : List Pl → List Nat → World → Prop) (n₀ : Nat) (T0 : List Nat) (W0 : World) (pre : List Pl) (T : List Nat) (W : World) : Prop where
  j : J pre T W
  sub : ∀ k, k ∈ T0 → k ∈ T
  lt : ∀ k, k ∈ T → k < W.heap.size
  below : Below n₀ W0 W
  keep : KeepT T0 W0 W
  n0 : n₀ ≤ W.heap.size
section
variable {J : List Pl → List Nat → World → Prop} {n₀ : Nat} {T0 T : List Nat} {W0 W W' : World} {pre : List Pl}
theorem Run.later (hJ : ∀ pre T T' W W', J pre T W → ItStep T T' W W' → J pre T' W') (h : Run J n₀ T0 W0 pre T W) (hb : Below W.heap.size W W') : Run J n₀ T0 W0 pre T W' :=
  ⟨hJ _ _ _ _ _ h.j (ItStep.of_below hb), h.sub, fun k hk => Nat.lt_of_lt_of_le (h.lt k hk) hb.size, h.below.trans (hb.mono h.n0), fun k hk => (hb.block k (h.lt k (h.sub k hk))).trans (h.keep k hk), Nat.le_trans h.n0 hb.size⟩
theorem Run.alloc (hJ : ∀ pre T T' W W', J pre T W → ItStep T T' W W' → J pre T' W') (h : Run J n₀ T0 W0 pre T W) (o : Obj) : Run J n₀ T0 W0 pre (W.heap.size :: T) (W.alloc o) := by
  have hb := later_alloc W o
  have h2 := Run.later hJ h hb
  refine ⟨hJ _ _ _ _ _ h.j (ItStep.alloc T W o), fun k hk => List.mem_cons_of_mem _ (h.sub k hk), fun k hk => ?_, h2.below, h2.keep, h2.n0⟩
  rcases List.mem_cons.1 hk with rfl | hk
  · simp
  · exact h2.lt k hk
/-- an own block is written, or a new one is laid -/
theorem Run.grown (hJ : ∀ pre T T' W W', J pre T W → ItStep T T' W W' → J pre T' W') (h : Run J n₀ T0 W0 pre T W) {row : Option Nat} {g' : Nat} (hg : W.grownBy W' row) (hrow : ∀ r, row = some r → r ∈ T ∧ r ∉ T0 ∧ n₀ ≤ r) (hty : ∀ r, row = some r → ¬ TyB W r) (hg' : g' ∈ T ∨ g' = W.heap.size) (hlt : g' < W'.heap.size) :
    Run J n₀ T0 W0 pre (g' :: T) W' := by
  have hb0 : Below 0 W W' := (Below.refl 0 W).grown hg (Nat.zero_le _) (fun _ _ => Nat.zero_le _)
  refine ⟨hJ _ _ _ _ _ h.j ⟨hb0, fun k o hk hT => (hg.block k (Array.getElem?_eq_some_iff.1 hk).1 (fun e => hT (hrow k e.symm).1)).trans hk, fun k hk => ?_, fun k hk => hg.block k (Array.getElem?_eq_some_iff.1 hk.choose_spec.choose_spec).1 (fun e => hty k e.symm hk)⟩, fun k hk => List.mem_cons_of_mem _ (h.sub k hk), fun k hk => ?_, h.below.trans ?_, fun k hk => ?_, Nat.le_trans h.n0 hg.size⟩
  · rcases List.mem_cons.1 hk with rfl | hk
    · rcases hg' with hg' | rfl
      · exact .inl hg'
      · exact .inr (Nat.le_refl _)
    · exact .inl hk
  · rcases List.mem_cons.1 hk with rfl | hk
    · exact hlt
    · exact Nat.lt_of_lt_of_le (h.lt k hk) hg.size
  · exact (Below.refl n₀ W).grown hg h.n0 (fun k e => (hrow k e).2.2)
  · exact (hg.block k (h.lt k (h.sub k hk)) (fun e => (hrow k e.symm).2.1 hk)).trans (h.keep k hk)
theorem Run.start (hJ : J pre T W) (hlt : ∀ k, k ∈ T → k < W.heap.size) (hn : n₀ ≤ W.heap.size) : Run J n₀ T W pre T W :=
  ⟨hJ, fun _ h => h, hlt, Below.refl _ _, fun _ _ => rfl, hn⟩
/-- behind a round -/
theorem Run.round {x : Pl} (h : Run J n₀ T0 W0 pre T W) (hj : J (pre ++ [x]) T W') (hk : KeepT T W W') (hb : Below n₀ W W') : Run J n₀ T0 W0 (pre ++ [x]) T W' :=
  ⟨hj, h.sub, fun k hk2 => Nat.lt_of_lt_of_le (h.lt k hk2) hb.size, h.below.trans hb, fun k hk2 => (hk k (h.sub k hk2)).trans (h.keep k hk2), Nat.le_trans h.n0 hb.size⟩
end

/-- what a call that goes through places ends in -/
def Went (J : List Pl → List Nat → World → Prop) (Jx : List Pl → World → Prop) (n₀ : Nat) (T0 : List Nat) (W0 : World) (pre : List Pl) (ys : List P3) (e : Ending) (W' : World) : Prop :=
  (e = .returned (.bool true) ∧ ∃ xs T', xs.map Pl.p3 = ys ∧ Run J n₀ T0 W0 (pre ++ xs) T' W') ∨
  (e = .returned (.bool false) ∧ ∃ q : List Pl, q.map Pl.p3 <+: ys ∧ Jx (pre ++ q) W')

/-- what is asked of the rounds; L: all that is to come of the whole -/
def Rounds (P : Program) (l n₀ : Nat) (L : List P3) (J : List Pl → List Nat → World → Prop) (Jx : List Pl → World → Prop) : Prop :=
  ∀ m pre T x W1, J pre T W1 → PlIn n₀ x W1 → (pre ++ [x]).map Pl.p3 <+: L → (∀ k, k ∈ T → k < W1.heap.size) → YieldAt Fence.wide m P l #[plV x] W1 fun e W' =>
    (e = .returned (.bool true) ∧ J (pre ++ [x]) T W' ∧ KeepT T W1 W' ∧ Below n₀ W1 W') ∨ (e = .returned (.bool false) ∧ Jx (pre ++ [x]) W')

/-! what is still to come, of a list of places of which the last one comes first -/
def sibs (d0 : Nat) (e : Pl) : List P3 := if d0 < e.depth then walks e.par (e.kid + 1) e.depth (e.par.kids.drop (e.kid + 1)) else []
def pend (d0 : Nat) (e : Pl) : List P3 := walk e.par e.kid e.depth e.t ++ sibs d0 e
def pends (d0 : Nat) : List Pl → List P3
  | [] => []
  | e :: st => pends d0 st ++ pend d0 e
theorem pends_app (d0 : Nat) : ∀ (a b : List Pl), pends d0 (a ++ b) = pends d0 b ++ pends d0 a
  | [], b => by simp [pends]
  | e :: a, b => by rw [List.cons_append, pends, pends_app d0 a b, pends, List.append_assoc]
theorem pends_snoc (d0 : Nat) (st : List Pl) (e : Pl) : pends d0 (st ++ [e]) = pend d0 e ++ pends d0 st := by
  rw [pends_app]; simp [pends]
theorem pend_eq (d0 : Nat) (e : Pl) : pend d0 e = e.p3 :: (walks e.t 0 (e.depth + 1) e.t.kids ++ sibs d0 e) := by
  unfold pend; rw [walk_eq]; rfl
theorem pend_deep {d0 : Nat} {e : Pl} (hd : d0 < e.depth) (hk : e.kid < e.par.kids.length) : pend d0 e = walks e.par e.kid e.depth (e.par.kids.drop e.kid) := by
  unfold pend sibs
  rw [if_pos hd, walks_drop _ _ _ hk]; rfl
end Go.Proofs.YthmchdpinobbgaaGreatDoor
