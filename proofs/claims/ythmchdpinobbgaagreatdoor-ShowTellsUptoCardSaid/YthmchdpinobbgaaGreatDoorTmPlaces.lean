/-
  places: what its value promises to a loop. Condition: the term can be read, and has at most 4194304 terms.
-/
import Derived.Test.YthmchdpinobbgaaGreatDoorTmVisit
import Derived.Laws.EntriesVeiled
namespace Go.Proofs.YthmchdpinobbgaaGreatDoor
open Go.RowKit Go.Shelf Go.Tm
attribute [local go_sem] Oper.semAt_some

theorem visit_any (l n₀ : Nat) (L : List P3) (J : List Pl → List Nat → World → Prop) (Jx : List Pl → World → Prop) (hJ : ∀ pre T T' W W', J pre T W → ItStep T T' W W' → J pre T' W') (hY : Rounds Tryz.prog l n₀ L J Jx) (yb vb : Nat) : ∀ N, VisitAt l n₀ L J Jx yb vb N
  | 0 => fun x hx => absurd (size_pos x.t) (by omega)
  | N + 1 => visit_step l n₀ L J Jx hJ hY yb vb N (visit_any l n₀ L J Jx hJ hY yb vb N)

/-- a term as a value -/
structure TmV (W : World) (p : Nat → Prop) (t : Go.Tm.T) (A : Option Addr) (c : Nat) : Prop where
  nsz : t.name.size ≤ 9223372036854775807
  row : t.kids = [] ∨ ∃ kb ko, A = some ⟨kb, ko, none⟩ ∧ RowAt W p kb ko t.kids
def tmV (t : Go.Tm.T) (A : Option Addr) (c : Nat) : Value := .agg #[.int .i64 t.kind, .string t.name, .int .i64 t.num, .slice A t.kids.length c]
theorem TmV.kept {W W' : World} {p q : Nat → Prop} {t : Go.Tm.T} {A : Option Addr} {c : Nat} (h : TmV W p t A c) (hpq : ∀ b, p b → q b) (hk : ∀ b, p b → W'.heap[b]? = W.heap[b]?) : TmV W' q t A c :=
  ⟨h.nsz, h.row.imp id fun ⟨kb, ko, h1, h2⟩ => ⟨kb, ko, h1, h2.kept hpq hk⟩⟩
theorem TmV.below {W W' : World} {n₀ : Nat} {t : Go.Tm.T} {A : Option Addr} {c : Nat} (h : TmV W (· < n₀) t A c) (hb : Below n₀ W W') : TmV W' (· < n₀) t A c := h.kept (fun _ h => h) (fun b hb2 => hb.block b hb2)
/-- a term in a block of its own -/
theorem TmV.box {W : World} {p : Nat → Prop} {t : Go.Tm.T} {A : Option Addr} {c b : Nat} {ty : TypeId} {f : Nat × Nat} (h : TmV W p t A c) (hb : p b) (hh : W.heap[b]? = some (.cells #[.int .i64 t.kind, .string t.name, .int .i64 t.num, .slice A t.kids.length c] ty f)) : NodeAt W p b 0 t := by
  rw [T.eta t] at h ⊢
  rw [NodeAt]
  exact ⟨hb, h.nsz, cell_of_row _ _ _ _ _ _ hh, cell_of_row _ _ 1 _ _ _ hh, cell_of_row _ _ 2 _ _ _ hh, A, c, cell_of_row _ _ 3 _ _ _ hh, h.row⟩

theorem places_any (t : Go.Tm.T) (A : Option Addr) (c : Nat) (w : World) : Calls Tryz.prog 22 #[tmV t A c] w fun e w' => e = .returned (.func (.func 42) #[] #[.pointer (some ⟨w.heap.size, 0, none⟩)]) ∧ w.alloc (.cells #[.int .i64 t.kind, .string t.name, .int .i64 t.num, .slice A t.kids.length c] 24) = w' := by
  unfold tmV
  go_enter Tryz.func22, Tryz.ntmps22
  go_wp2
  go_ret
  exact ⟨rfl, rfl⟩

def rootT (t : Go.Tm.T) : Go.Tm.T := .node 0 ⟨#[]⟩ 0 [t]
theorem rootT_size (t : Go.Tm.T) : (rootT t).size = 1 + t.size := by
  unfold rootT
  rw [T.size, sizes, sizes]; omega

set_option maxRecDepth 100000 in
set_option maxHeartbeats 2000000 in
/-- places' VALUE HANDS OUT THE PLACES OF A TERM. -/
theorem places_seqIn (n n₀ tb : Nat) (t : Go.Tm.T) (A : Option Addr) (c : Nat) (w : World) (hsz : t.size ≤ 4194304) (hn : n₀ ≤ w.heap.size) (htb : w.heap[tb]? = some (.cells #[.int .i64 t.kind, .string t.name, .int .i64 t.num, .slice A t.kids.length c] 24 (0, 0))) (hT : TmV w (· < n₀) t A c) :
    SeqV n Tryz.prog 42 #[.pointer (some ⟨tb, 0, none⟩)] (fun x => #[plV x]) (PlIn n₀) n₀ (fun ys => ys.map Pl.p3 = walk (rootT t) 0 1 t) (fun pre => pre.map Pl.p3 <+: walk (rootT t) 0 1 t) w := by
  intro l J Jx W hW hJ hY h0
  have htW := (hW.block tb (World.lt_of_get htb)).trans htb
  have hTW := hT.below (hW.mono hn)
  have hnW : n₀ ≤ W.heap.size := Nat.le_trans hn hW.size
  obtain ⟨W2, hW2⟩ : ∃ W2, (W.alloc (.cells #[.func (.yield l) #[] #[]] 86)).alloc (.cells #[.nilFunc] 86) = W2 := ⟨_, rfl⟩
  have hr2 : Run J n₀ [] W [] [W.heap.size + 1, W.heap.size] W2 := by
    rw [← hW2]
    have := ((Run.start (n₀ := n₀) (T := []) h0 (fun k hk => by simp at hk) hnW).alloc hJ (.cells #[.func (.yield l) #[] #[]] 86)).alloc hJ (.cells #[.nilFunc] 86)
    rwa [World.size_alloc] at this
  have hsz2 : W2.heap.size = W.heap.size + 2 := by rw [← hW2]; simp
  have hv2 : W2.heap[W.heap.size + 1]? = some (.cells #[.nilFunc] 86 (0, 0)) := by
    rw [← hW2]
    have := World.alloc_heap_new (W.alloc (.cells #[.func (.yield l) #[] #[]] 86)) (.cells #[.nilFunc] 86)
    rwa [World.size_alloc] at this
  have hy2 : W2.heap[W.heap.size]? = some (.cells #[.func (.yield l) #[] #[]] 86 (0, 0)) := by
    rw [← hW2]
    exact (Below.heap_alloc _ _ _ (by simp)).trans (World.alloc_heap_new W _)
  have g1 := cell_of_row W2 (W.heap.size + 1) 0 _ _ _ hv2
  have g2 : W2.frozen? ⟨W.heap.size + 1, 0, none⟩ = false := frozen_of_row hv2 0
  obtain ⟨W3, hW3⟩ : ∃ W3, W2.setCell ⟨W.heap.size + 1, 0, none⟩ (.func (.func 43) #[] #[.pointer (some ⟨W.heap.size, 0, none⟩), .pointer (some ⟨W.heap.size + 1, 0, none⟩)]) = W3 := ⟨_, rfl⟩
  have hv3 : W3.heap[W.heap.size + 1]? = some (.cells #[.func (.func 43) #[] #[.pointer (some ⟨W.heap.size, 0, none⟩), .pointer (some ⟨W.heap.size + 1, 0, none⟩)]] 86 (0, 0)) := by
    rw [← hW3]
    exact heap_setCell_same W2 (W.heap.size + 1) 0 _ _ _ hv2
  have ho3 : ∀ k, k ≠ W.heap.size + 1 → W3.heap[k]? = W2.heap[k]? := fun k hk => by rw [← hW3]; exact Below.heap_setCell _ _ _ _ hk
  have hsz3 : W3.heap.size = W.heap.size + 2 := by rw [← hW3, ← hsz2]; simp
  have hr3 : Run J n₀ [] W [] ((W.heap.size + 1) :: [W.heap.size + 1, W.heap.size]) W3 := by
    have hb3 : Below 0 W2 W3 := by rw [← hW3]; exact (Below.refl 0 W2).setCell (p := ⟨W.heap.size + 1, 0, none⟩) (Nat.zero_le _) _
    refine hr2.grown hJ (row := some (W.heap.size + 1)) ⟨hb3.os, hb3.tape, hb3.output, hb3.size, fun k _ hk => ho3 k (fun e => hk (by rw [e]))⟩ (fun r er => ?_) (fun r er => by cases er; rintro ⟨cs, f, hc⟩; rw [hv2] at hc; cases hc) (.inl (by simp)) (by omega)
    cases er
    exact ⟨by simp, by simp, by omega⟩
  have hrow3 : W3.heap[tb]? = some (.cells #[.int .i64 t.kind, .string t.name, .int .i64 t.num, .slice A t.kids.length c] 24 (0, 0)) := by
    have h1 := World.lt_of_get htW
    refine (ho3 tb (by omega)).trans ?_
    rw [← hW2]
    exact ((Below.heap_alloc _ _ _ (by simp; omega)).trans (Below.heap_alloc _ _ _ h1)).trans htW
  have t0 := cell_of_row W3 tb 0 _ _ _ hrow3
  have t1 := cell_of_row W3 tb 1 _ _ _ hrow3
  have t2 := cell_of_row W3 tb 2 _ _ _ hrow3
  have t3 := cell_of_row W3 tb 3 _ _ _ hrow3
  have v3 := cell_of_row W3 (W.heap.size + 1) 0 _ _ _ hv3
  have htlt : tb < W3.heap.size := World.lt_of_get hrow3
  have hvlt : W.heap.size + 1 < W3.heap.size := World.lt_of_get hv3
  have hy3 := (ho3 W.heap.size (by omega)).trans hy2
  have hvis : Hid (CallsIn Fence.wide (n - 1) Tryz.prog 43 #[.agg #[.pointer (some ⟨W3.heap.size + 1, 0, none⟩), .int .i64 0, .int .i64 1], .pointer (some ⟨W.heap.size, 0, none⟩), .pointer (some ⟨W.heap.size + 1, 0, none⟩)]
      ((W3.alloc (.cells #[.int .i64 t.kind, .string t.name, .int .i64 t.num, .slice A t.kids.length c] 24)).alloc (.cells #[.int .i64 0, .string ⟨#[]⟩, .int .i64 0, .slice (some ⟨W3.heap.size, 0, none⟩) 1 1] 24)) fun e W' => (∃ v, e = .returned v) ∧ ((∃ xs T, xs.map Pl.p3 = walk (rootT t) 0 1 t ∧ J xs T W') ∨ (∃ pre : List Pl, pre.map Pl.p3 <+: walk (rootT t) 0 1 t ∧ Jx pre W'))) := by
    have hr4 := hr3.alloc hJ (.cells #[.int .i64 t.kind, .string t.name, .int .i64 t.num, .slice A t.kids.length c] 24)
    have hr5 := hr4.alloc hJ (.cells #[.int .i64 0, .string ⟨#[]⟩, .int .i64 0, .slice (some ⟨W3.heap.size, 0, none⟩) 1 1] 24)
    rw [World.size_alloc] at hr5
    have e4 := World.alloc_heap_new W3 (.cells #[.int .i64 t.kind, .string t.name, .int .i64 t.num, .slice A t.kids.length c] 24)
    have e5 := World.alloc_heap_new (W3.alloc (.cells #[.int .i64 t.kind, .string t.name, .int .i64 t.num, .slice A t.kids.length c] 24)) (.cells #[.int .i64 0, .string ⟨#[]⟩, .int .i64 0, .slice (some ⟨W3.heap.size, 0, none⟩) 1 1] 24)
    rw [World.size_alloc] at e5
    have k5 : ∀ k, k < W3.heap.size → ((W3.alloc (.cells #[.int .i64 t.kind, .string t.name, .int .i64 t.num, .slice A t.kids.length c] 24)).alloc (.cells #[.int .i64 0, .string ⟨#[]⟩, .int .i64 0, .slice (some ⟨W3.heap.size, 0, none⟩) 1 1] 24)).heap[k]? = W3.heap[k]? := fun k hk =>
      (Below.heap_alloc _ _ _ (by simp; omega)).trans (Below.heap_alloc _ _ _ hk)
    have e4' := (Below.heap_alloc (W3.alloc (.cells #[.int .i64 t.kind, .string t.name, .int .i64 t.num, .slice A t.kids.length c] 24)) (.cells #[.int .i64 0, .string ⟨#[]⟩, .int .i64 0, .slice (some ⟨W3.heap.size, 0, none⟩) 1 1] 24) W3.heap.size (by simp)).trans e4
    have hT5 := (hTW.below hr5.below).kept (q := PT n₀ ((W3.heap.size + 1) :: W3.heap.size :: (W.heap.size + 1) :: [W.heap.size + 1, W.heap.size]) ((W3.alloc (.cells #[.int .i64 t.kind, .string t.name, .int .i64 t.num, .slice A t.kids.length c] 24)).alloc (.cells #[.int .i64 0, .string ⟨#[]⟩, .int .i64 0, .slice (some ⟨W3.heap.size, 0, none⟩) 1 1] 24))) (fun b hb => .inl hb) (fun _ _ => rfl)
    have hnode : NodeAt ((W3.alloc (.cells #[.int .i64 t.kind, .string t.name, .int .i64 t.num, .slice A t.kids.length c] 24)).alloc (.cells #[.int .i64 0, .string ⟨#[]⟩, .int .i64 0, .slice (some ⟨W3.heap.size, 0, none⟩) 1 1] 24)) (PT n₀ ((W3.heap.size + 1) :: W3.heap.size :: (W.heap.size + 1) :: [W.heap.size + 1, W.heap.size]) ((W3.alloc (.cells #[.int .i64 t.kind, .string t.name, .int .i64 t.num, .slice A t.kids.length c] 24)).alloc (.cells #[.int .i64 0, .string ⟨#[]⟩, .int .i64 0, .slice (some ⟨W3.heap.size, 0, none⟩) 1 1] 24))) (W3.heap.size + 1) 0 (rootT t) := by
      unfold rootT
      rw [NodeAt]
      refine ⟨.inr ⟨by simp, _, _, e5⟩, by decide, cell_of_row _ _ 0 _ _ _ e5, cell_of_row _ _ 1 _ _ _ e5, cell_of_row _ _ 2 _ _ _ e5, _, 1, cell_of_row _ _ 3 _ _ _ e5, .inr ⟨W3.heap.size, 0, rfl, ?_⟩⟩
      rw [RowAt, RowAt]
      exact ⟨hT5.box (.inr ⟨by simp, _, _, e4'⟩) e4', trivial⟩
    have hcap : Cap l W.heap.size (W.heap.size + 1) ((W3.alloc (.cells #[.int .i64 t.kind, .string t.name, .int .i64 t.num, .slice A t.kids.length c] 24)).alloc (.cells #[.int .i64 0, .string ⟨#[]⟩, .int .i64 0, .slice (some ⟨W3.heap.size, 0, none⟩) 1 1] 24)) :=
      ⟨(k5 _ (by omega)).trans hy3, (k5 _ (by omega)).trans hv3⟩
    have hv := visit_any l n₀ (walk (rootT t) 0 1 t) J Jx hJ hY W.heap.size (W.heap.size + 1) t.size ⟨W3.heap.size + 1, 0, rootT t, 0, 1⟩ (Nat.le_refl _) (n - 1) [] _ _ hr5.n0 hr5.j hr5.lt (by simp) (by simp) hcap hnode (by show 0 < 1; decide) (by show 1 + (rootT t).size ≤ _; rw [rootT_size]; omega) (by rw [List.map_nil, List.nil_append]; exact List.prefix_rfl)
    refine hv.mono ?_
    rintro e W' (⟨he, xs, T', h1, h2⟩ | ⟨he, q, h1, h2⟩)
    · exact ⟨⟨_, he⟩, .inl ⟨xs, T', h1, h2.j⟩⟩
    · exact ⟨⟨_, he⟩, .inr ⟨q, h1, h2⟩⟩
  clear hy3 hy2
  clear hr2 hsz2 ho3
  replace hv2 := Lib.hid hv2
  replace hv3 := Lib.hid hv3
  replace hsz3 := Lib.hid hsz3
  replace hr3 := Lib.hid hr3
  replace hrow3 := Lib.hid hrow3
  replace htW := Lib.hid htW
  replace hTW := Lib.hid hTW
  replace hT := Lib.hid hT
  refine callsIn_of_wp Tryz.func42 rfl trivial ?_ rfl
  simp only [Tryz.ntmps42, List.size_toArray, List.length_cons, List.length_nil, Nat.reduceAdd, Nat.reduceSub, Array.replicate_succ, Array.replicate_zero, List.push_toArray, List.append_toArray, List.nil_append, List.cons_append]
  gi_wp2
  refine ⟨trivial, wide1 _, ?_⟩
  refine hvis.out.mono ?_
  rintro e W9 ⟨⟨v, rfl⟩, hP⟩
  replace hP := Lib.hid hP
  gi_wp2
  go_end0
  exact ⟨⟨_, rfl⟩, hP.out⟩
/-- the same, told with less -/
theorem places_seq (n n₀ tb : Nat) (t : Go.Tm.T) (A : Option Addr) (c : Nat) (w : World) (hsz : t.size ≤ 4194304) (hn : n₀ ≤ w.heap.size) (htb : w.heap[tb]? = some (.cells #[.int .i64 t.kind, .string t.name, .int .i64 t.num, .slice A t.kids.length c] 24 (0, 0))) (hT : TmV w (· < n₀) t A c) :
    SeqV n Tryz.prog 42 #[.pointer (some ⟨tb, 0, none⟩)] (fun x => #[plV x]) PlOk n₀ (fun ys => ys.map Pl.p3 = walk (rootT t) 0 1 t) (fun pre => pre.map Pl.p3 <+: walk (rootT t) 0 1 t) w :=
  (places_seqIn n n₀ tb t A c w hsz hn htb hT).weaken fun _ _ h => h.ok
end Go.Proofs.YthmchdpinobbgaaGreatDoor
