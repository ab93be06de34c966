/-
  The reader in its box; ahead. Conditions: the tokens lie as laid, below the box.
  The reader's take.
  run's deferred closure:
  How many parentheses are open, and were at most:
  parse.nesting.
-/
import Derived.Test.YtjnfhebbphdchaaGreatDoorLxBase
import Derived.Test.YtjnfhebbphdchaaGreatDoorTmRun
import Derived.Deep.QuietTactic
import Derived.BigQuiet
import Derived.StillTailTactics
import Derived.WalkLawsBesides
import Derived.Defers
import Derived.Recover
import Derived.Laws.Pointers
import Derived.Test.YtjnfhebbphdchaaGreatDoorLxMath
set_option maxHeartbeats 2000000
set_option maxRecDepth 100000
open Go.Lib (hid)
namespace Go.Proofs.YtjnfhebbphdchaaGreatDoor.Pa
open Go.RowKit Go.Lx
attribute [local go_sem] Oper.semAt_some
structure Rdr (W : World) (base bm : Nat) (A : Option Addr) (c : Nat) (ts : List Tok) (k : Nat) (pl nm tm : Value) (md : Int) : Prop where
 box : W.heap[bm]? = some (.cells #[.slice A ts.length c, .int .i64 k, pl, nm, tm, .int .i64 md] 166 (0, 0))
 tok : X.Toks W base A ts
 low : base <= bm
 le : k <= ts.length
 few : ts.length <= 140737488355328
theorem qdy (base bm : Nat) (A : Option Addr) (c : Nat) (ts : List Tok) (k : Nat) (pl nm tm : Value) (md : Int) (w : World) (h : Rdr w base bm A c ts k pl nm tm md) :
   Calls Tryz.prog 162 #[.pointer (some ⟨bm, 0, none⟩)] w fun e w' => e = .returned (X.tokV (ts.getD k ⟨0, [], 0⟩)) /\ Below w.heap.size w w' := by
 have p0 : w.cell? ⟨bm, 0, none⟩ = some (.slice A ts.length c) := qaa w bm 0 _ _ _ h.box
 have p1 : w.cell? ⟨bm, 1, none⟩ = some (.int .i64 k) := qaa w bm 1 _ _ _ h.box
 have hle := h.le
 have hfew := h.few
 have hl : bm < w.heap.size := World.block_lt_of_cell? w _ p0
 by_cases hlt : k < ts.length
 . obtain ⟨b, off, rfl, hb, hc⟩ := h.tok (by intro e; subst e; simp at hlt)
   obtain ⟨c0, c1, c2⟩ := hc k hlt
   clear hc
   generalize ts.getD k ⟨0, [], 0⟩ = q at c0 c1 c2 ⊢
   obtain ⟨qk, qt, qn⟩ := q
   dsimp only at c0 c1 c2
   have hd : ((k : Int) == (ts.length : Int)) = false := by simp; omega
   have hlow := h.low
   clear h
   go_enter Tryz.func162, Tryz.ntmps162
   have hx : (w.alloc (.cells #[.int .i64 0, .string ⟨#[]⟩, .int .i64 0] 118)).heap[w.heap.size]? = some (.cells #[.int .i64 0, .string ⟨#[]⟩, .int .i64 0] 118 (0, 0)) := World.alloc_heap_new w (.cells #[.int .i64 0, .string ⟨#[]⟩, .int .i64 0] 118)
   have hB := X.qab w (.cells #[.int .i64 0, .string ⟨#[]⟩, .int .i64 0] 118)
   have hz : (w.alloc (.cells #[.int .i64 0, .string ⟨#[]⟩, .int .i64 0] 118)).heap.size = w.heap.size + 1 := World.size_alloc _ _
   go_wp2_with fail
   obtain ⟨V, hV⟩ : ∃ V, w.alloc (.cells #[.int .i64 0, .string ⟨#[]⟩, .int .i64 0] 118) = V := ⟨_, rfl⟩
   rw [hV] at hx hB hz ⊢
   clear hV
   have q0 := (hB.cell (p := ⟨bm, 0, none⟩) hl).trans p0
   have q1 := (hB.cell (p := ⟨bm, 1, none⟩) hl).trans p1
   have s0 : V.cell? ⟨w.heap.size, 0, none⟩ = some (.int .i64 0) := qaa V w.heap.size 0 _ _ _ hx
   have s1 : V.cell? ⟨w.heap.size, 1, none⟩ = some (.string ⟨#[]⟩) := qaa V w.heap.size 1 _ _ _ hx
   have s2 : V.cell? ⟨w.heap.size, 2, none⟩ = some (.int .i64 0) := qaa V w.heap.size 2 _ _ _ hx
   have f0 := qac hx 0
   have f1 := qac hx 1
   have f2 := qac hx 2
   replace hx := hid hx
   replace hz := hid hz
   replace hB := hid hB
   have hb2 : b < w.heap.size := World.block_lt_of_cell? w _ c0
   have d0 := (hB.cell (p := ⟨b, off + k * 3, none⟩) hb2).trans c0
   have d1 := (hB.cell (p := ⟨b, off + k * 3 + 1, none⟩) hb2).trans c1
   have d2 := (hB.cell (p := ⟨b, off + k * 3 + 2, none⟩) hb2).trans c2
   clear p0 p1 c0 c1 c2
   go_quiet (fail)
   go_wp2_with fail
   have hB2 : Below w.heap.size w (V.drewN nq) := qap hB.out nq
   have q0' : (V.drewN nq).cell? ⟨bm, 0, none⟩ = some (.slice (some ⟨b, off, none⟩) ts.length c) := q0
   have q1' : (V.drewN nq).cell? ⟨bm, 1, none⟩ = some (.int .i64 k) := q1
   have s0' : (V.drewN nq).cell? ⟨w.heap.size, 0, none⟩ = some (.int .i64 0) := s0
   have s1' : (V.drewN nq).cell? ⟨w.heap.size, 1, none⟩ = some (.string ⟨#[]⟩) := s1
   have s2' : (V.drewN nq).cell? ⟨w.heap.size, 2, none⟩ = some (.int .i64 0) := s2
   have d0' : (V.drewN nq).cell? ⟨b, off + k * 3, none⟩ = some (.int .i64 qk) := d0
   have d1' : (V.drewN nq).cell? ⟨b, off + k * 3 + 1, none⟩ = some (.string (X.strOf qt)) := d1
   have d2' : (V.drewN nq).cell? ⟨b, off + k * 3 + 2, none⟩ = some (.int .i64 qn) := d2
   have g0 : (V.drewN nq).frozen? ⟨w.heap.size, 0, none⟩ = false := f0
   have g1 : (V.drewN nq).frozen? ⟨w.heap.size, 1, none⟩ = false := f1
   have g2 : (V.drewN nq).frozen? ⟨w.heap.size, 2, none⟩ = false := f2
   generalize V.drewN nq = W at hB2 q0' q1' s0' s1' s2' d0' d1' d2' g0 g1 g2 ⊢
   clear q0 q1 s0 s1 s2 d0 d1 d2 f0 f1 f2
   replace hB2 := hid hB2
   go_still_tail 10, (by kernel_rfl)
   change wpList _ _ _ _ _ W.drew
   go_wp2_with fail
   obtain ⟨e0, e1, e2⟩ := qim (W := W.drew) (C := w.heap.size) (.int .i64 qk) (.string (X.strOf qt)) (.int .i64 qn) s0' s1' s2'
   have hbe : Below w.heap.size w (((W.drew.setCell ⟨w.heap.size, 0, none⟩ (.int .i64 qk)).setCell ⟨w.heap.size, 1, none⟩ (.string (X.strOf qt))).setCell ⟨w.heap.size, 2, none⟩ (.int .i64 qn)) :=
     ((hB2.out.drew.setCell (p := ⟨w.heap.size, 0, none⟩) (Nat.le_refl _) _).setCell (p := ⟨w.heap.size, 1, none⟩) (Nat.le_refl _) _).setCell (p := ⟨w.heap.size, 2, none⟩) (Nat.le_refl _) _
   change bodyPost _ _ _ _ _ (((W.drew.setCell ⟨w.heap.size, 0, none⟩ (.int .i64 qk)).setCell ⟨w.heap.size, 1, none⟩ (.string (X.strOf qt))).setCell ⟨w.heap.size, 2, none⟩ (.int .i64 qn))
   generalize (((W.drew.setCell ⟨w.heap.size, 0, none⟩ (.int .i64 qk)).setCell ⟨w.heap.size, 1, none⟩ (.string (X.strOf qt))).setCell ⟨w.heap.size, 2, none⟩ (.int .i64 qn)) = W9 at e0 e1 e2 hbe ⊢
   refine bodyPost_ret (v := .agg #[.int .i64 qk, .string (X.strOf qt), .int .i64 qn]) ?_ rfl ⟨rfl, hbe⟩
   simp [results, Tryz.f162, go_sem, e0, e1, e2]
 . have hd : ((k : Int) == (ts.length : Int)) = true := by simp; omega
   have hg : ts.getD k ⟨0, [], 0⟩ = ⟨0, [], 0⟩ := by rw [List.getD_eq_getElem?_getD, List.getElem?_eq_none (by omega)]; rfl
   rw [hg]
   clear h hg
   go_enter Tryz.func162, Tryz.ntmps162
   have hx : (w.alloc (.cells #[.int .i64 0, .string ⟨#[]⟩, .int .i64 0] 118)).heap[w.heap.size]? = some (.cells #[.int .i64 0, .string ⟨#[]⟩, .int .i64 0] 118 (0, 0)) := World.alloc_heap_new w (.cells #[.int .i64 0, .string ⟨#[]⟩, .int .i64 0] 118)
   have hB := X.qab w (.cells #[.int .i64 0, .string ⟨#[]⟩, .int .i64 0] 118)
   have hz : (w.alloc (.cells #[.int .i64 0, .string ⟨#[]⟩, .int .i64 0] 118)).heap.size = w.heap.size + 1 := World.size_alloc _ _
   go_wp2_with fail
   obtain ⟨V, hV⟩ : ∃ V, w.alloc (.cells #[.int .i64 0, .string ⟨#[]⟩, .int .i64 0] 118) = V := ⟨_, rfl⟩
   rw [hV] at hx hB hz ⊢
   clear hV
   have q0 := (hB.cell (p := ⟨bm, 0, none⟩) hl).trans p0
   have q1 := (hB.cell (p := ⟨bm, 1, none⟩) hl).trans p1
   have s0 : V.cell? ⟨w.heap.size, 0, none⟩ = some (.int .i64 0) := qaa V w.heap.size 0 _ _ _ hx
   have s1 : V.cell? ⟨w.heap.size, 1, none⟩ = some (.string ⟨#[]⟩) := qaa V w.heap.size 1 _ _ _ hx
   have s2 : V.cell? ⟨w.heap.size, 2, none⟩ = some (.int .i64 0) := qaa V w.heap.size 2 _ _ _ hx
   have f0 := qac hx 0
   have f1 := qac hx 1
   have f2 := qac hx 2
   replace hx := hid hx
   replace hz := hid hz
   replace hB := hid hB
   clear p0 p1
   go_quiet (fail)
   go_wp2_with fail
   obtain ⟨e0, e1, e2⟩ := qim (W := V.drewN nq) (C := w.heap.size) (.int .i64 0) (.string ⟨#[]⟩) (.int .i64 0) s0 s1 s2
   have hbe : Below w.heap.size w ((((V.drewN nq).setCell ⟨w.heap.size, 0, none⟩ (.int .i64 0)).setCell ⟨w.heap.size, 1, none⟩ (.string ⟨#[]⟩)).setCell ⟨w.heap.size, 2, none⟩ (.int .i64 0)) :=
     (((qap hB.out nq).setCell (p := ⟨w.heap.size, 0, none⟩) (Nat.le_refl _) _).setCell (p := ⟨w.heap.size, 1, none⟩) (Nat.le_refl _) _).setCell (p := ⟨w.heap.size, 2, none⟩) (Nat.le_refl _) _
   refine bodyPost_ret (v := .agg #[.int .i64 0, .string ⟨#[]⟩, .int .i64 0]) ?_ rfl ⟨rfl, hbe⟩
   simp [results, Tryz.f162, go_sem, e0, e1, e2]
theorem Rdr.later {w w' : World} {base bm : Nat} {A : Option Addr} {c : Nat} {ts : List Tok} {k : Nat} {pl nm tm : Value} {md : Int} (h : Rdr w base bm A c ts k pl nm tm md) (hb : Below w.heap.size w w') : Rdr w' base bm A c ts k pl nm tm md where
 box := (hb.block bm (World.lt_of_get h.box)).trans h.box
 tok := fun hn => by
   obtain ⟨b, off, hA, hlt, hc⟩ := h.tok hn
   exact ⟨b, off, hA, hlt, fun j hj => by
     obtain ⟨c0, c1, c2⟩ := hc j hj
     have hb2 : b < w.heap.size := World.block_lt_of_cell? w _ c0
     exact ⟨(hb.cell (p := ⟨b, off + j * 3, none⟩) hb2).trans c0, (hb.cell (p := ⟨b, off + j * 3 + 1, none⟩) hb2).trans c1, (hb.cell (p := ⟨b, off + j * 3 + 2, none⟩) hb2).trans c2⟩⟩
 low := h.low
 le := h.le
 few := h.few
def qhH (n : Int) : Ending := .panicked [{ v := .iface 171 (.int .i64 n), recovered := false }]
theorem qru (base bm : Nat) (A : Option Addr) (c : Nat) (ts : List Tok) (k : Nat) (pl nm tm : Value) (md kd : Int) (w : World) (h : Rdr w base bm A c ts k pl nm tm md) (hk : (ts.getD k ⟨0, [], 0⟩).kind ≠ kd) :
   Calls Tryz.prog 185 #[.pointer (some ⟨bm, 0, none⟩), .int .i64 kd] w fun e w' => e = qhH 2 /\ Below w.heap.size w w' := by
 have hB := X.qab w (.cells #[.int .i64 0, .string ⟨#[]⟩, .int .i64 0] 118)
 have hA := qdy base bm A c ts k pl nm tm md _ (h.later hB)
 rw [X.qdu] at hA
 have hd : ((ts.getD k ⟨0, [], 0⟩).kind == kd) = false := by simpa using hk
 generalize ts.getD k ⟨0, [], 0⟩ = q at hA hd
 obtain ⟨qk, qt, qn⟩ := q
 dsimp only at hA hd
 replace hA := hid hA
 clear hk h
 replace hB := hid hB
 go_enter Tryz.func185, Tryz.ntmps185
 go_wp2_with fail
 refine hA.out.mono ?_
 rintro e w9 ⟨rfl, hb9⟩
 replace hb9 := hid hb9
 go_wp2_with fail
 exact ⟨rfl, rfl, hB.out.trans ((hb9.out.alloc hb9.out.size _).mono hB.out.size)⟩
structure Turn (bm : Nat) (w w' : World) : Prop where
 os : w'.os = w.os
 tape : w'.tape = w.tape
 output : w'.output = w.output
 size : w.heap.size <= w'.heap.size
 block : ∀ k, k < w.heap.size -> k ≠ bm -> w'.heap[k]? = w.heap[k]?
theorem Turn.refl (bm : Nat) (w : World) : Turn bm w w := ⟨rfl, rfl, rfl, Nat.le_refl _, fun _ _ _ => rfl⟩
theorem Turn.trans {bm : Nat} {a b c : World} (h : Turn bm a b) (k : Turn bm b c) : Turn bm a c :=
 ⟨k.os.trans h.os, k.tape.trans h.tape, k.output.trans h.output, Nat.le_trans h.size k.size, fun j hj hn => (k.block j (Nat.lt_of_lt_of_le hj h.size) hn).trans (h.block j hj hn)⟩
theorem Turn.of_below {bm : Nat} {w w' : World} (h : Below w.heap.size w w') : Turn bm w w' := ⟨h.os, h.tape, h.output, h.size, fun k hk _ => h.block k hk⟩
theorem Turn.below {bm : Nat} {w w' : World} (h : Turn bm w w') (hb : bm < w.heap.size) : Below bm w w' := ⟨h.os, h.tape, h.output, h.size, fun k hk => h.block k (by omega) (by omega)⟩
theorem Turn.set {bm : Nat} (w : World) (i : Nat) (v : Value) : Turn bm w (w.setCell ⟨bm, i, none⟩ v) :=
 ⟨rfl, rfl, rfl, by simp, fun k _ hn => Below.heap_setCell _ _ _ _ hn⟩
theorem Rdr.next {W : World} {base bm : Nat} {A : Option Addr} {c : Nat} {ts : List Tok} {k : Nat} {pl nm tm : Value} {md : Int} (h : Rdr W base bm A c ts k pl nm tm md) (hl : k < ts.length) :
   Rdr (W.setCell ⟨bm, 1, none⟩ (.int .i64 (k + 1 : Nat))) base bm A c ts (k + 1) pl nm tm md where
 box := heap_setCell_same W bm 1 _ _ _ h.box
 tok := fun hn => by
   obtain ⟨b, off, hA, hlt, hc⟩ := h.tok hn
   have hne : b ≠ bm := by have := h.low; omega
   exact ⟨b, off, hA, hlt, fun j hj => by
     obtain ⟨c0, c1, c2⟩ := hc j hj
     have hs := Below.heap_setCell W ⟨bm, 1, none⟩ (.int .i64 (k + 1 : Nat)) b hne
     exact ⟨(World.cell?_of_block (a := ⟨b, off + j * 3, none⟩) hs).trans c0, (World.cell?_of_block (a := ⟨b, off + j * 3 + 1, none⟩) hs).trans c1, (World.cell?_of_block (a := ⟨b, off + j * 3 + 2, none⟩) hs).trans c2⟩⟩
 low := h.low
 le := hl
 few := h.few
theorem Turn.fresh {bm : Nat} {w W : World} (h : Turn bm w W) (C i : Nat) (v : Value) (hC : w.heap.size <= C) : Turn bm w (W.setCell ⟨C, i, none⟩ v) :=
 ⟨h.os, h.tape, h.output, by simpa using h.size, fun k hk hn => (Below.heap_setCell W ⟨C, i, none⟩ v k (by show ¬ k = C; omega)).trans (h.block k hk hn)⟩
theorem Rdr.same {w w' : World} {base bm : Nat} {A : Option Addr} {c : Nat} {ts : List Tok} {k : Nat} {pl nm tm : Value} {md : Int} (h : Rdr w base bm A c ts k pl nm tm md) (h1 : w'.heap[bm]? = w.heap[bm]?) (h2 : ∀ j, j < base -> w'.heap[j]? = w.heap[j]?) : Rdr w' base bm A c ts k pl nm tm md where
 box := h1.trans h.box
 tok := fun hn => by
   obtain ⟨b, off, hA, hlt, hc⟩ := h.tok hn
   exact ⟨b, off, hA, hlt, fun j hj => by
     obtain ⟨c0, c1, c2⟩ := hc j hj
     have hs := h2 b hlt
     exact ⟨(World.cell?_of_block (a := ⟨b, off + j * 3, none⟩) hs).trans c0, (World.cell?_of_block (a := ⟨b, off + j * 3 + 1, none⟩) hs).trans c1, (World.cell?_of_block (a := ⟨b, off + j * 3 + 2, none⟩) hs).trans c2⟩⟩
 low := h.low
 le := h.le
 few := h.few
theorem Rdr.put {w : World} {base bm : Nat} {A : Option Addr} {c : Nat} {ts : List Tok} {k : Nat} {pl nm tm : Value} {md : Int} (h : Rdr w base bm A c ts k pl nm tm md) (C i : Nat) (v : Value) (hC : bm < C) : Rdr (w.setCell ⟨C, i, none⟩ v) base bm A c ts k pl nm tm md :=
 h.same (Below.heap_setCell w ⟨C, i, none⟩ v bm (by show ¬ bm = C; omega)) fun j hj => Below.heap_setCell w ⟨C, i, none⟩ v j (by have := h.low; show ¬ j = C; omega)
theorem qio (base bm : Nat) (A : Option Addr) (c : Nat) (ts : List Tok) (k : Nat) (pl nm tm : Value) (md kd : Int) (w : World) (h : Rdr w base bm A c ts k pl nm tm md) (h0 : kd ≠ 0) (hk : (ts.getD k ⟨0, [], 0⟩).kind = kd) :
   Calls Tryz.prog 185 #[.pointer (some ⟨bm, 0, none⟩), .int .i64 kd] w fun e w' => e = .returned (X.tokV (ts.getD k ⟨0, [], 0⟩)) /\ Rdr w' base bm A c ts (k + 1) pl nm tm md /\ Turn bm w w' := by
 have hlt : k < ts.length := by
   apply Classical.byContradiction
   intro hn
   rw [List.getD_eq_getElem?_getD, List.getElem?_eq_none (by omega)] at hk
   exact h0 hk.symm
 have hl := World.lt_of_get h.box
 have hfew := h.few
 have hB := X.qab w (.cells #[.int .i64 0, .string ⟨#[]⟩, .int .i64 0] 118)
 have hx : (w.alloc (.cells #[.int .i64 0, .string ⟨#[]⟩, .int .i64 0] 118)).heap[w.heap.size]? = some (.cells #[.int .i64 0, .string ⟨#[]⟩, .int .i64 0] 118 (0, 0)) := World.alloc_heap_new w (.cells #[.int .i64 0, .string ⟨#[]⟩, .int .i64 0] 118)
 have hA := qdy base bm A c ts k pl nm tm md _ (h.later hB)
 rw [X.qdu] at hA ⊢
 have hd : ((ts.getD k ⟨0, [], 0⟩).kind == kd) = true := by simpa using hk
 generalize ts.getD k ⟨0, [], 0⟩ = q at hA hd ⊢
 obtain ⟨qk, qt, qn⟩ := q
 dsimp only at hA hd ⊢
 replace hA := hid hA
 clear hk
 replace h := hid h
 replace hB := hid hB
 replace hx := hid hx
 go_enter Tryz.func185, Tryz.ntmps185
 go_wp2_with fail
 refine hA.out.mono ?_
 rintro e w9 ⟨rfl, hb9⟩
 have hy : (w9.alloc (.cells #[.int .i64 qk, .string (X.strOf qt), .int .i64 qn] 118)).heap[w9.heap.size]? = some (.cells #[.int .i64 qk, .string (X.strOf qt), .int .i64 qn] 118 (0, 0)) := World.alloc_heap_new w9 (.cells #[.int .i64 qk, .string (X.strOf qt), .int .i64 qn] 118)
 have hb1 := hb9.alloc hb9.size (.cells #[.int .i64 qk, .string (X.strOf qt), .int .i64 qn] 118)
 have hx1 := (hb1.block w.heap.size (World.lt_of_get hx.out)).trans hx.out
 have hB1 := hB.out.trans (hb1.mono hB.out.size)
 have hs9 : w.heap.size < w9.heap.size := Nat.lt_of_lt_of_le (World.lt_of_get hx.out) hb9.size
 have hR1 := (h.out.later hB.out).later (hb9.alloc hb9.size (.cells #[.int .i64 qk, .string (X.strOf qt), .int .i64 qn] 118))
 have p1 : (w9.alloc (.cells #[.int .i64 qk, .string (X.strOf qt), .int .i64 qn] 118)).cell? ⟨bm, 1, none⟩ = some (.int .i64 k) := qaa _ bm 1 _ _ _ hR1.box
 have f1 : (w9.alloc (.cells #[.int .i64 qk, .string (X.strOf qt), .int .i64 qn] 118)).frozen? ⟨bm, 1, none⟩ = false := qac hR1.box 1
 have s0 : (w9.alloc (.cells #[.int .i64 qk, .string (X.strOf qt), .int .i64 qn] 118)).cell? ⟨w.heap.size, 0, none⟩ = some (.int .i64 0) := qaa _ w.heap.size 0 _ _ _ hx1
 have s1 : (w9.alloc (.cells #[.int .i64 qk, .string (X.strOf qt), .int .i64 qn] 118)).cell? ⟨w.heap.size, 1, none⟩ = some (.string ⟨#[]⟩) := qaa _ w.heap.size 1 _ _ _ hx1
 have s2 : (w9.alloc (.cells #[.int .i64 qk, .string (X.strOf qt), .int .i64 qn] 118)).cell? ⟨w.heap.size, 2, none⟩ = some (.int .i64 0) := qaa _ w.heap.size 2 _ _ _ hx1
 have y0 : (w9.alloc (.cells #[.int .i64 qk, .string (X.strOf qt), .int .i64 qn] 118)).cell? ⟨w9.heap.size, 0, none⟩ = some (.int .i64 qk) := qaa _ w9.heap.size 0 _ _ _ hy
 have y1 : (w9.alloc (.cells #[.int .i64 qk, .string (X.strOf qt), .int .i64 qn] 118)).cell? ⟨w9.heap.size, 1, none⟩ = some (.string (X.strOf qt)) := qaa _ w9.heap.size 1 _ _ _ hy
 have y2 : (w9.alloc (.cells #[.int .i64 qk, .string (X.strOf qt), .int .i64 qn] 118)).cell? ⟨w9.heap.size, 2, none⟩ = some (.int .i64 qn) := qaa _ w9.heap.size 2 _ _ _ hy
 have g0 := qac hx1 0
 have g1 := qac hx1 1
 have g2 := qac hx1 2
 have n1 : ¬ bm = w9.heap.size := by omega
 have n2 : ¬ bm = w.heap.size := by omega
 have n3 : ¬ w9.heap.size = w.heap.size := by omega
 replace hb9 := hid hb9
 replace hb1 := hid hb1
 replace hx1 := hid hx1
 replace hy := hid hy
 replace hB1 := hid hB1
 replace hR1 := hid hR1
 go_wp2_with fail
 have ek : ((k + 1 : Nat) : Int) = (k : Int) + 1 := by omega
 have hR2 := hR1.out.next hlt
 rw [ek] at hR2
 have hT2 := (Turn.of_below hB1.out).trans (Turn.set (bm := bm) (w9.alloc (.cells #[.int .i64 qk, .string (X.strOf qt), .int .i64 qn] 118)) 1 (.int .i64 ((k : Int) + 1)))
 have o : ∀ i, (⟨bm, 1, none⟩ : Addr) ≠ ⟨w.heap.size, i, none⟩ := fun i e => by injection e with e1; exact n2 e1
 obtain ⟨e0, e1, e2⟩ := qim (W := (w9.alloc (.cells #[.int .i64 qk, .string (X.strOf qt), .int .i64 qn] 118)).setCell ⟨bm, 1, none⟩ (.int .i64 ((k : Int) + 1))) (C := w.heap.size) (.int .i64 qk) (.string (X.strOf qt)) (.int .i64 qn) ((World.cell?_setCell_other _ _ _ _ (o 0)).trans s0) ((World.cell?_setCell_other _ _ _ _ (o 1)).trans s1) ((World.cell?_setCell_other _ _ _ _ (o 2)).trans s2)
 have hR3 := ((hR2.put w.heap.size 0 (.int .i64 qk) hl).put w.heap.size 1 (.string (X.strOf qt)) hl).put w.heap.size 2 (.int .i64 qn) hl
 have hT3 := ((hT2.fresh w.heap.size 0 (.int .i64 qk) (Nat.le_refl _)).fresh w.heap.size 1 (.string (X.strOf qt)) (Nat.le_refl _)).fresh w.heap.size 2 (.int .i64 qn) (Nat.le_refl _)
 clear p1 f1 s0 s1 s2 y0 y1 y2 g0 g1 g2 n1 n2 n3 o hT2 hR2
 generalize ((((w9.alloc (.cells #[.int .i64 qk, .string (X.strOf qt), .int .i64 qn] 118)).setCell ⟨bm, 1, none⟩ (.int .i64 ((k : Int) + 1))).setCell ⟨w.heap.size, 0, none⟩ (.int .i64 qk)).setCell ⟨w.heap.size, 1, none⟩ (.string (X.strOf qt))).setCell ⟨w.heap.size, 2, none⟩ (.int .i64 qn) = W9 at e0 e1 e2 hR3 hT3 ⊢
 refine bodyPost_ret (v := .agg #[.int .i64 qk, .string (X.strOf qt), .int .i64 qn]) ?_ rfl ⟨rfl, hR3, hT3⟩
 simp [results, Tryz.f185, go_sem, e0, e1, e2]
end Go.Proofs.YtjnfhebbphdchaaGreatDoor.Pa
namespace Go.Proofs.YtjnfhebbphdchaaGreatDoor.Pa
open Go.RowKit Go.Lx
theorem qjc (n : Int) (w : World) : (Instr.typeAssert (.iface 171 (.int .i64 n)) 20 129 true).run Tryz.prog w = .ok (.tuple #[.iface 171 (.int .i64 n), .bool true]) w := by kernel_rfl
theorem qmw (w : World) : (Instr.typeAssert .nilIface 20 129 true).run Tryz.prog w = .ok (.tuple #[.nilIface, .bool false]) w := by kernel_rfl
attribute [local go_sem] qjc qmw
def stopV (k n : Int) : Value := .iface 213 (.agg #[.int .i64 k, .iface 171 (.int .i64 n)])
theorem qpN (p q : Addr) (w : World) :
   CallsD Tryz.prog 137 #[.pointer (some p), .pointer (some q)] .returning w fun e u' w' => e = .returned (.tuple #[]) /\ u' = .returning /\ w' = w := by
 refine callsD_of_wpS Tryz.func137 rfl fun c₀ cs hu => ?_
 simp only [Tryz.ntmps137, List.size_toArray, List.length_cons, List.length_nil, Nat.reduceAdd, Nat.reduceSub, Array.replicate_succ, Array.replicate_zero, List.push_toArray, List.append_toArray, List.nil_append, List.cons_append]
 apply wpS_seq
 apply wpS_region
 simp [wpOpsS, go_sem, recoverD, hu, Exit.thenS]
 apply wpS_seq
 apply wpS_region
 simp [wpOpsS, go_sem, Exit.thenS]
 refine wpS_cond (t := false) (by simp [Act.eval]) ?_
 simp only [Bool.false_eq_true, if_false]
 refine wpS_of_wp (wp_skip ?_)
 cases c₀
 simp_all [bodyPostS, results, Tryz.results137]
theorem qmx (rb eb bm : Nat) (k n : Int) (u : Value) (w : World) (hr : w.cell? ⟨rb, 0, none⟩ = some (.pointer (some ⟨bm, 0, none⟩))) (hk : w.cell? ⟨bm, 1, none⟩ = some (.int .i64 k)) (he : w.cell? ⟨eb, 0, none⟩ = some u) (hf : w.frozen? ⟨eb, 0, none⟩ = false) :
   CallsD Tryz.prog 137 #[.pointer (some ⟨rb, 0, none⟩), .pointer (some ⟨eb, 0, none⟩)] (.panicking [{ v := .iface 171 (.int .i64 n), recovered := false }]) w fun e u' w' =>
     e = .returned (.tuple #[]) /\ u' = .panicking [{ v := .iface 171 (.int .i64 n), recovered := true }] /\ w' = w.setCell ⟨eb, 0, none⟩ (stopV k n) := by
 refine callsD_of_wpS Tryz.func137 rfl fun c₀ cs hu => ?_
 simp only [Tryz.ntmps137, List.size_toArray, List.length_cons, List.length_nil, Nat.reduceAdd, Nat.reduceSub, Array.replicate_succ, Array.replicate_zero, List.push_toArray, List.append_toArray, List.nil_append, List.cons_append]
 apply wpS_seq
 apply wpS_region
 simp [wpOpsS, go_sem, recoverD, hu, Exit.thenS]
 apply wpS_seq
 apply wpS_region
 simp [wpOpsS, go_sem, Exit.thenS]
 refine wpS_cond (t := true) (by simp [Act.eval]) ?_
 simp only [if_true]
 refine wpS_of_wp ?_
 go_wp2_with fail
 cases c₀
 simp_all [bodyPostS, results, Tryz.results137, stopV]
end Go.Proofs.YtjnfhebbphdchaaGreatDoor.Pa
namespace Go.Proofs.YtjnfhebbphdchaaGreatDoor.Pa
open Go.Lx
def stepF (p : Int × Int) (x : Tok) : Int × Int :=
 let o := if x.text = [40] then p.1 + 1 else if x.text = [41] then p.1 - 1 else p.1
 (o, max p.2 o)
def nestF (l : List Tok) : Int × Int := l.foldl stepF (0, 0)
theorem qmy (l : List Tok) (k : Nat) (hk : k < l.length) :
   (nestF (l.take (k + 1))).1 = (if (l.getD k ⟨0, [], 0⟩).text = [40] then (nestF (l.take k)).1 + 1 else if (l.getD k ⟨0, [], 0⟩).text = [41] then (nestF (l.take k)).1 - 1 else (nestF (l.take k)).1) ∧
   (nestF (l.take (k + 1))).2 = max (nestF (l.take k)).2 (nestF (l.take (k + 1))).1 := by
 have e : l.take (k + 1) = l.take k ++ [l.getD k ⟨0, [], 0⟩] := by
   rw [List.getD_eq_getElem?_getD, List.getElem?_eq_getElem hk, List.take_add_one, List.getElem?_eq_getElem hk]
   rfl
 have e2 : nestF (l.take (k + 1)) = stepF (nestF (l.take k)) (l.getD k ⟨0, [], 0⟩) := by
   rw [e]; unfold nestF; rw [List.foldl_append]; rfl
 rw [e2]
 exact ⟨rfl, rfl⟩
theorem qgv : ∀ (l : List Tok) (p : Int × Int) (n : Int), -n <= p.1 -> p.1 <= n -> 0 <= p.2 -> p.2 <= n -> -(n + l.length) <= (l.foldl stepF p).1 /\ (l.foldl stepF p).1 <= n + l.length /\ 0 <= (l.foldl stepF p).2 /\ (l.foldl stepF p).2 <= n + l.length
 | [], p, n, h1, h2, h3, h4 => ⟨by simpa using h1, by simpa using h2, h3, by simpa using h4⟩
 | x :: l, p, n, h1, h2, h3, h4 => by
   have h5 : -(n + 1) <= (stepF p x).1 /\ (stepF p x).1 <= n + 1 /\ 0 <= (stepF p x).2 /\ (stepF p x).2 <= n + 1 := by
     unfold stepF
     simp only
     split
     . omega
     . split <;> omega
   have := qgv l (stepF p x) (n + 1) h5.1 h5.2.1 h5.2.2.1 h5.2.2.2
   rw [List.foldl_cons, List.length_cons]
   push_cast
   omega
theorem qko (l : List Tok) : -(l.length : Int) <= (nestF l).1 /\ (nestF l).1 <= l.length /\ 0 <= (nestF l).2 /\ (nestF l).2 <= l.length := by
 have := qgv l (0, 0) 0 (by decide) (by decide) (by decide) (by decide)
 simpa [nestF] using this
end Go.Proofs.YtjnfhebbphdchaaGreatDoor.Pa
namespace Go.Proofs.YtjnfhebbphdchaaGreatDoor.Pa
open Go.RowKit Go.Lx
theorem maxI {m a b : Int} (h : Value.int .i64 b = .int .i64 a) : Value.int .i64 (if m < b then b else m) = .int .i64 (max m a) := by
 injection h with _ h; subst h; congr 1; split <;> omega
theorem qkp (A : Option Addr) (ts : List Tok) (c : Nat) (w : World) (hU : X.Toks w w.heap.size A ts) (hl : ts.length <= 140737488355328) :
   Calls Tryz.prog 56 #[.slice A ts.length c] w fun e w' => e = .returned (.int .i64 (nestF ts).2) /\ Below w.heap.size w w' := by
 go_enter Tryz.func56, Tryz.ntmps56
 go_wp2
 go_loopw [3, 4, 9] (fun o m i wr => ∃ k : Nat, k <= ts.length /\ i = .int .i64 k /\ o = .int .i64 (nestF (ts.take k)).1 /\ m = .int .i64 (nestF (ts.take k)).2 /\ Hid (Below w.heap.size w wr)) (fun _ _ i _ => ts.length - (intOf i).toNat)
 case atStart => exact ⟨0, Nat.zero_le _, rfl, rfl, rfl, Below.refl _ _⟩
 case round =>
   obtain ⟨k, hk, rfl, rfl, rfl, hB⟩ := hrel
   by_cases hlt : k < ts.length
   . obtain ⟨b, off, rfl, hb, hc⟩ := (hU.later hB.out) (by intro e; subst e; simp at hlt)
     obtain ⟨c0, c1, c2⟩ := hc k hlt
     clear hc
     have hs := qmy ts k hlt
     have hr := qko (ts.take k)
     have hr2 : (ts.take k).length = k := by rw [List.length_take]; omega
     rw [hr2] at hr
     have hO : Hid ((nestF (ts.take (k + 1))).1 = if (ts.getD k ⟨0, [], 0⟩).text = [40] then (nestF (ts.take k)).1 + 1 else if (ts.getD k ⟨0, [], 0⟩).text = [41] then (nestF (ts.take k)).1 - 1 else (nestF (ts.take k)).1) := hs.1
     have hM : Hid ((nestF (ts.take (k + 1))).2 = max (nestF (ts.take k)).2 (nestF (ts.take (k + 1))).1) := hs.2
     clear hs hr2
     obtain ⟨o9, hO9⟩ : ∃ x, Hid ((nestF (ts.take (k + 1))).1 = x) := ⟨_, rfl⟩
     obtain ⟨m9, hM9⟩ : ∃ x, Hid ((nestF (ts.take (k + 1))).2 = x) := ⟨_, rfl⟩
     rw [hO9.out] at hO hM
     rw [hM9.out] at hM
     generalize (nestF (ts.take k)).1 = o at hO hM hr ⊢
     generalize (nestF (ts.take k)).2 = m at hO hM hr ⊢
     generalize ts.getD k ⟨0, [], 0⟩ = q at c0 c1 c2 hO
     obtain ⟨qk, qt, qn⟩ := q
     dsimp only at c0 c1 c2 hO
     have hb9 : Hid (Below w.heap.size w (wr.alloc (.cells #[.int .i64 qk, .string (X.strOf qt), .int .i64 qn] 118))) := hB.out.alloc hB.out.size _
     have e4 : (X.strOf qt).data.toList = qt := X.qaP qt
     generalize X.strOf qt = S at c1 e4 hb9
     have e5 : S.toList = qt := by rw [ByteArray.toList_eq, e4]
     by_cases h1 : qt = [40]
     . have t1 : (S.toList == [40]) = true := by rw [e5, h1]; rfl
       have hO2 : Hid (o9 = o + 1) := by have := hO.out; rw [if_pos h1] at this; exact this
       clear hO h1 e4 e5
       go_wp2_with fail
       go_roundw
       case rel => exact ⟨k + 1, by omega, by go_num, by rw [hO9.out, hO2.out], by rw [hM9.out, hM.out, hO2.out]; exact maxI (by go_num), hb9⟩
       case measure => simp [intOf]; omega
     by_cases h2 : qt = [41]
     . have t1 : (S.toList == [40]) = false := by rw [e5, h2]; rfl
       have t2 : (S.toList == [41]) = true := by rw [e5, h2]; rfl
       have hO2 : Hid (o9 = o - 1) := by have := hO.out; rw [if_neg h1, if_pos h2] at this; exact this
       clear hO h1 h2 e4 e5
       go_wp2_with fail
       go_roundw
       case rel => exact ⟨k + 1, by omega, by go_num, by rw [hO9.out, hO2.out], by rw [hM9.out, hM.out, hO2.out]; exact maxI (by go_num), hb9⟩
       case measure => simp [intOf]; omega
     . have t1 : (S.toList == [40]) = false := by rw [e5]; simpa using h1
       have t2 : (S.toList == [41]) = false := by rw [e5]; simpa using h2
       have hO2 : Hid (o9 = o) := by have := hO.out; rw [if_neg h1, if_neg h2] at this; exact this
       clear hO h1 h2 e4 e5
       go_wp2_with fail
       go_roundw
       case rel => exact ⟨k + 1, by omega, by go_num, by rw [hO9.out, hO2.out], by rw [hM9.out, hM.out, hO2.out]; exact maxI rfl, hb9⟩
       case measure => simp [intOf]; omega
   . have h9 : ts.take k = ts := List.take_of_length_le (by omega)
     rw [h9]
     go_wp2_with fail
     go_ret
     exact ⟨rfl, hB.out⟩
end Go.Proofs.YtjnfhebbphdchaaGreatDoor.Pa
