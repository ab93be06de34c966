/-
  Whether what holds a place binds a name there. Condition: the place's term can be read, and has at most 4294967296 Kids.
-/
import Derived.Test.YthmchdpinobbgaaGreatDoorTmNode
namespace Go.Proofs.YthmchdpinobbgaaGreatDoor
open Go.RowKit Go.Shelf Go.Tm
attribute [local go_sem] Oper.semAt_some

/-- the last Kid of a binder -/
def boundB (par : Go.Tm.T) (kid : Nat) : Bool := ((kid : Int) == (par.kids.length : Int) - 1) && binderB par.kind

set_option maxRecDepth 100000 in
set_option maxHeartbeats 2000000 in
theorem bound_any (blk off kid d : Nat) (t : Go.Tm.T) (A : Option Addr) (c : Nat) (w : World) (hh : Hdr w anyB blk off t A c) (hl : t.kids.length ≤ 4294967296) :
    Calls Tryz.prog 25 #[.agg #[.pointer (some ⟨blk, off, none⟩), .int .i64 kid, .int .i64 d]] w fun e w' => e = .returned (.bool (boundB t kid)) ∧ Below w.heap.size w w' := by
  have hb := Lib.hid (later_alloc w (.cells #[.pointer (some ⟨blk, off, none⟩), .int .i64 kid, .int .i64 d] 60))
  have lt := World.block_lt_of_cell? w _ hh.kind
  have h0 := (hb.out.cell (p := ⟨blk, off, none⟩) lt).trans hh.kind
  have h1 := (hb.out.cell (p := ⟨blk, off + 1, none⟩) lt).trans hh.name
  have h2 := (hb.out.cell (p := ⟨blk, off + 2, none⟩) lt).trans hh.num
  have h3 := (hb.out.cell (p := ⟨blk, off + 3, none⟩) lt).trans hh.kids
  have hn := World.alloc_heap_new w (.cells #[.pointer (some ⟨blk, off, none⟩), .int .i64 kid, .int .i64 d] 60)
  have c0 := cell_of_row _ w.heap.size 0 _ _ _ hn
  have c1 := cell_of_row _ w.heap.size 1 _ _ _ hn
  clear hn hh lt
  cases e1 : ((kid : Int) == (t.kids.length : Int) - 1) with
  | false =>
    have hE : Hid (boundB t kid = false) := by show _ = _; unfold boundB; rw [e1]; rfl
    have d1 : decide ((kid : Int) = (t.kids.length : Int) - 1) = false := by rw [decide_eq_false_iff_not]; exact fun h => by rw [h] at e1; simp at e1
    have n1 : ¬ (kid : Int) = (t.kids.length : Int) - 1 := of_decide_eq_false d1
    go_enter Tryz.func25, Tryz.ntmps25
    go_wp2_with fail
    go_quiet (fail)
    all_goals go_wp2
    all_goals go_ret
    all_goals exact ⟨ret_bool hE.out.symm, belowN hb.out _⟩
  | true =>
    have hE : Hid (binderB t.kind = boundB t kid) := by show _ = _; unfold boundB; rw [e1]; rfl
    have hB : Hid (∀ W, Below w.heap.size w W → Calls Tryz.prog 30 #[.agg #[.int .i64 t.kind, .string t.name, .int .i64 t.num, .slice A t.kids.length c]] W fun e w' => e = .returned (.bool (binderB t.kind)) ∧ Hid (Below w.heap.size w w')) := fun W hW =>
      (binder_any t.kind t.num t.name (.slice A t.kids.length c) W).mono fun e w' h => ⟨h.1, hW.trans (h.2.mono hW.size)⟩
    have d1 : decide ((kid : Int) = (t.kids.length : Int) - 1) = true := by rw [decide_eq_true_eq]; exact eq_of_beq e1
    have n1 : (t.kids.length : Int) - 1 = (kid : Int) := (of_decide_eq_true d1).symm
    have hw : IntKind.i64.wrap (kid : Int) = (kid : Int) := wrap_small _ (by omega) (by omega)
    have hs : ((kid : Int) == (kid : Int)) = true := beq_self_eq_true _
    clear e1 d1
    go_enter Tryz.func25, Tryz.ntmps25
    go_wp2_with fail
    go_region_with (refine (hB.out _ (by first | exact hb.out | exact hb.out.drew)).mono ?_; rintro e w' ⟨rfl, hb9⟩)
    all_goals go_wp2
    all_goals go_ret
    all_goals exact ⟨ret_bool hE.out, hb9.out⟩
end Go.Proofs.YthmchdpinobbgaaGreatDoor
