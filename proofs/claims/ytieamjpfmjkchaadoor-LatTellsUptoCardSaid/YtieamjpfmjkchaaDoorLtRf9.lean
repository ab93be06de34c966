/-
  The walk of the reference's Parse. Condition: a text shorter than 2^32 bytes.
-/
import Derived.Test.YtieamjpfmjkchaaDoorLtRf8
namespace Go.Proofs.YtieamjpfmjkchaaDoor
open Go.RowKit Go.Shelf Go.Lt

/-- what is known while the reference parses -/
structure PI (w W : World) (p5 : Nat) (A1 : Option Addr) (ls : List ByteArray) (A2 : Option Addr) (c2 : Nat) (ns : List ByteArray) (v : Value) (us : List Nat) : Prop where
  below : Below w.heap.size w W
  env : Env W
  res : Res w.heap.size W
  b0 : W.cell? ⟨p5, 0, none⟩ = some (.slice A2 ns.length c2)
  b1 : W.cell? ⟨p5, 1, none⟩ = some v
  fr : W.frozen? ⟨p5, 1, none⟩ = false
  lt : p5 < W.heap.size
  ge : w.heap.size < p5
  four : 4 ≤ p5
  lines : Strs W p5 A1 ls
  names : Strs W p5 A2 ns
  own : W.ownsRow (p5 + 1) 50 1 v us.length (us.map fun u : Nat => Value.int .u64 (u : Int))
section
variable {w W : World} {p5 : Nat} {A1 : Option Addr} {ls : List ByteArray} {A2 : Option Addr} {c2 : Nat} {ns : List ByteArray} {v : Value} {us : List Nat}
theorem PI.later {W' : World} (h : PI w W p5 A1 ls A2 c2 ns v us) (hb : Below W.heap.size W W') : PI w W' p5 A1 ls A2 c2 ns v us :=
  ⟨h.below.trans (hb.mono h.below.size), h.env.later hb, h.res.later hb, (hb.cell (p := ⟨p5, 0, none⟩) h.lt).trans h.b0, (hb.cell (p := ⟨p5, 1, none⟩) h.lt).trans h.b1, (hb.frozen (p := ⟨p5, 1, none⟩) h.lt).trans h.fr, Nat.lt_of_lt_of_le h.lt hb.size, h.ge, h.four,
    h.lines.kept (Nat.le_refl _) fun _ hq => hb.cell (Nat.lt_trans hq h.lt), h.names.kept (Nat.le_refl _) fun _ hq => hb.cell (Nat.lt_trans hq h.lt), own_later h.own hb⟩
theorem PI.next {W1 : World} {v' : Value} {us' : List Nat} (h : PI w W p5 A1 ls A2 c2 ns v us) (hb : Below (p5 + 1) W W1) (ho : W1.ownsRow (p5 + 1) 50 1 v' us'.length (us'.map fun u : Nat => Value.int .u64 (u : Int))) :
    PI w (W1.setCell ⟨p5, 1, none⟩ v') p5 A1 ls A2 c2 ns v' us' := by
  have hne : ∀ q : Addr, q.block < p5 → (W1.setCell ⟨p5, 1, none⟩ v').cell? q = W.cell? q := fun q hq =>
    (World.cell?_setCell_other W1 ⟨p5, 1, none⟩ q v' (by intro e; subst e; simp at hq)).trans (hb.cell (Nat.lt_trans hq (Nat.lt_succ_self _)))
  have hbp : Below p5 W (W1.setCell ⟨p5, 1, none⟩ v') := (hb.mono (Nat.le_succ _)).setCell (p := ⟨p5, 1, none⟩) (Nat.le_refl _) v'
  have hge := h.ge
  refine ⟨(h.below.trans (hb.mono (by omega))).setCell (p := ⟨p5, 1, none⟩) (by show w.heap.size ≤ p5; omega) v', ?_, ?_, ?_, ?_, ?_, ?_, h.ge, h.four, h.lines.kept (Nat.le_refl _) hne, h.names.kept (Nat.le_refl _) hne, ownsRow_setCell_below ho (a := ⟨p5, 1, none⟩) (Nat.lt_succ_self _) v'⟩
  · exact h.env.below h.four hbp
  · have h1 := h.res
    have e0 : ∀ i, (W1.setCell ⟨p5, 1, none⟩ v').cell? ⟨w.heap.size, i, none⟩ = W.cell? ⟨w.heap.size, i, none⟩ := fun i => hbp.cell (p := ⟨w.heap.size, i, none⟩) h.ge
    have e1 : ∀ i, (W1.setCell ⟨p5, 1, none⟩ v').frozen? ⟨w.heap.size, i, none⟩ = W.frozen? ⟨w.heap.size, i, none⟩ := fun i => hbp.frozen (p := ⟨w.heap.size, i, none⟩) h.ge
    exact ⟨⟨(e0 0).trans h1.1.1, (e0 1).trans h1.1.2⟩, ⟨(e1 0).trans h1.2.1.1, (e1 1).trans h1.2.1.2⟩, Nat.lt_of_lt_of_le h1.2.2 (hbp.size)⟩
  · exact (World.cell?_setCell_other W1 ⟨p5, 1, none⟩ ⟨p5, 0, none⟩ v' (by simp)).trans ((hb.cell (p := ⟨p5, 0, none⟩) (Nat.lt_succ_self _)).trans h.b0)
  · refine World.cell?_setCell_same' _ _ _ ?_
    rw [(hb.cell (p := ⟨p5, 1, none⟩) (Nat.lt_succ_self _)).trans h.b1]; rfl
  · rw [World.frozen?_setCell]
    exact (hb.frozen (p := ⟨p5, 1, none⟩) (Nat.lt_succ_self _)).trans h.fr
  · exact Nat.lt_of_lt_of_le h.lt hbp.size
end

def RefPost (s : ByteArray) (w : World) (e : Ending) (w' : World) : Prop :=
  Below w.heap.size w w' ∧
  ((parseErr s = 0 ∧ ∃ A B c d, e = .returned (.tuple #[.agg #[.slice A (pnames s).length c, .slice B (prows s).length d], .int .i64 0]) ∧ LatAt w' A B c (pnames s) (prows s)) ∨
   (parseErr s ≠ 0 ∧ e = .returned (.tuple #[.agg #[.slice none 0 0, .slice none 0 0], .int .i64 (parseErr s : Nat)])))

theorem nl_arg : ((10 : UInt8).toNat : Int) = 10 := rfl
theorem sp_arg : ((32 : UInt8).toNat : Int) = 32 := rfl
def upK (ls : List ByteArray) (n k : Nat) : List Nat := (List.range k).map fun a => lineBits (Lt.nm ls (a + 1)) 0 n
theorem upK_len (ls : List ByteArray) (n k : Nat) : (upK ls n k).length = k := by simp [upK]
theorem upK_succ (ls : List ByteArray) (n k : Nat) : upK ls n (k + 1) = upK ls n k ++ [lineBits (Lt.nm ls (k + 1)) 0 n] := by simp [upK, List.range_succ]

theorem upK_all {s : ByteArray} {ls : List ByteArray} {n : Nat} (h : ∀ a, a < n → lineBits (Lt.nm ls (a + 1)) 0 n = row (rowsL (restB s) n) a) : upK ls n n = rowsL (restB s) n := by
  apply List.ext_getElem (by rw [upK_len, rowsL_length])
  intro a h1 h2
  have ha : a < n := by rwa [upK_len] at h1
  have e1 : (rowsL (restB s) n)[a] = row (rowsL (restB s) n) a := by
    unfold row
    rw [List.getD_eq_getElem?_getD, List.getElem?_eq_getElem h2]; rfl
  rw [e1, ← h a ha]
  simp [upK]
theorem rf_exit {w W : World} {s : ByteArray} (N : Nat) (hb : Below w.heap.size w W) (hr : Res w.heap.size W) (hN : parseErr s = N) (h0 : N ≠ 0) :
    ((W.setCell ⟨w.heap.size, 0, none⟩ (.slice none 0 0)).setCell ⟨w.heap.size, 1, none⟩ (.slice none 0 0)).cell? ⟨w.heap.size, 0, none⟩ = some (.slice none 0 0) ∧
    ((W.setCell ⟨w.heap.size, 0, none⟩ (.slice none 0 0)).setCell ⟨w.heap.size, 1, none⟩ (.slice none 0 0)).cell? ⟨w.heap.size, 1, none⟩ = some (.slice none 0 0) ∧
    RefPost s w (.returned (.tuple #[.agg #[.slice none 0 0, .slice none 0 0], .int .i64 (N : Nat)])) ((W.setCell ⟨w.heap.size, 0, none⟩ (.slice none 0 0)).setCell ⟨w.heap.size, 1, none⟩ (.slice none 0 0)) := by
  obtain ⟨x0, x1⟩ := store_two (.slice none 0 0) (.slice none 0 0) hr.1.1 hr.1.2
  refine ⟨x0, x1, (hb.setCell (p := ⟨w.heap.size, 0, none⟩) (Nat.le_refl _) _).setCell (p := ⟨w.heap.size, 1, none⟩) (Nat.le_refl _) _, .inr ⟨by rw [hN]; exact h0, by rw [hN]⟩⟩
theorem rf_exit_alloc {w W : World} {s : ByteArray} (N : Nat) (hb : Below w.heap.size w W) (hr : Res w.heap.size W) (hN : parseErr s = N) (h0 : N ≠ 0) (o : Obj) :
    (((W.setCell ⟨w.heap.size, 0, none⟩ (.slice none 0 0)).setCell ⟨w.heap.size, 1, none⟩ (.slice none 0 0)).alloc o).cell? ⟨w.heap.size, 0, none⟩ = some (.slice none 0 0) ∧
    (((W.setCell ⟨w.heap.size, 0, none⟩ (.slice none 0 0)).setCell ⟨w.heap.size, 1, none⟩ (.slice none 0 0)).alloc o).cell? ⟨w.heap.size, 1, none⟩ = some (.slice none 0 0) ∧
    RefPost s w (.returned (.tuple #[.agg #[.slice none 0 0, .slice none 0 0], .int .i64 (N : Nat)])) (((W.setCell ⟨w.heap.size, 0, none⟩ (.slice none 0 0)).setCell ⟨w.heap.size, 1, none⟩ (.slice none 0 0)).alloc o) := by
  obtain ⟨x0, x1, h1, h2⟩ := rf_exit N hb hr hN h0
  have hlt : w.heap.size < ((W.setCell ⟨w.heap.size, 0, none⟩ (.slice none 0 0)).setCell ⟨w.heap.size, 1, none⟩ (.slice none 0 0)).heap.size := by
    have := hr.2.2
    simpa using this
  have h3 := later_alloc ((W.setCell ⟨w.heap.size, 0, none⟩ (.slice none 0 0)).setCell ⟨w.heap.size, 1, none⟩ (.slice none 0 0)) o
  refine ⟨(h3.cell (p := ⟨w.heap.size, 0, none⟩) hlt).trans x0, (h3.cell (p := ⟨w.heap.size, 1, none⟩) hlt).trans x1, h1.trans (h3.mono h1.size), .inr ⟨by rw [hN]; exact h0, by rw [hN]⟩⟩
theorem cell_store {W : World} {C : Nat} {a b u v x : Value} {q : Addr} (h0 : W.cell? ⟨C, 0, none⟩ = some a) (h1 : W.cell? ⟨C, 1, none⟩ = some b) (hx : W.cell? q = some x) (ha : x ≠ a) (hb : x ≠ b) :
    ((W.setCell ⟨C, 0, none⟩ u).setCell ⟨C, 1, none⟩ v).cell? q = some x := by
  have n0 : (⟨C, 0, none⟩ : Addr) ≠ q := by rintro rfl; rw [hx] at h0; exact ha (Option.some.inj h0)
  have n1 : (⟨C, 1, none⟩ : Addr) ≠ q := by rintro rfl; rw [hx] at h1; exact hb (Option.some.inj h1)
  exact (World.cell?_setCell_other _ ⟨C, 1, none⟩ q v n1).trans ((World.cell?_setCell_other _ ⟨C, 0, none⟩ q u n0).trans hx)
theorem lat_store {W : World} {C : Nat} {u v : Value} {A B : Option Addr} {c : Nat} {ns : List ByteArray} {us : List Nat} (h : LatAt W A B c ns us) (hr : Res C W) :
    LatAt ((W.setCell ⟨C, 0, none⟩ u).setCell ⟨C, 1, none⟩ v) A B c ns us := by
  have hsz : ((W.setCell ⟨C, 0, none⟩ u).setCell ⟨C, 1, none⟩ v).heap.size = W.heap.size := by simp
  refine { h with names := fun hn => ?_, words := fun hn => ?_ }
  · obtain ⟨b, off, hA, hb, hc⟩ := h.names hn
    exact ⟨b, off, hA, by rw [hsz]; exact hb, fun j hj => cell_store hr.1.1 hr.1.2 (hc j hj) (fun e => by cases e) (fun e => by cases e)⟩
  · obtain ⟨b, off, hA, hb, hc⟩ := h.words hn
    exact ⟨b, off, hA, by rw [hsz]; exact hb, fun j hj => cell_store hr.1.1 hr.1.2 (hc j hj) (fun e => by cases e) (fun e => by cases e)⟩
theorem err_names {s : ByteArray} (c1 : ¬ 63 < spaces s) (c2 : namedB (pnames s) = false) : parseErr s = 2 := by
  unfold parseErr; rw [if_neg c1, if_pos c2]
theorem err_rows {s : ByteArray} (c1 : ¬ 63 < spaces s) (c2 : namedB (pnames s) = true) (c3 : rowsOk (restB s) (spaces s + 1) = false) : parseErr s = 2 := by
  unfold parseErr; rw [if_neg c1, if_neg (by rw [c2]; decide), if_pos c3]
theorem err_order {s : ByteArray} (c1 : ¬ 63 < spaces s) (c2 : namedB (pnames s) = true) (c3 : rowsOk (restB s) (spaces s + 1) = true) (c4 : ordered (prows s) = false) : parseErr s = 3 := by
  unfold parseErr; rw [if_neg c1, if_neg (by rw [c2]; decide), if_neg (by rw [c3]; decide), if_pos c4]
theorem err_bound {s : ByteArray} (c1 : ¬ 63 < spaces s) (c2 : namedB (pnames s) = true) (c3 : rowsOk (restB s) (spaces s + 1) = true) (c4 : ordered (prows s) = true) (c5 : complete (prows s) = false) : parseErr s = 4 := by
  unfold parseErr; rw [if_neg c1, if_neg (by rw [c2]; decide), if_neg (by rw [c3]; decide), if_neg (by rw [c4]; decide), if_pos c5]
theorem err_none {s : ByteArray} (c1 : ¬ 63 < spaces s) (c2 : namedB (pnames s) = true) (c3 : rowsOk (restB s) (spaces s + 1) = true) (c4 : ordered (prows s) = true) (c5 : complete (prows s) = true) : parseErr s = 0 := by
  unfold parseErr; rw [if_neg c1, if_neg (by rw [c2]; decide), if_neg (by rw [c3]; decide), if_neg (by rw [c4]; decide), if_neg (by rw [c5]; decide)]
theorem linesOk_no {ls : List ByteArray} {n : Nat} (h : ¬ (ls.length = n + 2 ∧ (Lt.nm ls (n + 1)).size = 0 ∧ ∀ a, a < n → lnOk n (Lt.nm ls (a + 1)) = true)) : linesOk ls n = false := by
  rw [← Bool.not_eq_true]
  intro e
  unfold linesOk at e
  rw [Bool.and_eq_true, Bool.and_eq_true, beq_iff_eq, beq_iff_eq, List.all_eq_true] at e
  exact h ⟨e.1.1, e.1.2, fun a ha => e.2 a (List.mem_range.2 ha)⟩
theorem linesOk_yes {ls : List ByteArray} {n : Nat} (h : ls.length = n + 2 ∧ (Lt.nm ls (n + 1)).size = 0 ∧ ∀ a, a < n → lnOk n (Lt.nm ls (a + 1)) = true) : linesOk ls n = true := by
  unfold linesOk
  rw [Bool.and_eq_true, Bool.and_eq_true, beq_iff_eq, beq_iff_eq, List.all_eq_true]
  exact ⟨⟨h.1, h.2.1⟩, fun a ha => h.2.2 a (List.mem_range.1 ha)⟩

set_option maxRecDepth 100000 in
set_option maxHeartbeats 4000000 in
theorem refparse_any (s : ByteArray) (w : World) (hE : Env w) (hs : s.size < 4294967281) :
    Calls Tryd.prog 13 #[.string s] w (RefPost s w) := by
  have k1 : Hid (Calls Tryd.prog 41 #[.string s, .int .u8 10] (w.alloc (.cells #[.slice none 0 0, .slice none 0 0] 27)) fun e w1 => Below w.heap.size w w1 ∧ Env w1 ∧ Res w.heap.size w1 ∧ ∃ A c ls, e = .returned (.slice A ls.length c) ∧ Strs w1 w1.heap.size A ls ∧ ls.map (·.data.toList) = cuts 10 s.data.toList ∧ ls.length ≤ s.size + 1 ∧ w.heap.size < w1.heap.size) := by
    have h0 := later_alloc w (.cells #[.slice none 0 0, .slice none 0 0] 27)
    have h := refcut_any s 10 (w.alloc (.cells #[.slice none 0 0, .slice none 0 0] 27)) (by omega)
    rw [nl_arg] at h
    refine h.mono fun e w1 ⟨h1, A, c, ls, h2, h3, _, _, h4, h5⟩ => ⟨h0.trans (h1.mono h0.size), (hE.later h0).later h1, (Res.new w _).later h1, A, c, ls, h2, h3, h4, h5, ?_⟩
    have := h1.size
    simp at this
    omega
  obtain ⟨i0, hi, hi2⟩ := Option.map_eq_some_iff.1 info_u64
  obtain ⟨hz0, hz1, hz2⟩ : i0.zero = some (.int .u64 0) ∧ i0.size = 1 ∧ i0.bytes = 8 := by
    injection hi2 with h1 h2; injection h2 with h2 h3; exact ⟨h1, h2, h3⟩
  replace hi := Lib.hid hi
  replace hz0 := Lib.hid hz0
  replace hz1 := Lib.hid hz1
  replace hz2 := Lib.hid hz2
  clear hi2
  go_enter Tryd.func13, Tryd.ntmps13
  go_wp2_with fail
  refine k1.out.mono ?_
  rintro e w1 ⟨hb1, hE1, hr1, A1, c1, ls, rfl, hS1, hls, hlen1, hlt1⟩
  clear k1
  obtain ⟨hhead, hrows⟩ := lines_rows hls
  have hpos : 0 < ls.length := by
    have := congrArg List.length hls
    rw [List.length_map] at this
    rw [this]
    exact List.length_pos_iff.2 (splitK_ne _ _ _ _)
  obtain ⟨bL, oL, rfl, hbL, hcL⟩ := hS1 (by intro e; subst e; simp at hpos)
  have hc0 : w1.cell? ⟨bL, oL, none⟩ = some (.string (headB s)) := by
    have := hcL 0 hpos
    rw [Nat.add_zero, hhead] at this
    exact this
  have k2 : Hid (Calls Tryd.prog 41 #[.string (headB s), .int .u8 32] w1 fun e w2 => e = e ∧ Below w1.heap.size w1 w2 ∧ ∃ A c, e = .returned (.slice A (pnames s).length c) ∧ Strs w2 w2.heap.size A (pnames s) ∧ (pnames s).length ≤ c ∧ c ≤ 9223372036854775807) := by
    have h := refcut_any (headB s) 32 w1 (by have := headB_size s; omega)
    rw [sp_arg] at h
    refine h.mono fun e w2 ⟨h1, A, c, ss, h2, h3, h4, h5, h6, _⟩ => ?_
    obtain rfl : ss = pnames s := map_inj (h6.trans (pnames_cuts s).symm)
    exact ⟨rfl, h1, A, c, h2, h3, h4, h5⟩
  replace hhead := Lib.hid hhead
  replace hrows := Lib.hid hrows
  replace hls := Lib.hid hls
  replace hb1 := Lib.hid hb1
  replace hE1 := Lib.hid hE1
  replace hr1 := Lib.hid hr1
  replace hcL := Lib.hid hcL
  clear hE hS1
  go_wp2_with fail
  refine k2.out.mono ?_
  rintro e w2 ⟨-, hb2, A2, c2, rfl, hS2, hcap, hcap2⟩
  clear k2
  have hpl := pnames_length s
  have hPI : Hid (PI w (w2.alloc (.cells #[.slice A2 (pnames s).length c2, .slice none 0 0] 27)) w2.heap.size (some ⟨bL, oL, none⟩) ls A2 c2 (pnames s) (.slice none 0 0) []) := by
    have h0 := later_alloc w2 (.cells #[.slice A2 (pnames s).length c2, .slice none 0 0] 27)
    have hx := Box2.new w2 (.slice A2 (pnames s).length c2) (.slice none 0 0) 27
    have hr := Res.new w2 27
    have hg := hb2.size
    have hfz : (w2.alloc (.cells #[.slice A2 (pnames s).length c2, .slice none 0 0] 27)).frozen? ⟨w2.heap.size, 1, none⟩ = false := frozen_of_row (World.alloc_heap_new w2 _) 1
    exact ⟨(hb1.out.trans (hb2.mono hb1.out.size)).trans (h0.mono (Nat.le_trans hb1.out.size hg)), (hE1.out.later hb2).later h0, (hr1.out.later hb2).later h0, hx.1, hx.2.1, hfz, by simp, by omega, by have := hE1.out.four; omega,
      fun _ => ⟨bL, oL, rfl, by omega, fun j hj => ((h0.cell (p := ⟨bL, oL + j, none⟩) (by show bL < w2.heap.size; omega)).trans (hb2.cell (p := ⟨bL, oL + j, none⟩) hbL)).trans (hcL.out j hj)⟩,
      hS2.kept (Nat.le_refl _) fun q hq => h0.cell hq, World.ownsRow_nil _ _ _ _⟩
  have hrow := Lib.hid (hrows.out (spaces s + 1) (by omega))
  have hr2 := Lib.hid (hr1.out.later hb2)
  have hbw2 := Lib.hid (hb1.out.trans (hb2.mono hb1.out.size))
  have hlt2 : w.heap.size < w2.heap.size := by have := hb2.size; omega
  clear hrows hb1 hE1 hr1 hcL hS2 hls
  by_cases c1 : 63 < spaces s
  case pos =>
    have hE9 : Hid (parseErr s = 1) := by
      show parseErr s = 1
      unfold parseErr; rw [if_pos c1]
    have hn64 : 64 < (pnames s).length := by omega
    have g1 := hr2.out.1.1
    have g2 := hr2.out.1.2
    have g3 := hr2.out.2.1.1
    have g4 := hr2.out.2.1.2
    have hne2 : w.heap.size ≠ w2.heap.size := by omega
    obtain ⟨x0, x1, hp⟩ := rf_exit_alloc 1 hbw2.out hr2.out hE9.out (by decide) (.cells #[.slice A2 (pnames s).length c2, .slice none 0 0] 27)
    replace x0 := Lib.hid x0
    replace x1 := Lib.hid x1
    replace hp := Lib.hid hp
    replace hpl := Lib.hid hpl
    go_wp2_with fail
    refine bodyPost_ret (v := .tuple #[.agg #[.slice none 0 0, .slice none 0 0], .int .i64 1]) ?_ rfl hp.out
    have x0 := x0.out
    have x1 := x1.out
    generalize World.alloc (World.setCell (World.setCell w2 ⟨w.heap.size, 0, none⟩ (.slice none 0 0)) ⟨w.heap.size, 1, none⟩ (.slice none 0 0)) (.cells #[.slice A2 (pnames s).length c2, .slice none 0 0] 27) = W9 at x0 x1 ⊢
    simp [results, Tryd.f13, go_sem, x0, x1]
  have hn64 : (pnames s).length ≤ 64 := by omega
  replace c1 := Lib.hid c1
  replace hpl := Lib.hid hpl
  have hnp : 1 ≤ (pnames s).length := by have := hpl.out; omega
  go_wp2_with fail
  generalize hW3 : (w2.alloc (.cells #[.slice A2 (pnames s).length c2, .slice none 0 0] 27)) = W3 at hPI ⊢
  have hlt3 := hPI.out.lt
  generalize hp5 : w2.heap.size = p5 at hPI hlt3 ⊢
  replace hW3 := Lib.hid hW3
  replace hp5 := Lib.hid hp5
  clear hb2 hr2 hbw2
  refine (refnames_any A2 (pnames s) c2 W3 (hPI.out.names.kept (Nat.le_of_lt hPI.out.lt) fun _ _ => rfl) (pnames_smax s (by omega)) (by omega)).mono ?_
  rintro e w3 ⟨rfl, hb3⟩
  have hP3 := Lib.hid (hPI.out.later hb3)
  clear hPI hb3 hlt3
  cases c2' : namedB (pnames s) with
  | false =>
    have hE9 := Lib.hid (err_names c1.out c2')
    replace c2' := Lib.hid c2'
    have r1 := hP3.out.res.1.1
    have r2 := hP3.out.res.1.2
    have f1 := hP3.out.res.2.1.1
    have f2 := hP3.out.res.2.1.2
    obtain ⟨x0, x1, hp⟩ := rf_exit 2 hP3.out.below hP3.out.res hE9.out (by decide)
    replace x0 := Lib.hid x0
    replace x1 := Lib.hid x1
    replace hp := Lib.hid hp
    go_wp2_with fail
    refine bodyPost_ret (v := .tuple #[.agg #[.slice none 0 0, .slice none 0 0], .int .i64 2]) ?_ rfl hp.out
    have x0 := x0.out
    have x1 := x1.out
    generalize (World.setCell (World.setCell w3 ⟨w.heap.size, 0, none⟩ (.slice none 0 0)) ⟨w.heap.size, 1, none⟩ (.slice none 0 0)) = W9 at x0 x1 ⊢
    simp [results, Tryd.f13, go_sem, x0, x1]
  | true =>
    replace c2' := Lib.hid c2'
    have hbad : Hid (linesOk ls (pnames s).length = false → parseErr s = 2) := fun h => err_rows c1.out c2'.out (by rw [← hrow.out.1, ← hpl.out]; exact h)
    by_cases hA : ls.length = (pnames s).length + 2
    case neg =>
      have hE9 := Lib.hid (hbad.out (linesOk_no fun h => hA h.1))
      have hA2 : ((ls.length : Int) == ((pnames s).length : Int) + 2) = false := by rw [beq_eq_false_iff_ne]; omega
      have hA3 : ((ls.length : Int) != ((pnames s).length : Int) + 2) = true := by rw [bne_iff_ne]; omega
      clear hA
      have r1 := hP3.out.res.1.1
      have r2 := hP3.out.res.1.2
      have f1 := hP3.out.res.2.1.1
      have f2 := hP3.out.res.2.1.2
      obtain ⟨x0, x1, hp⟩ := rf_exit 2 hP3.out.below hP3.out.res hE9.out (by decide)
      replace x0 := Lib.hid x0
      replace x1 := Lib.hid x1
      replace hp := Lib.hid hp
      go_wp2_with fail
      refine bodyPost_ret (v := .tuple #[.agg #[.slice none 0 0, .slice none 0 0], .int .i64 2]) ?_ rfl hp.out
      have x0 := x0.out
      have x1 := x1.out
      generalize (World.setCell (World.setCell w3 ⟨w.heap.size, 0, none⟩ (.slice none 0 0)) ⟨w.heap.size, 1, none⟩ (.slice none 0 0)) = W9 at x0 x1 ⊢
      simp [results, Tryd.f13, go_sem, x0, x1]
    have hA2 : ((ls.length : Int) == ((pnames s).length : Int) + 2) = true := by rw [beq_iff_eq]; omega
    have hA3 : ((ls.length : Int) != ((pnames s).length : Int) + 2) = false := by rw [Bool.eq_false_iff, Ne, bne_iff_ne]; omega
    have hA4 : (pnames s).length + 1 < ls.length := by omega
    replace hA := Lib.hid hA
    have hce : w3.cell? ⟨bL, oL + ((pnames s).length + 1), none⟩ = some (.string (Lt.nm ls ((pnames s).length + 1))) := by
      obtain ⟨b, off, hq, hb, hc⟩ := hP3.out.lines (by intro e; subst e; simp at hpos)
      cases hq
      exact hc _ hA4
    by_cases hZ : (Lt.nm ls ((pnames s).length + 1)).size = 0
    case neg =>
      have hE9 := Lib.hid (hbad.out (linesOk_no fun h => hZ h.2.1))
      generalize Lt.nm ls ((pnames s).length + 1) = X0 at hce hZ
      have hX1 : (X0.toList == ([] : List UInt8)) = false := by
        rw [beq_eq_false_iff_ne]
        intro e
        rw [ByteArray.toList_eq] at e
        have := congrArg List.length e
        simp at this
        exact hZ (by simpa using this)
      have r1 := hP3.out.res.1.1
      have r2 := hP3.out.res.1.2
      have f1 := hP3.out.res.2.1.1
      have f2 := hP3.out.res.2.1.2
      obtain ⟨x0, x1, hp⟩ := rf_exit 2 hP3.out.below hP3.out.res hE9.out (by decide)
      replace x0 := Lib.hid x0
      replace x1 := Lib.hid x1
      replace hp := Lib.hid hp
      go_wp2_with fail
      refine bodyPost_ret (v := .tuple #[.agg #[.slice none 0 0, .slice none 0 0], .int .i64 2]) ?_ rfl hp.out
      have x0 := x0.out
      have x1 := x1.out
      generalize (World.setCell (World.setCell w3 ⟨w.heap.size, 0, none⟩ (.slice none 0 0)) ⟨w.heap.size, 1, none⟩ (.slice none 0 0)) = W9 at x0 x1 ⊢
      simp [results, Tryd.f13, go_sem, x0, x1]
    have hX0 : Lt.nm ls ((pnames s).length + 1) = ⟨#[]⟩ := toList_inj (List.eq_nil_of_length_eq_zero (by simpa using hZ))
    rw [hX0] at hce
    replace hX0 := Lib.hid hX0
    replace hZ := Lib.hid hZ
    go_wp2_with fail
    go_loopw [7] (fun i wr => ∃ (k : Nat) (v : Value), k ≤ (pnames s).length ∧ i = .int .i64 k ∧ Hid (∀ j, j < k → lnOk (pnames s).length (Lt.nm ls (j + 1)) = true) ∧ Hid (PI w wr p5 (some ⟨bL, oL, none⟩) ls A2 c2 (pnames s) v (upK ls (pnames s).length k))) (fun i _ => (pnames s).length - (intOf i).toNat)
    case atStart => exact ⟨0, _, Nat.zero_le _, rfl, fun j hj => by omega, hP3⟩
    case round =>
      clear hP3 hce
      obtain ⟨k, v, hk, rfl, hok, hP⟩ := hrel
      by_cases hlt : k < (pnames s).length
      · have hkl : k + 1 < ls.length := by omega
        have hcl : wr.cell? ⟨bL, oL + (k + 1), none⟩ = some (.string (Lt.nm ls (k + 1))) := by
          obtain ⟨b, off, hq, hb, hc⟩ := hP.out.lines (by intro e; subst e; simp at hpos)
          cases hq
          exact hc _ hkl
        go_wp2_with fail
        refine (refrow_any (Lt.nm ls (k + 1)) (pnames s).length _ hn64).mono ?_
        rintro e w4 ⟨rfl, rfl⟩
        cases hln : lnOk (pnames s).length (Lt.nm ls (k + 1)) with
        | false =>
          have hE9 := Lib.hid (hbad.out (linesOk_no fun h => by have := h.2.2 k hlt; rw [hln] at this; cases this))
          replace hln := Lib.hid hln
          have r1 := hP.out.res.1.1
          have r2 := hP.out.res.1.2
          have f1 := hP.out.res.2.1.1
          have f2 := hP.out.res.2.1.2
          obtain ⟨x0, x1, hp⟩ := rf_exit 2 hP.out.below hP.out.res hE9.out (by decide)
          replace x0 := Lib.hid x0
          replace x1 := Lib.hid x1
          replace hp := Lib.hid hp
          go_wp2_with fail
          refine bodyPost_ret (v := .tuple #[.agg #[.slice none 0 0, .slice none 0 0], .int .i64 2]) ?_ rfl hp.out
          have x0 := x0.out
          have x1 := x1.out
          generalize (World.setCell (World.setCell w4 ⟨w.heap.size, 0, none⟩ (.slice none 0 0)) ⟨w.heap.size, 1, none⟩ (.slice none 0 0)) = W9 at x0 x1 ⊢
          simp [results, Tryd.f13, go_sem, x0, x1]
        | true =>
          have hok2 := Lib.hid (below_next hok.out hln)
          have hrv : rowVal (pnames s).length (Lt.nm ls (k + 1)) = lineBits (Lt.nm ls (k + 1)) 0 (pnames s).length := by
            unfold rowVal; rw [hln]; rfl
          rw [hrv]
          replace hrv := Lib.hid hrv
          replace hln := Lib.hid hln
          have hup := upK_succ ls (pnames s).length k
          have hul := upK_len ls (pnames s).length k
          generalize lineBits (Lt.nm ls (k + 1)) 0 (pnames s).length = x at hup hrv ⊢
          have hb9 : Below w4.heap.size w4 (w4.alloc (.cells #[.int .u64 (x : Int)] 50)) := later_alloc _ _
          have hP2 := Lib.hid (hP.out.later hb9)
          have hcell : Hid ((w4.alloc (.cells #[.int .u64 (x : Int)] 50)).cell? ⟨w4.heap.size, 0, none⟩ = some (.int .u64 (x : Int))) := (Boxed.new w4 50 (.int .u64 (x : Int))).cell
          have hpsz : Hid (p5 + 1 ≤ (w4.alloc (.cells #[.int .u64 (x : Int)] 50)).heap.size) := hP2.out.lt
          have hb1 := hP.out.b1
          have hown1 := Lib.hid hP2.out.own
          replace hb9 := Lib.hid (hb9.mono hP.out.lt : Below (p5 + 1) w4 _)
          replace hup := Lib.hid hup
          replace hul := Lib.hid hul
          clear hok
          go_wp2_with (at_builtin; refine wpList_append_own _ rfl _ _ 23 rfl (p5 + 1) 50 i0 (.int .u64 0) 1 8 Tryd.underlying23 hi.out hz0.out hz1.out hz2.out rfl (by decide) _ _ _ rfl hown1.out ⟨w4.heap.size, 0, none⟩ 1 1 [.int .u64 (x : Int)] rfl rfl ?c1 ?c2 ?c3 ?c4 ?c5 ?_)
          case c1 =>
            intro j u hj
            match j, hj with
            | 0, hj => cases hj; exact hcell.out
            | j + 1, hj => simp at hj
          case c2 =>
            intro u hu
            simp at hu
            subst hu; rfl
          case c3 => rw [hul.out]; unfold maxLen; omega
          case c4 => rw [hul.out]; omega
          case c5 => exact hpsz.out
          · intro v'' w5 hown' hgrow _
            have hb3 : Below (p5 + 1) w4 w5 := hb9.out.grown hgrow hpsz.out (own_block hown1.out)
            have hown2 : w5.ownsRow (p5 + 1) 50 1 v'' (upK ls (pnames s).length (k + 1)).length ((upK ls (pnames s).length (k + 1)).map fun u : Nat => Value.int .u64 (u : Int)) := by
              rw [hup.out, List.length_append, List.map_append]
              exact hown'
            obtain ⟨B', d', rfl, -⟩ := words_own hown2
            have hPN : Hid (PI w (w5.setCell ⟨p5, 1, none⟩ (.slice B' (upK ls (pnames s).length (k + 1)).length d')) p5 (some ⟨bL, oL, none⟩) ls A2 c2 (pnames s) (.slice B' (upK ls (pnames s).length (k + 1)).length d') (upK ls (pnames s).length (k + 1))) := hP.out.next hb3 hown2
            have d1 := (hb3.cell (p := ⟨p5, 1, none⟩) (Nat.lt_succ_self _)).trans hP.out.b1
            have d2 := (hb3.frozen (p := ⟨p5, 1, none⟩) (Nat.lt_succ_self _)).trans hP.out.fr
            clear hown' hown2 hgrow hb3 hb1 hP hP2 hcl
            go_wp2_with fail
            go_roundw
            case rel => exact ⟨k + 1, _, by omega, by go_num, hok2, hPN⟩
            case measure => simp [intOf]; omega
      · have hlo := linesOk_yes ⟨hA.out, hZ.out, fun a ha => hok.out a (by omega)⟩
        obtain rfl : k = (pnames s).length := by omega
        have hP9 : Hid (PI w wr p5 (some ⟨bL, oL, none⟩) ls A2 c2 (pnames s) v (prows s)) := by
          show PI w wr p5 _ ls A2 c2 (pnames s) v (prows s)
          have e : upK ls (pnames s).length (pnames s).length = prows s := by
            rw [hpl.out] at hlo ⊢
            exact upK_all (hrow.out.2 hlo)
          rw [← e]
          exact hP.out
        have c3 : Hid (rowsOk (restB s) (spaces s + 1) = true) := by
          show _ = true
          rw [← hrow.out.1, ← hpl.out]; exact hlo
        have hq : Hid ((pnames s).length = (prows s).length) := by
          show _ = _
          rw [prows_length, hpl.out]
        have hl : (prows s).length ≤ 64 := by have := hq.out; omega
        have h1l : 1 ≤ (prows s).length := by have := hq.out; omega
        have hsp : spaces s ≤ 63 := by have := c1.out; omega
        have h64 := Lib.hid (prows_lt s hsp)
        have hwi := Lib.hid (prows_within s hsp)
        have hsm := Lib.hid (pnames_smax s (by omega))
        replace hlo := Lib.hid hlo
        clear hP hok
        obtain ⟨B, d, rfl, -⟩ := words_own hP9.out.own
        have key : Hid (∀ W, PI w W p5 (some ⟨bL, oL, none⟩) ls A2 c2 (pnames s) (.slice B (prows s).length d) (prows s) → LatAt W A2 B c2 (pnames s) (prows s)) := fun W h => by
          obtain ⟨B', d', e, hW⟩ := words_own h.own
          cases e
          exact ⟨h.names.kept (Nat.le_of_lt h.lt) fun _ _ => rfl, hW, h64.out, hsm.out, by omega, hcap, hcap2, by omega⟩
        have q1 := hP9.out.b0
        have q2 := hP9.out.b1
        go_wp2_with fail
        clear q1 q2
        refine (reforder_any A2 B (pnames s) (prows s) c2 d _ hP9.out.env (key.out _ hP9.out) hq.out hl).mono ?_
        rintro e w4 ⟨rfl, hb4⟩
        rw [ordR_eq h64.out hl hwi.out]
        have hP4 := Lib.hid (hP9.out.later hb4)
        clear hb4 hP9
        cases c4 : ordered (prows s) with
        | false =>
          have hE9 := Lib.hid (err_order c1.out c2'.out c3.out c4)
          replace c4 := Lib.hid c4
          have r1 := hP4.out.res.1.1
          have r2 := hP4.out.res.1.2
          have f1 := hP4.out.res.2.1.1
          have f2 := hP4.out.res.2.1.2
          obtain ⟨x0, x1, hp⟩ := rf_exit 3 hP4.out.below hP4.out.res hE9.out (by decide)
          replace x0 := Lib.hid x0
          replace x1 := Lib.hid x1
          replace hp := Lib.hid hp
          go_wp2_with fail
          refine bodyPost_ret (v := .tuple #[.agg #[.slice none 0 0, .slice none 0 0], .int .i64 3]) ?_ rfl hp.out
          have x0 := x0.out
          have x1 := x1.out
          generalize (World.setCell (World.setCell w4 ⟨w.heap.size, 0, none⟩ (.slice none 0 0)) ⟨w.heap.size, 1, none⟩ (.slice none 0 0)) = W9 at x0 x1 ⊢
          simp [results, Tryd.f13, go_sem, x0, x1]
        | true =>
          replace c4 := Lib.hid c4
          have q1 := hP4.out.b0
          have q2 := hP4.out.b1
          go_wp2_with fail
          clear q1 q2
          refine (refbounded_any A2 B (pnames s) (prows s) c2 d _ hP4.out.env (key.out _ hP4.out) hq.out hl).mono ?_
          rintro e w5 ⟨rfl, hb5⟩
          rw [boundR_eq h64.out hl hwi.out c4.out h1l]
          have hP5 := Lib.hid (hP4.out.later hb5)
          clear hb5 hP4
          cases c5 : complete (prows s) with
          | false =>
            have hE9 := Lib.hid (err_bound c1.out c2'.out c3.out c4.out c5)
            replace c5 := Lib.hid c5
            have r1 := hP5.out.res.1.1
            have r2 := hP5.out.res.1.2
            have f1 := hP5.out.res.2.1.1
            have f2 := hP5.out.res.2.1.2
            obtain ⟨x0, x1, hp⟩ := rf_exit 4 hP5.out.below hP5.out.res hE9.out (by decide)
            replace x0 := Lib.hid x0
            replace x1 := Lib.hid x1
            replace hp := Lib.hid hp
            go_wp2_with fail
            refine bodyPost_ret (v := .tuple #[.agg #[.slice none 0 0, .slice none 0 0], .int .i64 4]) ?_ rfl hp.out
            have x0 := x0.out
            have x1 := x1.out
            generalize (World.setCell (World.setCell w5 ⟨w.heap.size, 0, none⟩ (.slice none 0 0)) ⟨w.heap.size, 1, none⟩ (.slice none 0 0)) = W9 at x0 x1 ⊢
            simp [results, Tryd.f13, go_sem, x0, x1]
          | true =>
            have hE9 := Lib.hid (err_none c1.out c2'.out c3.out c4.out c5)
            replace c5 := Lib.hid c5
            have q1 := hP5.out.b0
            have q2 := hP5.out.b1
            have r1 := hP5.out.res.1.1
            have r2 := hP5.out.res.1.2
            have f1 := hP5.out.res.2.1.1
            have f2 := hP5.out.res.2.1.2
            obtain ⟨x0, x1⟩ := store_two (.slice A2 (pnames s).length c2) (.slice B (prows s).length d) r1 r2
            have hBe := (hP5.out.below.setCell (p := ⟨w.heap.size, 0, none⟩) (Nat.le_refl _) (.slice A2 (pnames s).length c2)).setCell (p := ⟨w.heap.size, 1, none⟩) (Nat.le_refl _) (.slice B (prows s).length d)
            have hLf := lat_store (u := .slice A2 (pnames s).length c2) (v := .slice B (prows s).length d) (key.out _ hP5.out) hP5.out.res
            replace x0 := Lib.hid x0
            replace x1 := Lib.hid x1
            replace hBe := Lib.hid hBe
            replace hLf := Lib.hid hLf
            go_wp2_with fail
            refine bodyPost_ret (v := .tuple #[.agg #[.slice A2 (pnames s).length c2, .slice B (prows s).length d], .int .i64 0]) ?_ rfl ?_
            · have x0 := x0.out
              have x1 := x1.out
              generalize (World.setCell (World.setCell w5 ⟨w.heap.size, 0, none⟩ (.slice A2 (pnames s).length c2)) ⟨w.heap.size, 1, none⟩ (.slice B (prows s).length d)) = W9 at x0 x1 ⊢
              simp [results, Tryd.f13, go_sem, x0, x1]
            · exact ⟨hBe.out, .inl ⟨hE9.out, A2, B, c2, d, rfl, hLf.out⟩⟩
end Go.Proofs.YtieamjpfmjkchaaDoor
