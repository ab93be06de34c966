/-
  The statements' maker of terms by bytes: a byte; the state. Conditions: the bytes can be read; at most 60.
  What the maker of terms gathers: kids by value in a row of its own; they are right, and few. No condition.
  The statements' maker of terms: a term that is right. Conditions: the maker's box.
  The statements' term by bytes: it is right, of at most 181 terms, at most seven deep. Condition: the bytes can be read.
  A region that draws its order and calls functions that lay blocks: one walk of the text's order serves, where the worlds are those of a kind. Conditions: as stated.
  Terms that are told the same are the same. No condition.
-/
import Derived.Test.YtpdombmpmhnolaaGreatDoorShShow
import Derived.Deep.QuietTactic
import Derived.BigQuiet
import Derived.Test.YtpdombmpmhnolaaGreatDoorPaSteps
import Derived.Deep.RegionLaw
import Derived.Test.YtpdombmpmhnolaaGreatDoorTmSame
namespace Go.Proofs.YtpdombmpmhnolaaGreatDoor
open Go.RowKit Go.Shelf Go.Tm Go.Lx Go.Maps
attribute [local go_sem] Oper.semAt_some

/-- the maker in its box: bytes behind a slice, how many were taken -/
structure Mk (W : World) (bm : Nat) (A : Option Addr) (n c at_ : Nat) (zs : Nat → Int) : Prop where
  box : W.heap[bm]? = some (.cells #[.slice A n c, .int .i64 at_] 81 (0, 0))
  byt : n = 0 ∨ ∃ bb bo, A = some ⟨bb, bo, none⟩ ∧ bb ≠ bm ∧ ∀ j, j < n → W.cell? ⟨bb, bo + j, none⟩ = some (.int .u8 (zs j))
  rng : ∀ j, j < n → 0 ≤ zs j ∧ zs j ≤ 255
  le : at_ ≤ n
  few : n ≤ 60
/-- what a taking of bytes does to the world: the box alone is turned -/
structure Tk (bm : Nat) (w w' : World) : Prop where
  os : w'.os = w.os
  tape : w'.tape = w.tape
  output : w'.output = w.output
  size : w.heap.size ≤ w'.heap.size
  block : ∀ k, k < w.heap.size → k ≠ bm → w'.heap[k]? = w.heap[k]?
theorem Tk.refl (bm : Nat) (w : World) : Tk bm w w := ⟨rfl, rfl, rfl, Nat.le_refl _, fun _ _ _ => rfl⟩
theorem Tk.trans {bm : Nat} {a b c : World} (h : Tk bm a b) (k : Tk bm b c) : Tk bm a c :=
  ⟨k.os.trans h.os, k.tape.trans h.tape, k.output.trans h.output, Nat.le_trans h.size k.size, fun j hj hn => (k.block j (Nat.lt_of_lt_of_le hj h.size) hn).trans (h.block j hj hn)⟩
theorem Tk.of_below {bm : Nat} {w w' : World} (h : Below w.heap.size w w') : Tk bm w w' := ⟨h.os, h.tape, h.output, h.size, fun k hk _ => h.block k hk⟩
theorem Tk.below {bm : Nat} {w w' : World} (h : Tk bm w w') (hb : bm < w.heap.size) : Below bm w w' := ⟨h.os, h.tape, h.output, h.size, fun k hk => h.block k (by omega) (by omega)⟩
theorem Tk.set {bm : Nat} (w : World) (i : Nat) (v : Value) : Tk bm w (w.setCell ⟨bm, i, none⟩ v) :=
  ⟨rfl, rfl, rfl, by simp, fun k _ hn => Below.heap_setCell _ _ _ _ hn⟩
theorem Mk.later {W W' : World} {bm n c at_ : Nat} {A : Option Addr} {zs : Nat → Int} (h : Mk W bm A n c at_ zs) (hb : Below W.heap.size W W') : Mk W' bm A n c at_ zs where
  box := (hb.block bm (World.lt_of_get h.box)).trans h.box
  byt := h.byt.imp id fun ⟨bb, bo, h1, h2, h3⟩ => ⟨bb, bo, h1, h2, fun j hj => (hb.cell (p := ⟨bb, bo + j, none⟩) (World.block_lt_of_cell? W _ (h3 j hj))).trans (h3 j hj)⟩
  rng := h.rng
  le := h.le
  few := h.few
theorem Mk.next {W : World} {bm n c at_ : Nat} {A : Option Addr} {zs : Nat → Int} (h : Mk W bm A n c at_ zs) (hl : at_ < n) : Mk (W.setCell ⟨bm, 1, none⟩ (.int .i64 (at_ + 1 : Nat))) bm A n c (at_ + 1) zs where
  box := heap_setCell_same W bm 1 _ _ _ h.box
  byt := h.byt.imp id fun ⟨bb, bo, h1, h2, h3⟩ => ⟨bb, bo, h1, h2, fun j hj => (World.cell?_of_block (a := ⟨bb, bo + j, none⟩) (Below.heap_setCell _ _ _ _ h2)).trans (h3 j hj)⟩
  rng := h.rng
  le := hl
  few := h.few

set_option maxRecDepth 100000 in
set_option maxHeartbeats 2000000 in
theorem byte_any (bm : Nat) (A : Option Addr) (n c at_ : Nat) (zs : Nat → Int) (w : World) (h : Mk w bm A n c at_ zs) :
    Calls Tryz.prog 62 #[.pointer (some ⟨bm, 0, none⟩)] w fun e w' => ∃ (z : Int) (a' : Nat), e = .returned (.int .i64 z) ∧ 0 ≤ z ∧ z ≤ 255 ∧ at_ ≤ a' ∧ (at_ < n → a' = at_ + 1) ∧ Mk w' bm A n c a' zs ∧ Tk bm w w' := by
  have p0 := cell_of_row w bm 0 _ _ _ h.box
  have p1 := cell_of_row w bm 1 _ _ _ h.box
  have hf1 := frozen_of_row h.box 1
  have hl := World.lt_of_get h.box
  have hle := h.le
  have hfew := h.few
  by_cases hlt : at_ < n
  · have hn := Lib.hid (h.next hlt)
    obtain ⟨bb, bo, rfl, hne, hbs⟩ := h.byt.resolve_left (by omega)
    have hb := hbs at_ hlt
    clear hbs
    have hr := h.rng at_ hlt
    obtain ⟨z, hz⟩ : ∃ z, zs at_ = z := ⟨_, rfl⟩
    rw [hz] at hb hr
    have hd : decide ((n : Int) ≤ (at_ : Int)) = false := decide_eq_false (by omega)
    have hw : IntKind.i64.wrap z = z := wrap_small z (by omega) (by omega)
    replace hz := Lib.hid hz
    replace h := Lib.hid h
    go_enter Tryz.func62, Tryz.ntmps62
    go_wp2_with fail
    go_quiet (fail)
    go_wp2_with fail
    have hN : Mk ((w.drewN nq).setCell ⟨bm, 1, none⟩ (.int .i64 ((at_ : Int) + 1))) bm (some ⟨bb, bo, none⟩) n c (at_ + 1) zs := (h.out.later (belowN (Below.refl _ _) nq)).next hlt
    have hT : Tk bm w ((w.drewN nq).setCell ⟨bm, 1, none⟩ (.int .i64 ((at_ : Int) + 1))) := (Tk.of_below (belowN (Below.refl _ _) nq)).trans (Tk.set _ _ _)
    obtain ⟨W9, hW9⟩ : ∃ W, (w.drewN nq).setCell ⟨bm, 1, none⟩ (.int .i64 ((at_ : Int) + 1)) = W := ⟨_, rfl⟩
    rw [hW9] at hN hT ⊢
    clear hW9 p0 p1 hf1 hb hd
    have p0 := cell_of_row W9 bm 0 _ _ _ hN.box
    have p1 : W9.cell? ⟨bm, 1, none⟩ = some (.int .i64 ((at_ : Int) + 1)) := cell_of_row W9 bm 1 _ _ _ hN.box
    obtain ⟨bb', bo', hA', _, hbs'⟩ := hN.byt.resolve_left (by omega)
    cases hA'
    have hb := hbs' at_ hlt
    clear hbs'
    rw [hz.out] at hb
    have hT2 := Lib.hid (fun k => hT.trans (Tk.of_below (belowN (Below.refl _ W9) k)))
    have hN2 := Lib.hid (fun k => hN.later (belowN (Below.refl _ W9) k))
    clear hN hT
    go_quiet (fail)
    go_wp2
    go_ret
    exact ⟨z, at_ + 1, rfl, hr.1, hr.2, Nat.le_succ _, fun _ => rfl, hN2.out _, hT2.out _⟩
  · have hd : decide ((n : Int) ≤ (at_ : Int)) = true := decide_eq_true (by omega)
    replace h := Lib.hid h
    go_enter Tryz.func62, Tryz.ntmps62
    go_wp2_with fail
    go_quiet (fail)
    go_wp2
    go_ret
    exact ⟨0, at_, rfl, by decide, by decide, Nat.le_refl _, fun h => absurd h hlt, h.out.later (belowN (Below.refl _ _) _), Tk.of_below (belowN (Below.refl _ _) _)⟩
end Go.Proofs.YtpdombmpmhnolaaGreatDoor
namespace Go.Proofs.YtpdombmpmhnolaaGreatDoor
open Go.RowKit Go.Shelf Go.Tm Go.Lx Go.Maps

theorem nodesTs_all : ∀ {ks : List Go.Tm.T}, (∀ u ∈ ks, Rt u) → nodesTs ks = true
  | [], _ => by rw [nodesTs]
  | t :: ts, h => by rw [nodesTs, rt_nodes (h t (by simp)), nodesTs_all (fun u hu => h u (by simp [hu]))]; rfl
theorem rt_mk {kn : Nat} {nm : ByteArray} {num : Int} {ks : List Go.Tm.T} (h1 : 1 ≤ kn) (h2 : kn ≤ 13) (hl : ks.length = kidsTab.getD kn 0) (hf : fieldsB (.node kn nm num []) = true) (hk : ∀ u ∈ ks, Rt u) : Rt (.node kn nm num ks) := by
  refine rt_of _ _ (Nat.le_refl _) ?_
  rw [nodesT, nodesTs_all hk, Bool.and_true]
  unfold nodeB
  have e1 : (T.node kn nm num ks).kind = (kn : Int) := rfl
  have e2 : (T.node kn nm num ks).kids = ks := rfl
  have e3 : fieldsB (.node kn nm num ks) = fieldsB (.node kn nm num []) := rfl
  rw [e1, e2, e3, hf, decide_eq_true (by omega), decide_eq_true (by omega), Int.toNat_natCast, hl]
  simp
theorem depths_le : ∀ {ks : List Go.Tm.T} {d : Nat}, (∀ u ∈ ks, u.depth ≤ d) → depths ks ≤ d
  | [], _, _ => by rw [depths]; exact Nat.zero_le _
  | t :: ts, d, h => by
    rw [depths]
    have := h t (by simp)
    have := depths_le (ks := ts) (d := d) (fun u hu => h u (by simp [hu]))
    omega
theorem sizes_app : ∀ (a b : List Go.Tm.T), sizes (a ++ b) = sizes a + sizes b
  | [], b => by rw [List.nil_append, sizes]; omega
  | t :: a, b => by rw [List.cons_append, sizes, sizes, sizes_app a b]; omega
theorem Tk.cell {bm : Nat} {w w' : World} (h : Tk bm w w') {b o : Nat} {v : Value} (hne : b ≠ bm) (hc : w.cell? ⟨b, o, none⟩ = some v) : w'.cell? ⟨b, o, none⟩ = some v :=
  (World.cell?_of_block (a := ⟨b, o, none⟩) (h.block b (World.block_lt_of_cell? w _ hc) hne)).trans hc
/-- the kids gathered, and where theirs lie -/
structure RT (w W : World) (bm b : Nat) (K num : Int) (nm : ByteArray) (v : Value) (xs : List (Go.Tm.T × Option Addr × Nat)) : Prop where
  tk : Tk bm w W
  own : W.ownsRow (b + 1) 26 4 v xs.length (xs.flatMap tmC)
  kids : ∀ x ∈ xs, TmV W (KidB W b v) x.1 x.2.1 x.2.2
  box : W.heap[b]? = some (.cells #[.int .i64 K, .string nm, .int .i64 num, v] 26 (0, 0))
  lo : w.heap.size ≤ b
  bm : bm < w.heap.size
theorem RT.own_at {w W : World} {bm b : Nat} {K num : Int} {nm : ByteArray} {v : Value} {xs : List (Go.Tm.T × Option Addr × Nat)} (h : RT w W bm b K num nm v xs) {g : Nat} (hg : v.ownBlock = some g) : b < g ∧ g < W.heap.size := by
  obtain ⟨cur, hc, hb⟩ := Go.Proofs.YtpdombmpmhnolaaGreatDoor.own_at h.own hg
  exact ⟨hb, World.lt_of_get hc⟩
theorem RT.later {w W W' : World} {bm b : Nat} {K num : Int} {nm : ByteArray} {v : Value} {xs : List (Go.Tm.T × Option Addr × Nat)} (h : RT w W bm b K num nm v xs) (hT : Tk bm W W') : RT w W' bm b K num nm v xs where
  tk := h.tk.trans hT
  own := own_same3 h.own fun g hg => by
    have h1 := h.own_at hg
    have h2 := h.lo
    have h3 := h.bm
    exact hT.block g h1.2 (by omega)
  kids x hx := (h.kids x hx).kept (fun k hk => ⟨hk.1, Nat.lt_of_lt_of_le hk.2.1 hT.size, hk.2.2⟩) (fun k hk => hT.block k hk.2.1 (by have := hk.1; have := h.lo; have := h.bm; omega))
  box := (hT.block b (World.lt_of_get h.box) (by have := h.lo; have := h.bm; omega)).trans h.box
  lo := h.lo
  bm := h.bm
theorem RT.boxed {w W W' : World} {bm b : Nat} {K num : Int} {nm : ByteArray} {v : Value} {xs : List (Go.Tm.T × Option Addr × Nat)} (h : RT w W bm b K num nm v xs) (hg : W.grownBy W' v.ownBlock) : W'.heap[b]? = some (.cells #[.int .i64 K, .string nm, .int .i64 num, v] 26 (0, 0)) :=
  (hg.block b (World.lt_of_get h.box) (fun e => by have := (h.own_at e.symm).1; omega)).trans h.box
theorem RT.put {w W W' : World} {bm b : Nat} {K num : Int} {nm : ByteArray} {v v' : Value} {xs : List (Go.Tm.T × Option Addr × Nat)} {x : Go.Tm.T × Option Addr × Nat} (h : RT w W bm b K num nm v xs) (hx : TmV W (KidB W b v) x.1 x.2.1 x.2.2) (hg : W.grownBy W' v.ownBlock)
    (ho : W'.ownsRow (b + 1) 26 4 v' (xs.length + 1) (xs.flatMap tmC ++ tmC x)) (hat : v'.ownBlock = v.ownBlock ∨ v'.ownBlock = some W.heap.size) : RT w (W'.setCell ⟨b, 3, none⟩ v') bm b K num nm v' (xs ++ [x]) where
  tk := by
    refine ⟨hg.os.trans h.tk.os, hg.tape.trans h.tk.tape, hg.output.trans h.tk.output, ?_, fun k hk hn => ?_⟩
    · have := hg.size; have := h.tk.size; simp; omega
    · rw [Below.heap_setCell _ _ _ _ (by show k ≠ b; have := h.lo; omega), hg.block k (Nat.lt_of_lt_of_le hk h.tk.size) (fun e => by have := (h.own_at e.symm).1; have := h.lo; omega)]
      exact h.tk.block k hk hn
  own := by
    rw [List.flatMap_append, List.length_append]
    exact ownsRow_setCell_below (by simpa using ho) (a := ⟨b, 3, none⟩) (Nat.lt_succ_self b) v'
  kids y hy := by
    have hk : ∀ y : Go.Tm.T × Option Addr × Nat, TmV W (KidB W b v) y.1 y.2.1 y.2.2 → TmV (W'.setCell ⟨b, 3, none⟩ v') (KidB (W'.setCell ⟨b, 3, none⟩ v') b v') y.1 y.2.1 y.2.2 := fun y hy =>
      hy.kept (fun k hk => ⟨hk.1, by simp; exact Nat.lt_of_lt_of_le hk.2.1 hg.size, hk.2.2.1, by
        rcases hat with e | e
        · rw [e]; exact hk.2.2.2
        · rw [e]; intro e2; injection e2 with e3; have := hk.2.1; omega⟩)
        (fun k hk => (Below.heap_setCell _ _ _ _ hk.2.2.1).trans (hg.block k hk.2.1 (Ne.symm hk.2.2.2)))
    rcases List.mem_append.1 hy with hy | hy
    · exact hk y (h.kids y hy)
    · obtain rfl := List.mem_singleton.1 hy
      exact hk y hx
  box := heap_setCell_same W' b 3 _ _ v' (h.boxed hg)
  lo := h.lo
  bm := h.bm
theorem RT.last {w W : World} {bm b : Nat} {K num : Int} {nm : ByteArray} {v : Value} {xs : List (Go.Tm.T × Option Addr × Nat)} (h : RT w W bm b K num nm v xs) (hn : nm.size ≤ 9223372036854775807) : ∃ A c, v = .slice A (xs.map (·.1)).length c ∧ TmV W (fun k => b < k ∧ k < W.heap.size) (.node K nm num (xs.map (·.1))) A c := by
  have hl : xs.length = (xs.map (·.1)).length := by rw [List.length_map]
  obtain ⟨h1, ⟨rfl, h2⟩ | ⟨g, cap, cur, rfl, hb, hg, r1, r2, r3, r4⟩⟩ := h.own
  · rw [← hl, h2]
    exact ⟨none, 0, rfl, hn, .inl (by show xs.map (·.1) = []; exact List.eq_nil_of_length_eq_zero (by rw [← hl, h2]))⟩
  · rw [← hl]
    refine ⟨_, _, rfl, hn, .inr ⟨g, 0, rfl, ?_⟩⟩
    exact row_new (W := W) (p := fun k => b < k ∧ k < W.heap.size) (b := g) ⟨by omega, World.lt_of_get hg⟩ xs 0 (fun x hx => (h.kids x hx).kept (fun k hk => ⟨hk.1, hk.2.1⟩) (fun _ _ => rfl)) (fun i u hu => by
      rw [Nat.zero_add, cell_of_row W g i _ _ _ hg]
      have h3 : (cur.toList.take (xs.length * 4))[i]? = some u := by rw [r4]; exact hu
      have h4 : i < (cur.toList.take (xs.length * 4)).length := (List.getElem?_eq_some_iff.1 h3).1
      rw [List.getElem?_take_of_lt (by rw [List.length_take] at h4; omega), Array.getElem?_toList] at h3
      exact h3)
end Go.Proofs.YtpdombmpmhnolaaGreatDoor
namespace Go.Proofs.YtpdombmpmhnolaaGreatDoor
open Go.RowKit Go.Shelf Go.Tm Go.Lx Go.Maps
attribute [local go_sem] Oper.semAt_some

/-- what is made -/
structure Made (d : Nat) (w w' : World) (bm : Nat) (A : Option Addr) (n c at_ a' : Nat) (zs : Nat → Int) (t : Go.Tm.T) (A' : Option Addr) (c' : Nat) : Prop where
  rt : Rt t
  few : t.size + 3 * at_ ≤ 1 + 3 * a'
  deep : t.depth ≤ d + 1
  le : at_ ≤ a'
  maker : Mk w' bm A n c a' zs
  tk : Tk bm w w'
  tm : TmV w' (fun k => w.heap.size ≤ k ∧ k < w'.heap.size) t A' c'
def TermStmt (d : Nat) : Prop := ∀ (bm : Nat) (A : Option Addr) (n c at_ : Nat) (zs : Nat → Int) (w : World), Mk w bm A n c at_ zs →
  Calls Tryz.prog 38 #[.pointer (some ⟨bm, 0, none⟩), .int .i64 d] w fun e w' => ∃ t A' c' a', e = .returned (tmV t A' c') ∧ Made d w w' bm A n c at_ a' zs t A' c'
def nameAt : List ByteArray := [⟨#[120]⟩, ⟨#[121]⟩, ⟨#[122]⟩, ⟨#[99]⟩, ⟨#[102, 49]⟩]
def opAt : List ByteArray := [⟨#[43]⟩, ⟨#[45]⟩, ⟨#[42]⟩, ⟨#[60]⟩, ⟨#[61]⟩]
theorem five_cell {W : World} {b : Nat} {l : List ByteArray} {ty : TypeId} (h : W.heap[b]? = some (.cells (l.map Value.string).toArray ty (0, 0))) (j : Nat) (hj : j < l.length) : W.cell? ⟨b, j, none⟩ = some (.string (l.getD j ⟨#[]⟩)) := by
  rw [cell_of_row W b j _ _ _ h, List.getElem?_toArray, List.getElem?_map, List.getD_eq_getElem?_getD, List.getElem?_eq_getElem hj]; rfl

theorem tk_set4 {bm : Nat} {w w1 : World} {v0 v1 v2 v3 : Value} {o : Obj} (h : Tk bm w w1) (_ : w.heap.size < w1.heap.size) (nq : Nat) : Tk bm w (set4 ((w1.drewN nq).alloc o) w1.heap.size v0 v1 v2 v3) := by
  have h1 : Tk bm w ((w1.drewN nq).alloc o) := h.trans ((Tk.of_below (belowN (Below.refl _ _) nq)).trans (Tk.of_below (later_alloc _ _)))
  exact ⟨h1.os, h1.tape, h1.output, by rw [set4_size]; exact h1.size, fun k hk hn => by
    rw [set4_other (by have := h.size; omega)]
    exact h1.block k hk hn⟩
theorem mk_set4 {w1 : World} {bm n c a : Nat} {A : Option Addr} {zs : Nat → Int} {v0 v1 v2 v3 : Value} {o : Obj} (h : Mk w1 bm A n c a zs) (nq : Nat) : Mk (set4 ((w1.drewN nq).alloc o) w1.heap.size v0 v1 v2 v3) bm A n c a zs := by
  refine h.later ⟨rfl, rfl, rfl, by rw [set4_size]; simp, fun k hk => ?_⟩
  rw [set4_other (by omega)]
  exact Below.heap_alloc _ _ _ hk

theorem Mk.of_tk {w W : World} {bm n c at_ a : Nat} {A : Option Addr} {zs : Nat → Int} (h : Mk w bm A n c at_ zs) (ht : Tk bm w W) (hb : W.heap[bm]? = some (.cells #[.slice A n c, .int .i64 a] 81 (0, 0))) (hl : a ≤ n) : Mk W bm A n c a zs where
  box := hb
  byt := h.byt.imp id fun ⟨bb, bo, h1, h2, h3⟩ => ⟨bb, bo, h1, h2, fun j hj => (World.cell?_of_block (a := ⟨bb, bo + j, none⟩) (ht.block bb (World.block_lt_of_cell? w _ (h3 j hj)) h2)).trans (h3 j hj)⟩
  rng := h.rng
  le := hl
  few := h.few

set_option maxRecDepth 100000 in
set_option maxHeartbeats 4000000 in
theorem term_step (d : Nat) (hd100 : d ≤ 100) (IH : d = 0 ∨ ∃ d', d = d' + 1 ∧ TermStmt d') : TermStmt d := fun bm A n c at_ zs w hM => by
  have hbm := World.lt_of_get hM.box
  have hw1 : Tk bm w (w.alloc (.cells #[.int .i64 0, .string ⟨#[]⟩, .int .i64 0, .slice none 0 0] 26)) := Tk.of_below (later_alloc _ _)
  have hr0 : (w.alloc (.cells #[.int .i64 0, .string ⟨#[]⟩, .int .i64 0, .slice none 0 0] 26)).heap[w.heap.size]? = some (.cells #[.int .i64 0, .string ⟨#[]⟩, .int .i64 0, .slice none 0 0] 26 (0, 0)) := World.alloc_heap_new _ _
  have k1 := byte_any bm A n c at_ zs (w.alloc (.cells #[.int .i64 0, .string ⟨#[]⟩, .int .i64 0, .slice none 0 0] 26)) (hM.later (later_alloc _ _))
  replace k1 := Lib.hid k1
  replace hw1 := Lib.hid hw1
  replace hr0 := Lib.hid hr0
  replace IH := Lib.hid IH
  replace hM := Lib.hid hM
  go_enter Tryz.func38, Tryz.ntmps38
  go_wp2_with fail
  refine k1.out.mono ?_
  rintro e w1 ⟨z, a1, rfl, z0, z1, h1, h2, hM1, hT1⟩
  have hr1 := (hT1.block w.heap.size (World.lt_of_get hr0.out) (by omega)).trans hr0.out
  have hTw := hw1.out.trans hT1
  have hl1 := World.lt_of_get hr1
  have hle1 := hM1.le
  have m0 := cell_of_row w1 bm 0 _ _ _ hM1.box
  have m1 := cell_of_row w1 bm 1 _ _ _ hM1.box
  have hbm1 : bm < w1.heap.size := World.lt_of_get hM1.box
  replace hr1 := Lib.hid hr1
  replace hTw := Lib.hid hTw
  replace hM1 := Lib.hid hM1
  clear k1 hT1 hw1 hr0
  go_wp2_with fail
  obtain ⟨K0, hK0, hK1, hK2⟩ : ∃ K0 : Nat, 1 + z % 13 = (K0 : Int) ∧ 1 ≤ K0 ∧ K0 ≤ 13 := ⟨(1 + z % 13).toNat, by omega, by omega, by omega⟩
  rw [hK0]
  replace hK0 := Lib.hid hK0
  have hcase : d = 0 ∨ (0 < d ∧ n ≤ a1) ∨ (0 < d ∧ a1 < n) := by omega
  rename_i QA KA hKA KB hKB
  have hA : Hid (∀ (nq K : Nat) (x13 x14 x15 x16 x17 x18 x19 x20 x21 x22 x23 x24 x25 x26 x27 x28 x29 : Value), (1 ≤ K ∧ K ≤ 13 ∧ (kidsTab.getD K 0 = 0 ∨ ∃ d', d = d' + 1 ∧ TermStmt d' ∧ at_ < a1)) → KA { tmps := #[.pointer (some ⟨bm, 0, none⟩), .int .i64 d, undef, undef, .pointer (some ⟨w.heap.size, 0, none⟩), .int .i64 K, undef, undef, undef, .pointer (some ⟨bm, 0, none⟩), .int .i64 z, .int .i64 (z % 13), .int .i64 K0, x13, x14, x15, x16, x17, x18, x19, x20, x21, x22, x23, x24, x25, x26, x27, x28, x29, undef, undef, undef, undef, undef, undef, undef, undef, undef, undef, undef, undef, undef, undef, undef, undef, undef, undef, undef, undef, undef, undef, undef, undef, undef, undef, undef, undef, undef, undef, undef, undef, undef, undef, undef, undef, undef, undef, undef, undef, undef, undef, undef, undef, undef, undef, undef, undef, undef, undef, undef, undef], defers := [] } (w1.drewN nq)) := by
    intro nq K x13 x14 x15 x16 x17 x18 x19 x20 x21 x22 x23 x24 x25 x26 x27 x28 x29 hgo
    refine hKA _ _ ?_
    clear hKA hKB hcase h2 m0 m1
    replace hgo := Lib.hid hgo
    have hz9 : ((w1.drewN nq).alloc (.cells #[.int .i64 0, .string ⟨#[]⟩, .int .i64 0, .slice none 0 0] 26)).heap[w1.heap.size]? = some (.cells #[.int .i64 0, .string ⟨#[]⟩, .int .i64 0, .slice none 0 0] 26 (0, 0)) := World.alloc_heap_new _ _
    have f0 := frozen_of_row hz9 0
    have f1 := frozen_of_row hz9 1
    have f2 := frozen_of_row hz9 2
    have f3 := frozen_of_row hz9 3
    have g0 := cell_of_row _ w1.heap.size 0 _ _ _ hz9
    have g1 := cell_of_row _ w1.heap.size 1 _ _ _ hz9
    have g2 := cell_of_row _ w1.heap.size 2 _ _ _ hz9
    have g3 := cell_of_row _ w1.heap.size 3 _ _ _ hz9
    have hs9 := set4_same (v0 := .int .i64 K) (v1 := .string ⟨#[]⟩) (v2 := .int .i64 0) (v3 := .slice none 0 0) hz9
    have htk9 : Hid (Tk bm w (set4 ((w1.drewN nq).alloc (.cells #[.int .i64 0, .string ⟨#[]⟩, .int .i64 0, .slice none 0 0] 26)) w1.heap.size (.int .i64 K) (.string ⟨#[]⟩) (.int .i64 0) (.slice none 0 0))) := tk_set4 hTw.out hl1 nq
    have hmk9 : Hid (Mk (set4 ((w1.drewN nq).alloc (.cells #[.int .i64 0, .string ⟨#[]⟩, .int .i64 0, .slice none 0 0] 26)) w1.heap.size (.int .i64 K) (.string ⟨#[]⟩) (.int .i64 0) (.slice none 0 0)) bm A n c a1 zs) := mk_set4 hM1.out nq
    have hr9 : Hid ((set4 ((w1.drewN nq).alloc (.cells #[.int .i64 0, .string ⟨#[]⟩, .int .i64 0, .slice none 0 0] 26)) w1.heap.size (.int .i64 K) (.string ⟨#[]⟩) (.int .i64 0) (.slice none 0 0)).heap[w.heap.size]? = some (.cells #[.int .i64 0, .string ⟨#[]⟩, .int .i64 0, .slice none 0 0] 26 (0, 0))) := by show _ = _; rw [set4_other (by omega)]; exact (Below.heap_alloc (w1.drewN nq) _ _ hl1).trans hr1.out
    replace hz9 := Lib.hid hz9
    replace hs9 := Lib.hid hs9
    unfold set4 at htk9 hmk9 hr9 hs9
    go_wp2_with fail
    clear f0 f1 f2 f3 g0 g1 g2 g3 hz9
    have hW4s : ((((((w1.drewN nq).alloc (.cells #[.int .i64 0, .string ⟨#[]⟩, .int .i64 0, .slice none 0 0] 26)).setCell ⟨w1.heap.size, 0, none⟩ (.int .i64 K)).setCell ⟨w1.heap.size, 1, none⟩ (.string ⟨#[]⟩)).setCell ⟨w1.heap.size, 2, none⟩ (.int .i64 0)).setCell ⟨w1.heap.size, 3, none⟩ (.slice none 0 0)).heap.size = w1.heap.size + 1 := by simp
    obtain ⟨W4, hW4⟩ : ∃ W, (((((w1.drewN nq).alloc (.cells #[.int .i64 0, .string ⟨#[]⟩, .int .i64 0, .slice none 0 0] 26)).setCell ⟨w1.heap.size, 0, none⟩ (.int .i64 K)).setCell ⟨w1.heap.size, 1, none⟩ (.string ⟨#[]⟩)).setCell ⟨w1.heap.size, 2, none⟩ (.int .i64 0)).setCell ⟨w1.heap.size, 3, none⟩ (.slice none 0 0) = W := ⟨_, rfl⟩
    rw [hW4] at htk9 hmk9 hr9 hs9 hW4s ⊢
    clear hW4
    have hnm : (W4.alloc (.cells #[.string ⟨#[120]⟩, .string ⟨#[121]⟩, .string ⟨#[122]⟩, .string ⟨#[99]⟩, .string ⟨#[102, 49]⟩] 9)).heap[w1.heap.size + 1]? = some (.cells (nameAt.map Value.string).toArray 9 (0, 0)) := by rw [← hW4s]; exact World.alloc_heap_new _ _
    have hl4 : w.heap.size < W4.heap.size := by omega
    have k5 := Lib.hid (byte_any bm A n c a1 zs (W4.alloc (.cells #[.string ⟨#[120]⟩, .string ⟨#[121]⟩, .string ⟨#[122]⟩, .string ⟨#[99]⟩, .string ⟨#[102, 49]⟩] 9)) (hmk9.out.later (later_alloc _ _)))
    have htA := Lib.hid (htk9.out.trans (Tk.of_below (later_alloc W4 (.cells #[.string ⟨#[120]⟩, .string ⟨#[121]⟩, .string ⟨#[122]⟩, .string ⟨#[99]⟩, .string ⟨#[102, 49]⟩] 9))))
    have hrA : Hid ((W4.alloc (.cells #[.string ⟨#[120]⟩, .string ⟨#[121]⟩, .string ⟨#[122]⟩, .string ⟨#[99]⟩, .string ⟨#[102, 49]⟩] 9)).heap[w.heap.size]? = some (.cells #[.int .i64 0, .string ⟨#[]⟩, .int .i64 0, .slice none 0 0] 26 (0, 0))) := (Below.heap_alloc _ _ _ hl4).trans hr9.out
    have hsA : Hid ((W4.alloc (.cells #[.string ⟨#[120]⟩, .string ⟨#[121]⟩, .string ⟨#[122]⟩, .string ⟨#[99]⟩, .string ⟨#[102, 49]⟩] 9)).heap[w1.heap.size]? = some (.cells #[.int .i64 K, .string ⟨#[]⟩, .int .i64 0, .slice none 0 0] 26 (0, 0))) := (Below.heap_alloc _ _ _ (by omega)).trans hs9.out
    have hAs : (W4.alloc (.cells #[.string ⟨#[120]⟩, .string ⟨#[121]⟩, .string ⟨#[122]⟩, .string ⟨#[99]⟩, .string ⟨#[102, 49]⟩] 9)).heap.size = w1.heap.size + 2 := by simp [hW4s]
    replace hnm := Lib.hid hnm
    replace hW4s := Lib.hid hW4s
    replace hAs := Lib.hid hAs
    refine k5.out.mono ?_
    rintro e w5 ⟨z5, a5, rfl, z50, z51, h51, h52, hM5, hT5⟩
    clear h52
    have hr5 := (hT5.block w.heap.size (by rw [hAs.out]; omega) (by omega)).trans hrA.out
    have hs5 := (hT5.block w1.heap.size (by rw [hAs.out]; omega) (by omega)).trans hsA.out
    have hn5 := (hT5.block (w1.heap.size + 1) (by rw [hAs.out]; omega) (by omega)).trans hnm.out
    have ht5 := Lib.hid (htA.out.trans hT5)
    have hl5 := World.lt_of_get hn5
    have hj0 : 0 ≤ z5 % 5 := by omega
    have hj1 : z5 % 5 < 5 := by omega
    have hnc := five_cell hn5 (z5 % 5).toNat (by show _ < 5; omega)
    obtain ⟨nm, hnm2⟩ : ∃ s, nameAt.getD (z5 % 5).toNat ⟨#[]⟩ = s := ⟨_, rfl⟩
    rw [hnm2] at hnc
    have hnmW : Hid (wordB nm = true) := by
      show _ = _
      rw [← hnm2]
      have h : ∀ j : Fin 5, wordB (nameAt.getD j.val ⟨#[]⟩) = true := by decide
      exact h ⟨(z5 % 5).toNat, by omega⟩
    replace hnm2 := Lib.hid hnm2
    replace hM5 := Lib.hid hM5
    replace hr5 := Lib.hid hr5
    replace hs5 := Lib.hid hs5
    replace hn5 := Lib.hid hn5
    clear k5 htA hrA hsA hnm hT5 htk9 hmk9 hr9 hs9 hM1 hTw
    have hM0 := hM
    rename_i KS hKS KT hKT
    have hsw : Hid (∀ (x13 x14 x15 x16 x17 x18 x19 x20 x21 x22 x23 x24 x25 x26 x27 x28 x29 x30 x31 x32 x33 x34 x35 x36 x37 : Value), KS { tmps := #[.pointer (some ⟨bm, 0, none⟩), .int .i64 d, undef, undef, .pointer (some ⟨w.heap.size, 0, none⟩), .int .i64 K, .pointer (some ⟨w1.heap.size, 0, none⟩), .string nm, undef, .pointer (some ⟨bm, 0, none⟩), .int .i64 z, .int .i64 (z % 13), .int .i64 K0, x13, x14, x15, x16, x17, x18, x19, x20, x21, x22, x23, x24, x25, x26, x27, x28, x29, x30, x31, x32, x33, x34, x35, x36, x37, undef, undef, undef, undef, undef, undef, undef, undef, undef, undef, undef, undef, undef, undef, undef, undef, undef, undef, undef, undef, undef, undef, undef, undef, undef, undef, undef, undef, undef, undef, undef, undef, undef, undef, undef, undef, undef, undef, undef, undef, undef, undef, undef, undef], defers := [] } w5) := by
      intro x13 x14 x15 x16 x17 x18 x19 x20 x21 x22 x23 x24 x25 x26 x27 x28 x29 x30 x31 x32 x33 x34 x35 x36 x37
      refine hKS _ _ ?_
      clear hKS hKT KT
      apply wp_seq_k
      intro KC hKC
      have hL : Hid (∀ (W : World) (nm9 : ByteArray) (num : Int) (a6 : Nat) (x13 x14 x15 x16 x17 x18 x19 x20 x21 x22 x23 x24 x25 x26 x27 x28 x29 x30 x31 x32 x33 x34 x35 x36 x37 x38 x39 x40 x41 x42 x43 x44 x45 x46 x47 x48 x49 x50 x51 x52 x53 x54 x55 x56 x57 x58 x59 x60 x61 x62 x63 : Value), W.heap[w1.heap.size]? = some (.cells #[.int .i64 K, .string nm9, .int .i64 num, .slice none 0 0] 26 (0, 0)) → W.heap[w.heap.size]? = some (.cells #[.int .i64 0, .string ⟨#[]⟩, .int .i64 0, .slice none 0 0] 26 (0, 0)) → Tk bm w W → Mk W bm A n c a6 zs → a5 ≤ a6 → fieldsB (.node K nm9 num []) = true → nm9.size ≤ 9223372036854775807 → KC { tmps := #[.pointer (some ⟨bm, 0, none⟩), .int .i64 d, undef, undef, .pointer (some ⟨w.heap.size, 0, none⟩), .int .i64 K, .pointer (some ⟨w1.heap.size, 0, none⟩), .string nm, undef, .pointer (some ⟨bm, 0, none⟩), .int .i64 z, .int .i64 (z % 13), .int .i64 K0, x13, x14, x15, x16, x17, x18, x19, x20, x21, x22, x23, x24, x25, x26, x27, x28, x29, x30, x31, x32, x33, x34, x35, x36, x37, x38, x39, x40, x41, x42, x43, x44, x45, x46, x47, x48, x49, x50, x51, x52, x53, x54, x55, x56, x57, x58, x59, x60, x61, x62, x63, undef, undef, undef, undef, undef, undef, undef, undef, undef, undef, undef, undef, undef, undef, undef, undef, undef, undef], defers := [] } W) := by
        intro W nm9 num a6 x13 x14 x15 x16 x17 x18 x19 x20 x21 x22 x23 x24 x25 x26 x27 x28 x29 x30 x31 x32 x33 x34 x35 x36 x37 x38 x39 x40 x41 x42 x43 x44 x45 x46 x47 x48 x49 x50 x51 x52 x53 x54 x55 x56 x57 x58 x59 x60 x61 x62 x63 hbx hrx htk hmk h56 hfl hns
        refine hKC _ _ ?_
        clear hKC hnc
        have hMM := Lib.hid hM0.out
        have hR0 : Hid (RT w W bm w1.heap.size K num nm9 (.slice none 0 0) []) := ⟨htk, World.ownsRow_nil _ _ _ _, fun _ hx => (by cases hx), hbx, by omega, hbm⟩
        have hK1 := hgo.out.1
        have hK2 := hgo.out.2.1
        obtain ⟨L, hL⟩ : ∃ L, kidsTab.getD K 0 = L := ⟨_, rfl⟩
        have hL3 : L ≤ 3 := by
          rw [← hL]
          have h : ∀ j : Fin 14, kidsTab.getD j.val 0 ≤ 3 := by decide
          exact h ⟨K, by omega⟩
        have hg3 := hgo.out.2.2
        rw [hL] at hg3
        replace hg3 := Lib.hid hg3
        replace hL := Lib.hid hL
        replace hbx := Lib.hid hbx
        replace hrx := Lib.hid hrx
        replace htk := Lib.hid htk
        replace hmk := Lib.hid hmk
        replace hfl := Lib.hid hfl
        replace hns := Lib.hid hns
        have hcell : ∀ V : World, (V.alloc (.cells #[.int .i64 0, .int .i64 0, .int .i64 0, .int .i64 1, .int .i64 2, .int .i64 2, .int .i64 3, .int .i64 2, .int .i64 1, .int .i64 2, .int .i64 1, .int .i64 2, .int .i64 2, .int .i64 2] 3)).cell? ⟨V.heap.size, K, none⟩ = some (.int .i64 L) := fun V => by
          rw [cell_of_row _ _ K _ _ _ (World.alloc_heap_new V (.cells #[.int .i64 0, .int .i64 0, .int .i64 0, .int .i64 1, .int .i64 2, .int .i64 2, .int .i64 3, .int .i64 2, .int .i64 1, .int .i64 2, .int .i64 1, .int .i64 2, .int .i64 2, .int .i64 2] 3)), ← hL.out]
          have h : ∀ j : Fin 14, (#[.int .i64 0, .int .i64 0, .int .i64 0, .int .i64 1, .int .i64 2, .int .i64 2, .int .i64 3, .int .i64 2, .int .i64 1, .int .i64 2, .int .i64 1, .int .i64 2, .int .i64 2, .int .i64 2] : Array Value)[j.val]? = some (.int .i64 (kidsTab.getD j.val 0 : Nat)) := by
            intro j
            match j with
            | 0 | 1 | 2 | 3 | 4 | 5 | 6 | 7 | 8 | 9 | 10 | 11 | 12 | 13 => rfl
          exact h ⟨K, by omega⟩
        replace hcell := Lib.hid hcell
        obtain ⟨i0, hi, hi2⟩ := Option.map_eq_some_iff.1 info_term
        obtain ⟨hz0, hz1, hz2⟩ : i0.zero = some (.agg #[.int .i64 0, .string ⟨#[]⟩, .int .i64 0, .slice none 0 0]) ∧ i0.size = 4 ∧ i0.bytes = 56 := by
          injection hi2 with h1 h2; injection h2 with h2 h3; exact ⟨h1, h2, h3⟩
        replace hi := Lib.hid hi
        replace hz0 := Lib.hid hz0
        replace hz1 := Lib.hid hz1
        replace hz2 := Lib.hid hz2
        clear hi2
        go_wp2_with fail
        go_loopw [8] (fun i wr => ∃ (k a : Nat) (v : Value) (xs : List (Go.Tm.T × Option Addr × Nat)), k ≤ L ∧ i = .int .i64 k ∧ Hid (xs.length = k) ∧ Hid (RT w wr bm w1.heap.size K num nm9 v xs) ∧ Hid (Mk wr bm A n c a zs) ∧ Hid (∀ x ∈ xs, Rt x.1 ∧ x.1.depth ≤ d) ∧ Hid (sizes (xs.map (·.1)) + 3 * a6 ≤ k + 3 * a) ∧ Hid (a6 ≤ a) ∧ Hid (wr.heap[w.heap.size]? = some (.cells #[.int .i64 0, .string ⟨#[]⟩, .int .i64 0, .slice none 0 0] 26 (0, 0)))) (fun i _ => L - (intOf i).toNat)
        case atStart => exact ⟨0, a6, _, [], Nat.zero_le _, rfl, rfl, hR0.out, hmk.out, fun _ hx => (by cases hx), by show sizes [] + _ ≤ _; rw [sizes]; omega, Nat.le_refl _, hrx.out⟩
        case round =>
          clear hR0 hbx hrx htk hmk
          obtain ⟨k, a, v, xs, hk, rfl, hxl, hRR, hM, hall, hfew, hle, hrr⟩ := hrel
          have hbw : Hid (Tk bm wr (wr.alloc (.cells #[.int .i64 0, .int .i64 0, .int .i64 0, .int .i64 1, .int .i64 2, .int .i64 2, .int .i64 3, .int .i64 2, .int .i64 1, .int .i64 2, .int .i64 1, .int .i64 2, .int .i64 2, .int .i64 2] 3))) := Tk.of_below (later_alloc _ _)
          have hcl := hcell.out wr
          have hlw : Hid (wr.heap.size < (wr.alloc (.cells #[.int .i64 0, .int .i64 0, .int .i64 0, .int .i64 1, .int .i64 2, .int .i64 2, .int .i64 3, .int .i64 2, .int .i64 1, .int .i64 2, .int .i64 1, .int .i64 2, .int .i64 2, .int .i64 2] 3)).heap.size) := by show _ < _; simp
          have hRV : Hid (RT w (wr.alloc (.cells #[.int .i64 0, .int .i64 0, .int .i64 0, .int .i64 1, .int .i64 2, .int .i64 2, .int .i64 3, .int .i64 2, .int .i64 1, .int .i64 2, .int .i64 1, .int .i64 2, .int .i64 2, .int .i64 2] 3)) bm w1.heap.size K num nm9 v xs) := hRR.out.later hbw.out
          have hMV : Hid (Mk (wr.alloc (.cells #[.int .i64 0, .int .i64 0, .int .i64 0, .int .i64 1, .int .i64 2, .int .i64 2, .int .i64 3, .int .i64 2, .int .i64 1, .int .i64 2, .int .i64 1, .int .i64 2, .int .i64 2, .int .i64 2] 3)) bm A n c a zs) := hM.out.later (later_alloc _ _)
          have hrV : Hid ((wr.alloc (.cells #[.int .i64 0, .int .i64 0, .int .i64 0, .int .i64 1, .int .i64 2, .int .i64 2, .int .i64 3, .int .i64 2, .int .i64 1, .int .i64 2, .int .i64 1, .int .i64 2, .int .i64 2, .int .i64 2] 3)).heap[w.heap.size]? = some (.cells #[.int .i64 0, .string ⟨#[]⟩, .int .i64 0, .slice none 0 0] 26 (0, 0))) := (Below.heap_alloc _ _ _ (World.lt_of_get hrr.out)).trans hrr.out
          clear hRR hM hrr hbw
          by_cases hlt : k < L
          · obtain ⟨d', hd', IHd, hat⟩ := hg3.out.resolve_left (by omega)
            have hdw : IntKind.i64.wrap ((d : Int) - 1) = (d' : Int) := by rw [show ((d : Int) - 1) = (d' : Int) by omega]; exact wrap_small _ (by omega) (by omega)
            go_wp2_with fail
            obtain ⟨V, hV⟩ : ∃ V, wr.alloc (.cells #[.int .i64 0, .int .i64 0, .int .i64 0, .int .i64 1, .int .i64 2, .int .i64 2, .int .i64 3, .int .i64 2, .int .i64 1, .int .i64 2, .int .i64 1, .int .i64 2, .int .i64 2, .int .i64 2] 3) = V := ⟨_, rfl⟩
            rw [hV] at hRV hMV hrV ⊢
            clear hcl hV hlw
            have q3 := cell_of_row V w1.heap.size 3 _ _ _ hRV.out.box
            have hl3 := World.lt_of_get hRV.out.box
            have kk := Lib.hid (IHd bm A n c a zs V.drew (hMV.out.later (Below.refl _ V).drew))
            unfold tmV at kk
            clear IHd
            have hd'' := Lib.hid hd'
            clear hd'
            go_region_law (first
              | (refine step_append_at rfl (.tmp 73) (.tmp 78) 24 rfl (w1.heap.size + 1) 26 i0 (.agg #[.int .i64 0, .string ⟨#[]⟩, .int .i64 0, .slice none 0 0]) 4 56 Tryz.underlying24 hi.out hz0.out hz1.out hz2.out rfl (by decide) _ _ _ (by simp [Act.eval]) hR10.out.own ⟨w9.heap.size, 0, none⟩ 1 1 (tmC (t9, A9, c9)) (by simp [Act.eval]) rfl (row_cells (x := (t9, A9, c9)) (World.alloc_heap_new w9 _)) (row_one _) (by unfold maxLen; rw [hxl.out]; omega) (by rw [hxl.out]; omega) (World.lt_of_get hR10.out.box) ?_
                 intro v'' w10 hown hgrow hatt
                 obtain ⟨A8, n8, c8, rfl⟩ := own_slice hown
                 have hb10 := hR10.out.boxed hgrow
                 have z3 := cell_of_row w10 w1.heap.size 3 _ _ _ hb10
                 have zf3 := frozen_of_row hb10 3
                 have hl10 := World.lt_of_get hb10
                 have hput := Lib.hid (hR10.out.put (x := (t9, A9, c9)) hK9.out hgrow hown hatt)
                 have hmb : Hid ((w10.setCell ⟨w1.heap.size, 3, none⟩ (.slice A8 n8 c8)).heap[bm]? = some (.cells #[.slice A n c, .int .i64 a9] 81 (0, 0))) := by
                   show _ = _
                   rw [Below.heap_setCell _ _ _ _ (by show bm ≠ w1.heap.size; omega), hgrow.block bm (World.lt_of_get hM10.out.box) (fun e => by have := (hR10.out.own_at e.symm).1; omega)]
                   exact hM10.out.box
                 have hrb : Hid ((w10.setCell ⟨w1.heap.size, 3, none⟩ (.slice A8 n8 c8)).heap[w.heap.size]? = some (.cells #[.int .i64 0, .string ⟨#[]⟩, .int .i64 0, .slice none 0 0] 26 (0, 0))) := by
                   show _ = _
                   rw [Below.heap_setCell _ _ _ _ (by show w.heap.size ≠ w1.heap.size; omega), hgrow.block w.heap.size (World.lt_of_get hr10.out) (fun e => by have := (hR10.out.own_at e.symm).1; omega)]
                   exact hr10.out
                 clear hown hgrow hb10 hatt)
              | (go_simp; go_at_call 38; refine kk.out.mono ?_; rintro e9 w9 ⟨t9, A9, c9, a9, rfl, hmd⟩
                 have hT9 : Tk bm V w9 := (Tk.of_below (Below.refl _ V).drew).trans hmd.tk
                 have hR9 := Lib.hid (hRV.out.later hT9)
                 have hR10 := Lib.hid (hR9.out.later (Tk.of_below (later_alloc w9 (.cells #[.int .i64 t9.kind, .string t9.name, .int .i64 t9.num, .slice A9 t9.kids.length c9] 26))))
                 have hM10 := Lib.hid (hmd.maker.later (later_alloc w9 (.cells #[.int .i64 t9.kind, .string t9.name, .int .i64 t9.num, .slice A9 t9.kids.length c9] 26)))
                 have hr10 : Hid ((w9.alloc (.cells #[.int .i64 t9.kind, .string t9.name, .int .i64 t9.num, .slice A9 t9.kids.length c9] 26)).heap[w.heap.size]? = some (.cells #[.int .i64 0, .string ⟨#[]⟩, .int .i64 0, .slice none 0 0] 26 (0, 0))) := (Below.heap_alloc _ _ _ (Nat.lt_of_lt_of_le (World.lt_of_get hrV.out) hT9.size)).trans ((hT9.block w.heap.size (World.lt_of_get hrV.out) (by omega)).trans hrV.out)
                 have z0 := cell_of_row w9 w1.heap.size 3 _ _ _ hR9.out.box
                 have hl9 := World.lt_of_get hR9.out.box
                 have hK9 : Hid (TmV (w9.alloc (.cells #[.int .i64 t9.kind, .string t9.name, .int .i64 t9.num, .slice A9 t9.kids.length c9] 26)) (KidB (w9.alloc (.cells #[.int .i64 t9.kind, .string t9.name, .int .i64 t9.num, .slice A9 t9.kids.length c9] 26)) w1.heap.size v) t9 A9 c9) :=
                   hmd.tm.kept (fun g hg => ⟨Nat.lt_of_lt_of_le hl3 hg.1, by simp; exact Nat.lt_succ_of_lt hg.2, Nat.ne_of_gt (Nat.lt_of_lt_of_le hl3 hg.1), fun e => by
                     have h8 := (hRV.out.own_at e).2
                     exact absurd (Nat.lt_of_lt_of_le h8 hg.1) (Nat.lt_irrefl _)⟩) (fun g hg => (later_alloc w9 _).block g hg.2)
                 have hm1 := Lib.hid (And.intro hmd.rt (And.intro hmd.few (And.intro hmd.deep (And.intro hmd.le hmd.maker.le))))
                 clear hmd hT9))
            all_goals go_wp2_with fail
            all_goals go_roundw
            all_goals first
              | exact ⟨k + 1, a9, _, xs ++ [(t9, A9, c9)], by omega, by go_num, (by show _ = _; rw [List.length_append, hxl.out]; rfl), hput.out, Mk.of_tk hMM.out hput.out.tk hmb.out hm1.out.2.2.2.2, (fun x hx => by
                  rcases List.mem_append.1 hx with hx | hx
                  · exact hall.out x hx
                  · obtain rfl := List.mem_singleton.1 hx
                    exact ⟨hm1.out.1, by have := hm1.out.2.2.1; have := hd''.out; show t9.depth ≤ d; omega⟩), (by
                  show _ ≤ _
                  rw [List.map_append, sizes_app]
                  have h1 := hm1.out.2.1
                  have h2 := hfew.out
                  show sizes (xs.map (·.1)) + sizes [t9] + _ ≤ _
                  rw [sizes, sizes]
                  omega), (by have := hm1.out.2.2.2.1; have := hle.out; show a6 ≤ a9; omega), hrb.out⟩
              | (simp [intOf]; omega)
          · obtain rfl : k = L := by omega
            obtain ⟨A9, c9, rfl, hF⟩ := hRV.out.last hns.out
            have hxm : (xs.map (·.1)).length = k := by rw [List.length_map]; exact hxl.out
            rw [hxm] at hRV
            have hbx := hRV.out.box
            have e0 := cell_of_row (wr.alloc (.cells #[.int .i64 0, .int .i64 0, .int .i64 0, .int .i64 1, .int .i64 2, .int .i64 2, .int .i64 3, .int .i64 2, .int .i64 1, .int .i64 2, .int .i64 1, .int .i64 2, .int .i64 2, .int .i64 2] 3)) w1.heap.size 0 _ _ _ hbx
            have e1 := cell_of_row (wr.alloc (.cells #[.int .i64 0, .int .i64 0, .int .i64 0, .int .i64 1, .int .i64 2, .int .i64 2, .int .i64 3, .int .i64 2, .int .i64 1, .int .i64 2, .int .i64 1, .int .i64 2, .int .i64 2, .int .i64 2] 3)) w1.heap.size 1 _ _ _ hbx
            have e2 := cell_of_row (wr.alloc (.cells #[.int .i64 0, .int .i64 0, .int .i64 0, .int .i64 1, .int .i64 2, .int .i64 2, .int .i64 3, .int .i64 2, .int .i64 1, .int .i64 2, .int .i64 1, .int .i64 2, .int .i64 2, .int .i64 2] 3)) w1.heap.size 2 _ _ _ hbx
            have e3 := cell_of_row (wr.alloc (.cells #[.int .i64 0, .int .i64 0, .int .i64 0, .int .i64 1, .int .i64 2, .int .i64 2, .int .i64 3, .int .i64 2, .int .i64 1, .int .i64 2, .int .i64 1, .int .i64 2, .int .i64 2, .int .i64 2] 3)) w1.heap.size 3 _ _ _ hbx
            have f0 := frozen_of_row hrV.out 0
            have f1 := frozen_of_row hrV.out 1
            have f2 := frozen_of_row hrV.out 2
            have f3 := frozen_of_row hrV.out 3
            have g0 := cell_of_row (wr.alloc (.cells #[.int .i64 0, .int .i64 0, .int .i64 0, .int .i64 1, .int .i64 2, .int .i64 2, .int .i64 3, .int .i64 2, .int .i64 1, .int .i64 2, .int .i64 1, .int .i64 2, .int .i64 2, .int .i64 2] 3)) w.heap.size 0 _ _ _ hrV.out
            have g1 := cell_of_row (wr.alloc (.cells #[.int .i64 0, .int .i64 0, .int .i64 0, .int .i64 1, .int .i64 2, .int .i64 2, .int .i64 3, .int .i64 2, .int .i64 1, .int .i64 2, .int .i64 1, .int .i64 2, .int .i64 2, .int .i64 2] 3)) w.heap.size 1 _ _ _ hrV.out
            have g2 := cell_of_row (wr.alloc (.cells #[.int .i64 0, .int .i64 0, .int .i64 0, .int .i64 1, .int .i64 2, .int .i64 2, .int .i64 3, .int .i64 2, .int .i64 1, .int .i64 2, .int .i64 1, .int .i64 2, .int .i64 2, .int .i64 2] 3)) w.heap.size 2 _ _ _ hrV.out
            have g3 := cell_of_row (wr.alloc (.cells #[.int .i64 0, .int .i64 0, .int .i64 0, .int .i64 1, .int .i64 2, .int .i64 2, .int .i64 3, .int .i64 2, .int .i64 1, .int .i64 2, .int .i64 1, .int .i64 2, .int .i64 2, .int .i64 2] 3)) w.heap.size 3 _ _ _ hrV.out
            have s9 := set4_same (v0 := .int .i64 K) (v1 := .string nm9) (v2 := .int .i64 num) (v3 := .slice A9 k c9) hrV.out
            have s0 := cell_of_row _ w.heap.size 0 _ _ _ s9
            have s1 := cell_of_row _ w.heap.size 1 _ _ _ s9
            have s2 := cell_of_row _ w.heap.size 2 _ _ _ s9
            have s3 := cell_of_row _ w.heap.size 3 _ _ _ s9
            unfold set4 at s0 s1 s2 s3
            have hlr := World.lt_of_get hrV.out
            have hlb := World.lt_of_get hbx
            replace s9 := Lib.hid s9
            replace hbx := Lib.hid hbx
            have hend : Hid (Made d w (set4 (wr.alloc (.cells #[.int .i64 0, .int .i64 0, .int .i64 0, .int .i64 1, .int .i64 2, .int .i64 2, .int .i64 3, .int .i64 2, .int .i64 1, .int .i64 2, .int .i64 1, .int .i64 2, .int .i64 2, .int .i64 2] 3)) w.heap.size (.int .i64 K) (.string nm9) (.int .i64 num) (.slice A9 k c9)) bm A n c at_ a zs (.node K nm9 num (xs.map (·.1))) A9 c9) := by
              have hset : Tk bm (wr.alloc (.cells #[.int .i64 0, .int .i64 0, .int .i64 0, .int .i64 1, .int .i64 2, .int .i64 2, .int .i64 3, .int .i64 2, .int .i64 1, .int .i64 2, .int .i64 1, .int .i64 2, .int .i64 2, .int .i64 2] 3)) (set4 (wr.alloc (.cells #[.int .i64 0, .int .i64 0, .int .i64 0, .int .i64 1, .int .i64 2, .int .i64 2, .int .i64 3, .int .i64 2, .int .i64 1, .int .i64 2, .int .i64 1, .int .i64 2, .int .i64 2, .int .i64 2] 3)) w.heap.size (.int .i64 K) (.string nm9) (.int .i64 num) (.slice A9 k c9)) → True := fun _ => trivial
              have htk' : Tk bm w (set4 (wr.alloc (.cells #[.int .i64 0, .int .i64 0, .int .i64 0, .int .i64 1, .int .i64 2, .int .i64 2, .int .i64 3, .int .i64 2, .int .i64 1, .int .i64 2, .int .i64 1, .int .i64 2, .int .i64 2, .int .i64 2] 3)) w.heap.size (.int .i64 K) (.string nm9) (.int .i64 num) (.slice A9 k c9)) := by
                have h1 := hRV.out.tk
                exact ⟨h1.os, h1.tape, h1.output, by rw [set4_size]; exact h1.size, fun g hg hn => by rw [set4_other (by omega)]; exact h1.block g hg hn⟩
              have hru : ∀ u ∈ xs.map (·.1), Rt u ∧ u.depth ≤ d := fun u hu => by
                obtain ⟨x, hx, rfl⟩ := List.mem_map.1 hu
                exact hall.out x hx
              have hdp := depths_le (ks := xs.map (·.1)) (d := d) (fun u hu => (hru u hu).2)
              refine ⟨rt_mk hK1 hK2 (by rw [hxm, hL.out]) hfl.out (fun u hu => (hru u hu).1), ?_, ?_, ?_, ?_, htk', ?_⟩
              · rw [T.size]
                have h2 := hfew.out
                have h3 := hle.out
                rcases hg3.out with h4 | ⟨_, _, _, h4⟩
                · subst h4
                  have h5 : xs.map (·.1) = [] := List.eq_nil_of_length_eq_zero hxm
                  rw [h5, sizes]
                  omega
                · omega
              · rw [T.depth]; omega
              · have h3 := hle.out
                omega
              · exact Mk.of_tk hMM.out htk' (by rw [set4_other (by omega)]; exact hMV.out.box) hMV.out.le
              · exact hF.kept (fun g hg => ⟨by omega, by rw [set4_size]; exact hg.2⟩) (fun g hg => set4_other (by omega))
            replace hxm := Lib.hid hxm
            clear hRV hMV hrV hF hall hfew hlt hk
            unfold set4 at hend
            have hres : Tryz.f38.results = #[.cell 4 26] := by kernel_rfl
            replace hres := Lib.hid hres
            go_wp2_with fail
            refine bodyPost_ret (v := .agg #[.int .i64 K, .string nm9, .int .i64 num, .slice A9 k c9]) ?_ rfl ⟨_, A9, c9, a, ?_, hend.out⟩
            · simp only [results, hres.out]
              go_simp
            · show Ending.returned (.agg #[.int .i64 K, .string nm9, .int .i64 num, .slice A9 k c9]) = Ending.returned (.agg #[.int .i64 K, .string nm9, .int .i64 num, .slice A9 (xs.map (·.1)).length c9])
              rw [hxm.out]
      clear hKC
      have hK1 := hgo.out.1
      have hK2 := hgo.out.2.1
      have s0 := cell_of_row w5 w1.heap.size 0 _ _ _ hs5.out
      have s1 := cell_of_row w5 w1.heap.size 1 _ _ _ hs5.out
      have s2 := cell_of_row w5 w1.heap.size 2 _ _ _ hs5.out
      have s3 := cell_of_row w5 w1.heap.size 3 _ _ _ hs5.out
      have t0 := frozen_of_row hs5.out 0
      have t1 := frozen_of_row hs5.out 1
      have hlb := World.lt_of_get hs5.out
      have hlr := World.lt_of_get hr5.out
      have hKs : K = 1 ∨ K = 12 ∨ K = 2 ∨ (K ≠ 1 ∧ K ≠ 12 ∧ K ≠ 2 ∧ binderB K = true) ∨ (K ≠ 1 ∧ K ≠ 12 ∧ K ≠ 2 ∧ binderB K = false) := by
        cases h : binderB (K : Int) <;> simp only [and_true, and_false, false_or, or_false, Bool.true_eq_false, Bool.false_eq_true] <;> omega
      have hnum : ∀ x : Int, 0 ≤ x → x ≤ 2147483647 → fieldsB (.node 1 ⟨#[]⟩ x []) = true := fun x h1 h2 => by
        show (if (1 : Int) = 1 then ((⟨#[]⟩ : ByteArray).size == 0) && decide (0 ≤ x) && decide (x ≤ 2147483647) else _) = true
        rw [if_pos rfl, decide_eq_true h1, decide_eq_true h2]; rfl
      have hwrd : wordK K = true → K ≠ 1 → fieldsB (.node K nm 0 []) = true := fun h1 h2 => by
        obtain ⟨h3, h4⟩ := wordB_iff.1 hnmW.out
        show (if (K : Int) = 1 then _ else if wordK K = true then ((0 : Int) == 0) && nameB nm && !isKey nm.data.toList else _) = true
        rw [if_neg (by omega), if_pos h1, h3, h4]; rfl
      replace hnum := Lib.hid hnum
      replace hwrd := Lib.hid hwrd
      have hnms : nm.size ≤ 9223372036854775807 := by
        have h : ∀ j : Fin 5, (nameAt.getD j.val ⟨#[]⟩).size ≤ 9223372036854775807 := by decide
        rw [← hnm2.out]
        exact h ⟨(z5 % 5).toNat, by omega⟩
      replace hnms := Lib.hid hnms
      have hset : Hid (∀ (W : World) (i : Nat) (v : Value) (a : Nat), Tk bm w W → Mk W bm A n c a zs → W.heap[w.heap.size]? = some (.cells #[.int .i64 0, .string ⟨#[]⟩, .int .i64 0, .slice none 0 0] 26 (0, 0)) → Tk bm w (W.setCell ⟨w1.heap.size, i, none⟩ v) ∧ Mk (W.setCell ⟨w1.heap.size, i, none⟩ v) bm A n c a zs ∧ (W.setCell ⟨w1.heap.size, i, none⟩ v).heap[w.heap.size]? = some (.cells #[.int .i64 0, .string ⟨#[]⟩, .int .i64 0, .slice none 0 0] 26 (0, 0))) := fun W i v a h1 h2 h3 => by
        have h4 : Tk bm w (W.setCell ⟨w1.heap.size, i, none⟩ v) := ⟨h1.os, h1.tape, h1.output, by simp; exact h1.size, fun g hg hn => (Below.heap_setCell _ _ _ _ (by show g ≠ w1.heap.size; omega)).trans (h1.block g hg hn)⟩
        exact ⟨h4, Mk.of_tk hM0.out h4 ((Below.heap_setCell _ _ _ _ (by show bm ≠ w1.heap.size; omega)).trans h2.box) h2.le, (Below.heap_setCell _ _ _ _ (by show w.heap.size ≠ w1.heap.size; omega)).trans h3⟩
      replace hgo := hgo
      clear hnc
      rcases hKs with hk | hk | hk | ⟨hk1, hk2, hk3, hkb⟩ | ⟨hk1, hk2, hk3, hkb⟩
      case' inl =>
        have b1 : ((K : Int) == 1) = true := by rw [hk]; rfl
        replace hk := Lib.hid hk
        have k6 := Lib.hid (byte_any bm A n c a5 zs w5 hM5.out)
        go_wp2_with fail
        refine k6.out.mono ?_
        rintro e w6 ⟨z6, a6, rfl, z60, z61, h61, h62, hM6, hT6⟩
        clear h62 s0 s1 s2 s3 t0 t1 k6
        have hr6 := (hT6.block w.heap.size hlr (by omega)).trans hr5.out
        have hs6 := (hT6.block w1.heap.size hlb (by omega)).trans hs5.out
        have t2 := frozen_of_row hs6 2
        have s2 := cell_of_row w6 w1.heap.size 2 _ _ _ hs6
        have hlb6 := World.lt_of_get hs6
        have hzw : IntKind.i64.wrap (z6 * 8421504) = z6 * 8421504 := wrap_small _ (by omega) (by omega)
        have hfin := Lib.hid (hset.out w6 2 (.int .i64 (z6 * 8421504)) a6 (ht5.out.trans hT6) hM6 hr6)
        have hbx := Lib.hid (heap_setCell_same w6 w1.heap.size 2 _ _ (.int .i64 (z6 * 8421504)) hs6)
        replace hr6 := Lib.hid hr6
        replace hs6 := Lib.hid hs6
        clear hM6 hT6
        go_wp2_with fail
        exact hL.out _ ⟨#[]⟩ (z6 * 8421504) a6 _ _ _ _ _ _ _ _ _ _ _ _ _ _ _ _ _ _ _ _ _ _ _ _ _ _ _ _ _ _ _ _ _ _ _ _ _ _ _ _ _ _ _ _ _ _ _ _ _ _ _ hbx.out hfin.out.2.2 hfin.out.1 hfin.out.2.1 h61 (by rw [hk.out]; exact hnum.out _ (by omega) (by omega)) (by decide)
      case' inr.inl =>
        have b1 : ((K : Int) == 1) = false := by rw [hk]; rfl
        have b2 : ((K : Int) == 12) = true := by rw [hk]; rfl
        replace hk := Lib.hid hk
        have hoA : (w5.alloc (.cells #[.string ⟨#[43]⟩, .string ⟨#[45]⟩, .string ⟨#[42]⟩, .string ⟨#[60]⟩, .string ⟨#[61]⟩] 9)).heap[w5.heap.size]? = some (.cells (opAt.map Value.string).toArray 9 (0, 0)) := World.alloc_heap_new _ _
        have k6 := Lib.hid (byte_any bm A n c a5 zs (w5.alloc (.cells #[.string ⟨#[43]⟩, .string ⟨#[45]⟩, .string ⟨#[42]⟩, .string ⟨#[60]⟩, .string ⟨#[61]⟩] 9)) (hM5.out.later (later_alloc _ _)))
        have htA := Lib.hid (ht5.out.trans (Tk.of_below (later_alloc w5 (.cells #[.string ⟨#[43]⟩, .string ⟨#[45]⟩, .string ⟨#[42]⟩, .string ⟨#[60]⟩, .string ⟨#[61]⟩] 9))))
        have hrA : Hid ((w5.alloc (.cells #[.string ⟨#[43]⟩, .string ⟨#[45]⟩, .string ⟨#[42]⟩, .string ⟨#[60]⟩, .string ⟨#[61]⟩] 9)).heap[w.heap.size]? = some (.cells #[.int .i64 0, .string ⟨#[]⟩, .int .i64 0, .slice none 0 0] 26 (0, 0))) := (Below.heap_alloc _ _ _ hlr).trans hr5.out
        have hsA : Hid ((w5.alloc (.cells #[.string ⟨#[43]⟩, .string ⟨#[45]⟩, .string ⟨#[42]⟩, .string ⟨#[60]⟩, .string ⟨#[61]⟩] 9)).heap[w1.heap.size]? = some (.cells #[.int .i64 K, .string ⟨#[]⟩, .int .i64 0, .slice none 0 0] 26 (0, 0))) := (Below.heap_alloc _ _ _ hlb).trans hs5.out
        have hAs : (w5.alloc (.cells #[.string ⟨#[43]⟩, .string ⟨#[45]⟩, .string ⟨#[42]⟩, .string ⟨#[60]⟩, .string ⟨#[61]⟩] 9)).heap.size = w5.heap.size + 1 := by simp
        replace hoA := Lib.hid hoA
        replace hAs := Lib.hid hAs
        go_wp2_with fail
        refine k6.out.mono ?_
        rintro e w6 ⟨z6, a6, rfl, z60, z61, h61, h62, hM6, hT6⟩
        clear h62 s0 s1 s2 s3 t0 t1 k6
        have hr6 := (hT6.block w.heap.size (by rw [hAs.out]; omega) (by omega)).trans hrA.out
        have hs6 := (hT6.block w1.heap.size (by rw [hAs.out]; omega) (by omega)).trans hsA.out
        have ho6 := (hT6.block w5.heap.size (by rw [hAs.out]; omega) (by have := World.lt_of_get hM5.out.box; omega)).trans hoA.out
        have hj60 : 0 ≤ z6 % 5 := by omega
        have hj61 : z6 % 5 < 5 := by omega
        have hoc := five_cell ho6 (z6 % 5).toNat (by show _ < 5; omega)
        have hlo6 := World.lt_of_get ho6
        obtain ⟨on, hon⟩ : ∃ s, opAt.getD (z6 % 5).toNat ⟨#[]⟩ = s := ⟨_, rfl⟩
        rw [hon] at hoc
        have hop : Hid (fieldsB (.node 12 on 0 []) = true ∧ on.size ≤ 9223372036854775807) := by
          show _ ∧ _
          rw [← hon]
          have h : ∀ j : Fin 5, fieldsB (.node 12 (opAt.getD j.val ⟨#[]⟩) 0 []) = true ∧ (opAt.getD j.val ⟨#[]⟩).size ≤ 9223372036854775807 := by decide
          exact h ⟨(z6 % 5).toNat, by omega⟩
        have t1 := frozen_of_row hs6 1
        have s1 := cell_of_row w6 w1.heap.size 1 _ _ _ hs6
        have hlb6 := World.lt_of_get hs6
        have hfin := Lib.hid (hset.out w6 1 (.string on) a6 (htA.out.trans hT6) hM6 hr6)
        have hbx := Lib.hid (heap_setCell_same w6 w1.heap.size 1 _ _ (.string on) hs6)
        replace hon := Lib.hid hon
        replace hr6 := Lib.hid hr6
        replace hs6 := Lib.hid hs6
        replace ho6 := Lib.hid ho6
        clear hM6 hT6
        go_wp2_with fail
        exact hL.out _ on 0 a6 _ _ _ _ _ _ _ _ _ _ _ _ _ _ _ _ _ _ _ _ _ _ _ _ _ _ _ _ _ _ _ _ _ _ _ _ _ _ _ _ _ _ _ _ _ _ _ _ _ _ _ hbx.out hfin.out.2.2 hfin.out.1 hfin.out.2.1 h61 (by rw [hk.out]; exact hop.out.1) hop.out.2
      case' inr.inr.inl =>
        have b1 : ((K : Int) == 1) = false := by rw [hk]; rfl
        have b2 : ((K : Int) == 12) = false := by rw [hk]; rfl
        have c2 : (K : Int) = 2 := by omega
        have b3 : ((K : Int) == 2) = true := by rw [hk]; rfl
        have c3 : decide ((K : Int) = 2) = true := decide_eq_true c2
        have hfin := Lib.hid (hset.out w5 1 (.string nm) a5 ht5.out hM5.out hr5.out)
        have hbx := Lib.hid (heap_setCell_same w5 w1.heap.size 1 _ _ (.string nm) hs5.out)
        have hfl := Lib.hid (hwrd.out (by rw [hk]; rfl) (by omega))
        replace hk := Lib.hid hk
        replace c2 := Lib.hid c2
        go_wp2_with fail
        exact hL.out _ nm 0 a5 _ _ _ _ _ _ _ _ _ _ _ _ _ _ _ _ _ _ _ _ _ _ _ _ _ _ _ _ _ _ _ _ _ _ _ _ _ _ _ _ _ _ _ _ _ _ _ _ _ _ _ hbx.out hfin.out.2.2 hfin.out.1 hfin.out.2.1 (Nat.le_refl _) hfl.out hnms.out
      case' inr.inr.inr.inl =>
        have b1 : ((K : Int) == 1) = false := by rw [beq_eq_false_iff_ne]; omega
        have b2 : ((K : Int) == 12) = false := by rw [beq_eq_false_iff_ne]; omega
        have c2 : ¬ (K : Int) = 2 := by omega
        have b3 : ((K : Int) == 2) = false := by rw [beq_eq_false_iff_ne]; omega
        have c3 : decide ((K : Int) = 2) = false := decide_eq_false c2
        have hfl := Lib.hid (hwrd.out (by unfold wordK; unfold binderB at hkb; rw [Bool.or_assoc, Bool.or_assoc, ← Bool.or_assoc ((K : Int) == 3), hkb]; simp) (by omega))
        have kb := binder_any K 0 ⟨#[]⟩ (.slice none 0 0) w5
        rw [hkb] at kb
        replace kb := Lib.hid kb
        replace hkb := Lib.hid hkb
        go_wp2_with fail
        refine kb.out.mono ?_
        rintro e w6 ⟨rfl, hb6⟩
        clear s0 s1 s2 s3 t0 t1 kb
        have hT6 : Tk bm w5 w6 := Tk.of_below hb6
        have hr6 := (hb6.block w.heap.size hlr).trans hr5.out
        have hs6 := (hb6.block w1.heap.size hlb).trans hs5.out
        have t1 := frozen_of_row hs6 1
        have s1 := cell_of_row w6 w1.heap.size 1 _ _ _ hs6
        have hlb6 := World.lt_of_get hs6
        have hfin := Lib.hid (hset.out w6 1 (.string nm) a5 (ht5.out.trans hT6) (hM5.out.later hb6) hr6)
        have hbx := Lib.hid (heap_setCell_same w6 w1.heap.size 1 _ _ (.string nm) hs6)
        replace hr6 := Lib.hid hr6
        replace hs6 := Lib.hid hs6
        clear hT6 hb6
        go_wp2_with fail
        exact hL.out _ nm 0 a5 _ _ _ _ _ _ _ _ _ _ _ _ _ _ _ _ _ _ _ _ _ _ _ _ _ _ _ _ _ _ _ _ _ _ _ _ _ _ _ _ _ _ _ _ _ _ _ _ _ _ _ hbx.out hfin.out.2.2 hfin.out.1 hfin.out.2.1 (Nat.le_refl _) hfl.out hnms.out
      case' inr.inr.inr.inr =>
        have b1 : ((K : Int) == 1) = false := by rw [beq_eq_false_iff_ne]; omega
        have b2 : ((K : Int) == 12) = false := by rw [beq_eq_false_iff_ne]; omega
        have c2 : ¬ (K : Int) = 2 := by omega
        have b3 : ((K : Int) == 2) = false := by rw [beq_eq_false_iff_ne]; omega
        have c3 : decide ((K : Int) = 2) = false := decide_eq_false c2
        have hfl : Hid (fieldsB (.node K ⟨#[]⟩ 0 []) = true) := by
          show _ = _
          have h : ∀ j : Fin 14, j.val ≠ 1 → j.val ≠ 12 → j.val ≠ 2 → binderB (j.val : Int) = false → fieldsB (.node (j.val : Int) ⟨#[]⟩ 0 []) = true := by decide
          exact h ⟨K, by omega⟩ hk1 hk2 hk3 hkb
        have kb := binder_any K 0 ⟨#[]⟩ (.slice none 0 0) w5
        rw [hkb] at kb
        replace kb := Lib.hid kb
        replace hkb := Lib.hid hkb
        go_wp2_with fail
        refine kb.out.mono ?_
        rintro e w6 ⟨rfl, hb6⟩
        clear s0 s1 s2 s3 t0 t1 kb
        have hr6 := Lib.hid ((hb6.block w.heap.size hlr).trans hr5.out)
        have hs6 := Lib.hid ((hb6.block w1.heap.size hlb).trans hs5.out)
        have hT6 := Lib.hid (ht5.out.trans (Tk.of_below hb6))
        have hM6 := Lib.hid (hM5.out.later hb6)
        clear hb6
        go_wp2_with fail
        exact hL.out _ ⟨#[]⟩ 0 a5 _ _ _ _ _ _ _ _ _ _ _ _ _ _ _ _ _ _ _ _ _ _ _ _ _ _ _ _ _ _ _ _ _ _ _ _ _ _ _ _ _ _ _ _ _ _ _ _ _ _ _ hs6.out hr6.out hT6.out hM6.out (Nat.le_refl _) hfl.out (by decide)
    clear hKS
    go_wp2_with fail
    exact hsw.out _ _ _ _ _ _ _ _ _ _ _ _ _ _ _ _ _ _ _ _ _ _ _ _ _
  rcases hcase with hd0 | ⟨hd0, hna⟩ | ⟨hd0, hna⟩
  case' inl =>
    obtain ⟨K, hK, hKa⟩ : ∃ K : Nat, 1 + (K0 : Int) % 2 = (K : Int) ∧ (K = 1 ∨ K = 2) := ⟨(1 + (K0 : Int) % 2).toNat, by omega, by omega⟩
    have hgo : Hid (1 ≤ K ∧ K ≤ 13 ∧ (kidsTab.getD K 0 = 0 ∨ ∃ d', d = d' + 1 ∧ TermStmt d' ∧ at_ < a1)) := ⟨by omega, by omega, .inl (by rcases hKa with rfl | rfl <;> rfl)⟩
    clear hKa
    have q1 : decide (d = 0) = true := decide_eq_true hd0
    replace hd0 := Lib.hid hd0
    clear hKA
    go_quiet (fail)
    go_wp2_with fail
  case' inr.inl =>
    obtain ⟨K, hK, hKa⟩ : ∃ K : Nat, 1 + (K0 : Int) % 2 = (K : Int) ∧ (K = 1 ∨ K = 2) := ⟨(1 + (K0 : Int) % 2).toNat, by omega, by omega⟩
    have hgo : Hid (1 ≤ K ∧ K ≤ 13 ∧ (kidsTab.getD K 0 = 0 ∨ ∃ d', d = d' + 1 ∧ TermStmt d' ∧ at_ < a1)) := ⟨by omega, by omega, .inl (by rcases hKa with rfl | rfl <;> rfl)⟩
    clear hKa
    have q1 : decide (d = 0) = false := decide_eq_false (by omega)
    have q2 : decide (n ≤ a1) = true := decide_eq_true hna
    clear hKA
    go_quiet (fail)
    go_wp2_with fail
  case' inr.inr =>
    obtain ⟨K, hK⟩ : ∃ K : Nat, K0 = K := ⟨_, rfl⟩
    have hgo : Hid (1 ≤ K ∧ K ≤ 13 ∧ (kidsTab.getD K 0 = 0 ∨ ∃ d', d = d' + 1 ∧ TermStmt d' ∧ at_ < a1)) := ⟨by omega, by omega, .inr (by
      rcases IH.out with h | ⟨d', e, h⟩
      · omega
      · refine ⟨d', e, h, ?_⟩
        by_cases g : at_ < n
        · rw [h2 g]; exact Nat.lt_succ_self _
        · omega)⟩
    have q1 : decide (d = 0) = false := decide_eq_false (by omega)
    have q2 : decide (n ≤ a1) = false := decide_eq_false (by omega)
    clear hKA
    rw [hK] at hA ⊢
    replace hK := Lib.hid hK
    go_quiet (fail)
    go_wp2_with fail
  all_goals exact hA.out _ K _ _ _ _ _ _ _ _ _ _ _ _ _ _ _ _ _ hgo.out
theorem mterm_any : ∀ (d : Nat), d ≤ 100 → TermStmt d := by
  intro d
  induction d with
  | zero => exact fun _ => term_step 0 (by omega) (.inl rfl)
  | succ k ih => exact fun h => term_step (k + 1) h (.inr ⟨k, rfl, ih (by omega)⟩)
end Go.Proofs.YtpdombmpmhnolaaGreatDoor
namespace Go.Proofs.YtpdombmpmhnolaaGreatDoor
open Go.RowKit Go.Shelf Go.Tm Go.Lx Go.Maps
attribute [local go_sem] Oper.semAt_some

/-- bytes behind a slice -/
def BtsS (w : World) (A : Option Addr) (zs : List Int) : Prop :=
  zs ≠ [] → ∃ b off, A = some ⟨b, off, none⟩ ∧ b < w.heap.size ∧ ∀ j, j < zs.length → w.cell? ⟨b, off + j, none⟩ = some (.int .u8 (zs.getD j 0))
theorem BtsS.later {w w' : World} {A : Option Addr} {zs : List Int} (h : BtsS w A zs) (hb : Below w.heap.size w w') : BtsS w' A zs := fun hn => by
  obtain ⟨b, off, hA, hlt, hc⟩ := h hn
  exact ⟨b, off, hA, Nat.lt_of_lt_of_le hlt hb.size, fun j hj => (hb.cell (p := ⟨b, off + j, none⟩) hlt).trans (hc j hj)⟩
theorem right_of {t : Go.Tm.T} (h : Rt t) (hs : t.size ≤ 10000) (hd : t.depth ≤ 200) : rightT t = true := by
  rw [right_iff, decide_eq_true hs, decide_eq_true hd, rt_nodes h]; rfl

set_option maxRecDepth 100000 in
set_option maxHeartbeats 2000000 in
theorem made_any (A : Option Addr) (zs : List Int) (c : Nat) (w : World) (hU : BtsS w A zs) (hz : ∀ z ∈ zs, 0 ≤ z ∧ z ≤ 255) (hl : zs.length ≤ 9223372036854775807) (hc : zs.length ≤ c) (hc2 : c ≤ 9223372036854775807) :
    Calls Tryz.prog 19 #[.slice A zs.length c] w fun e w' => ∃ t A' c', e = .returned (tmV t A' c') ∧ Rt t ∧ t.size ≤ 181 ∧ t.depth ≤ 7 ∧ Below w.heap.size w w' ∧ TmV w' (fun k => w.heap.size ≤ k ∧ k < w'.heap.size) t A' c' := by
  have hy1 : (min (zs.length : Int) 60).toNat = (zs.take 60).length := by rw [List.length_take]; omega
  obtain ⟨n, hn⟩ : ∃ n, (zs.take 60).length = n := ⟨_, rfl⟩
  have hn60 : n ≤ 60 := by rw [← hn, List.length_take]; omega
  have hrng : ∀ j, j < n → 0 ≤ (zs.take 60).getD j 0 ∧ (zs.take 60).getD j 0 ≤ 255 := fun j hj => by
    rw [List.getD_eq_getElem?_getD, List.getElem?_eq_getElem (by rw [hn]; exact hj)]
    exact hz _ (List.mem_of_mem_take (List.getElem_mem _))
  have hW1 : Below w.heap.size w (w.alloc (.cells #[.int .i64 0, .string ⟨#[]⟩, .int .i64 0, .slice none 0 0] 26)) := later_alloc _ _
  have hW2 := hW1.trans ((later_alloc (w.alloc (.cells #[.int .i64 0, .string ⟨#[]⟩, .int .i64 0, .slice none 0 0] 26)) (.cells #[.slice A n c, .int .i64 0] 81)).mono hW1.size)
  have hbx : ((w.alloc (.cells #[.int .i64 0, .string ⟨#[]⟩, .int .i64 0, .slice none 0 0] 26)).alloc (.cells #[.slice A n c, .int .i64 0] 81)).heap[w.heap.size + 1]? = some (.cells #[.slice A n c, .int .i64 0] 81 (0, 0)) := by
    have := World.alloc_heap_new (w.alloc (.cells #[.int .i64 0, .string ⟨#[]⟩, .int .i64 0, .slice none 0 0] 26)) (.cells #[.slice A n c, .int .i64 0] 81)
    rwa [World.size_alloc] at this
  have hrx : ((w.alloc (.cells #[.int .i64 0, .string ⟨#[]⟩, .int .i64 0, .slice none 0 0] 26)).alloc (.cells #[.slice A n c, .int .i64 0] 81)).heap[w.heap.size]? = some (.cells #[.int .i64 0, .string ⟨#[]⟩, .int .i64 0, .slice none 0 0] 26 (0, 0)) :=
    (Below.heap_alloc _ _ _ (by simp)).trans (World.alloc_heap_new w _)
  have hM : Mk ((w.alloc (.cells #[.int .i64 0, .string ⟨#[]⟩, .int .i64 0, .slice none 0 0] 26)).alloc (.cells #[.slice A n c, .int .i64 0] 81)) (w.heap.size + 1) A n c 0 (fun j => (zs.take 60).getD j 0) := by
    refine ⟨hbx, ?_, hrng, Nat.zero_le _, hn60⟩
    by_cases h0 : n = 0
    · exact .inl h0
    · right
      obtain ⟨b, off, hA, hlt, hcc⟩ := hU (by intro e; subst e; simp at hn; omega)
      refine ⟨b, off, hA, by omega, fun j hj => ?_⟩
      have hj2 : j < (zs.take 60).length := by rw [hn]; exact hj
      rw [List.length_take] at hj2
      have h1 := hcc j (by omega)
      rw [List.getD_eq_getElem?_getD] at h1 ⊢
      rw [List.getElem?_take_of_lt (by omega)]
      exact (hW2.cell (p := ⟨b, off + j, none⟩) hlt).trans h1
  have kt := mterm_any 6 (by decide) (w.heap.size + 1) A n c 0 _ _ hM
  obtain ⟨V, hV⟩ : ∃ V, (w.alloc (.cells #[.int .i64 0, .string ⟨#[]⟩, .int .i64 0, .slice none 0 0] 26)).alloc (.cells #[.slice A n c, .int .i64 0] 81) = V := ⟨_, rfl⟩
  rw [hV] at hW2 hrx kt
  have hVs : V.heap.size = w.heap.size + 2 := by rw [← hV]; simp
  have hnz : (zs.take 60).length ≤ c := by rw [List.length_take]; omega
  rw [hn] at hnz hy1
  unfold tmV at kt ⊢
  replace hV := Lib.hid hV
  replace hW2 := Lib.hid hW2
  replace hrx := Lib.hid hrx
  replace kt := Lib.hid kt
  replace hVs := Lib.hid hVs
  clear hM hbx hW1 hrng hU hz
  obtain ⟨N, hN⟩ : ∃ N, zs.length = N := ⟨_, rfl⟩
  rw [hN] at hy1 hl hc ⊢
  replace hN := Lib.hid hN
  replace hn := Lib.hid hn
  go_enter Tryz.func19, Tryz.ntmps19
  go_wp2_with fail
  rw [hV.out]
  refine kt.out.mono ?_
  rintro e w2 ⟨t, A', c', a', rfl, hmd⟩
  have hlV := World.lt_of_get hrx.out
  have hr2 := (hmd.tk.block w.heap.size hlV (by omega)).trans hrx.out
  have f0 := frozen_of_row hr2 0
  have f1 := frozen_of_row hr2 1
  have f2 := frozen_of_row hr2 2
  have f3 := frozen_of_row hr2 3
  have g0 := cell_of_row w2 w.heap.size 0 _ _ _ hr2
  have g1 := cell_of_row w2 w.heap.size 1 _ _ _ hr2
  have g2 := cell_of_row w2 w.heap.size 2 _ _ _ hr2
  have g3 := cell_of_row w2 w.heap.size 3 _ _ _ hr2
  have s9 := set4_same (v0 := .int .i64 t.kind) (v1 := .string t.name) (v2 := .int .i64 t.num) (v3 := .slice A' t.kids.length c') hr2
  have s0 := cell_of_row _ w.heap.size 0 _ _ _ s9
  have s1 := cell_of_row _ w.heap.size 1 _ _ _ s9
  have s2 := cell_of_row _ w.heap.size 2 _ _ _ s9
  have s3 := cell_of_row _ w.heap.size 3 _ _ _ s9
  unfold set4 at s0 s1 s2 s3
  have hlr := World.lt_of_get hr2
  replace s9 := Lib.hid s9
  have hend : Hid (Rt t ∧ t.size ≤ 181 ∧ t.depth ≤ 7 ∧ Below w.heap.size w (set4 w2 w.heap.size (.int .i64 t.kind) (.string t.name) (.int .i64 t.num) (.slice A' t.kids.length c')) ∧ TmV (set4 w2 w.heap.size (.int .i64 t.kind) (.string t.name) (.int .i64 t.num) (.slice A' t.kids.length c')) (fun k => w.heap.size ≤ k ∧ k < (set4 w2 w.heap.size (.int .i64 t.kind) (.string t.name) (.int .i64 t.num) (.slice A' t.kids.length c')).heap.size) t A' c') := by
    have h1 := hmd.few
    have h2 := hmd.maker.le
    have h3 := hVs.out
    have h4 : Below w.heap.size w w2 := hW2.out.trans ((hmd.tk.below (by omega)).mono (by omega))
    refine ⟨hmd.rt, by omega, hmd.deep, set4_below h4 (Nat.le_refl _), hmd.tm.kept (fun k hk => ⟨by omega, by rw [set4_size]; exact hk.2⟩) (fun k hk => set4_other (by omega))⟩
  unfold set4 at hend
  replace hr2 := Lib.hid hr2
  clear hmd kt
  have hres : Tryz.f19.results = #[.cell 2 26] := by kernel_rfl
  replace hres := Lib.hid hres
  go_wp2_with fail
  refine bodyPost_ret (v := .agg #[.int .i64 t.kind, .string t.name, .int .i64 t.num, .slice A' t.kids.length c']) ?_ rfl ⟨t, A', c', rfl, hend.out⟩
  simp only [results, hres.out]
  go_simp
end Go.Proofs.YtpdombmpmhnolaaGreatDoor
namespace Go
/-- ONE WALK OF THE TEXT's ORDER, where the worlds are those of a kind: reads, and calls whose answer is the same in each of them. -/
theorem wp_region_quiet_in {S : Type} (f : S → World) {P : Program} {id : Nat} {Q : Exit → Act → World → Prop} {a : Act} {w : World} {l : List Oper} (hm : P.follows .mixedOrders = true) (hB : Region.lexB .any l.toArray = true) (hC : ∃ s, w.drew = f s)
    (h : wpQuiet P l.toArray (fun w' => ∃ s, w' = f s) (fun a' => ∀ w', (∃ s, w' = f s) → Q .normal a' w') l a) : (Code.region id l.toArray true).wp P Q a w :=
  wp_region_quiet (C := fun w' => ∃ s, w' = f s) hm hB hC (by simpa using h)
end Go
namespace Go.Proofs.YtpdombmpmhnolaaGreatDoor.Eq
open Go.Tm
theorem alike_iff {a b : T} : alikeB a b = true ↔ a.kind = b.kind ∧ a.name = b.name ∧ a.num = b.num ∧ a.kids.length = b.kids.length := by
  unfold alikeB
  rw [Bool.and_eq_true, Bool.and_eq_true, Bool.and_eq_true, beq_iff_eq, bytes_eq, beq_iff_eq, beq_iff_eq]
  constructor
  · rintro ⟨h1, h2, h3, h4⟩; exact ⟨h1, h2, h3, by omega⟩
  · rintro ⟨h1, h2, h3, h4⟩; exact ⟨h1, h2, h3, by omega⟩
mutual
theorem eq_of : ∀ (a b : T), eqT a b = true → a = b
  | .node k s n ks, b, h => by
    rw [eqT, Bool.and_eq_true, alike_iff] at h
    obtain ⟨⟨h1, h2, h3, h4⟩, h5⟩ := h
    have h6 := eqs_of ks b.kids h4 h5
    rw [T.eta b, ← h1, ← h2, ← h3, ← h6]; rfl
theorem eqs_of : ∀ (ts us : List T), ts.length = us.length → eqTs ts us = true → ts = us
  | [], us, hl, _ => (List.eq_nil_of_length_eq_zero hl.symm).symm
  | t :: ts, [], hl, _ => by simp at hl
  | t :: ts, u :: us, hl, h => by
    rw [eqTs, Bool.and_eq_true] at h
    have h1 := eq_of t u h.1
    have h2 := eqs_of ts us (by simpa using hl) h.2
    rw [h1, h2]
end
mutual
theorem self_eq : ∀ (a : T), eqT a a = true
  | .node k s n ks => by
    rw [eqT, Bool.and_eq_true, alike_iff]
    exact ⟨⟨rfl, rfl, rfl, rfl⟩, selfs_eq ks⟩
theorem selfs_eq : ∀ (ts : List T), eqTs ts ts = true
  | [] => by rw [eqTs]
  | t :: ts => by
    rw [eqTs, Bool.and_eq_true]
    exact ⟨self_eq t, selfs_eq ts⟩
end
end Go.Proofs.YtpdombmpmhnolaaGreatDoor.Eq
