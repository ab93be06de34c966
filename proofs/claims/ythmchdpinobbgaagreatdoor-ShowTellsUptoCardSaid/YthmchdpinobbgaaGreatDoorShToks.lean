/-
  laid of whatever term is right; Toks, Show. Conditions: the term can be read, of at most 4194304 terms; the variables that are read lie as laid; what is shown fits.
-/
import Derived.Test.YthmchdpinobbgaaGreatDoorShLaidA
import Derived.Test.YthmchdpinobbgaaGreatDoorShLaidB
import Derived.Test.YthmchdpinobbgaaGreatDoorShLaidC
import Derived.Test.YthmchdpinobbgaaGreatDoorLxPrint
import Derived.Test.YthmchdpinobbgaaGreatDoorTmRight
namespace Go.Proofs.YthmchdpinobbgaaGreatDoor
open Go.RowKit Go.Shelf Go.Tm Go.Lx Go.Maps

theorem laid_any {t : Go.Tm.T} (h : Rt t) : LaidStmt t := by
  induction h with
  | num n h0 h1 => exact laid_1 n h0 h1
  | var s h => exact laid_2 s
  | fn s a h ha ia => exact laid_3 s a (layKid_any a ia)
  | app a b ha hb ia ib => exact laid_4 a b (layKid_any a ia) (layKid_any b ib)
  | lt s a b h ha hb ia ib => exact laid_5 s a b (layKid_any a ia) (layKid_any b ib)
  | cond a b c ha hb hc ia ib ic => exact laid_6 a b c (layKid_any a ia) (layKid_any b ib) (layKid_any c ic)
  | loop a b ha hb ia ib => exact laid_7 a b (layKid_any a ia) (layKid_any b ib)
  | raise a ha ia => exact laid_8 a (layKid_any a ia)
  | tri s a b h ha hb ia ib => exact laid_9 s a b (layKid_any a ia) (layKid_any b ib)
  | get a ha ia => exact laid_10 a (layKid_any a ia)
  | put a b ha hb ia ib => exact laid_11 a b (layKid_any a ia) (layKid_any b ib)
  | op s a b h ha hb ia ib => exact laid_12 s a b (layKid_any a ia) (layKid_any b ib)
  | sq a b ha hb ia ib => exact laid_13 a b (layKid_any a ia) (layKid_any b ib)

/-- THE VARIABLES THAT ARE READ: those of the terms, those of the words. -/
structure EnvS (w : World) : Prop where
  tm : Env w
  lx : X.Env w
  size : 8 ≤ w.heap.size
theorem EnvS.later {w w' : World} (h : EnvS w) (hb : Below w.heap.size w w') : EnvS w' := ⟨h.tm.later hb, h.lx.later hb, Nat.le_trans h.size hb.size⟩
theorem EnvS.t {w : World} (h : EnvS w) : EnvT w := ⟨h.lx.tab, h.size⟩
/-- what is shown of a term: nothing, if it is not right -/
def showT (t : Go.Tm.T) : List Tok := if rightT t = true then toksT t else []
theorem right_rt {t : Go.Tm.T} (h : rightT t = true) : Rt t ∧ t.size ≤ 10000 := by
  rw [right_iff, Bool.and_eq_true, Bool.and_eq_true, decide_eq_true_eq] at h
  exact ⟨rt_of t.size t (Nat.le_refl _) h.2.2, h.1⟩
/-- a list that was laid from nothing on, as tokens behind a slice -/
theorem toks_own {W : World} {base : Nat} {v : Value} {l : List Tok} (h : W.ownsRow base 45 3 v l.length (toksC l)) : ∃ A c, v = .slice A l.length c ∧ X.Toks W W.heap.size A l := by
  obtain ⟨A, c, h1, h2, _⟩ := X.toks_of (l := l) h
  exact ⟨A, c, h1, h2⟩

set_option maxRecDepth 100000 in
set_option maxHeartbeats 2000000 in
theorem toks_any (t : Go.Tm.T) (A : Option Addr) (c : Nat) (w : World) (hE : EnvS w) (hz : t.size ≤ 4194304) (hT : TmV w (· < w.heap.size) t A c) :
    Calls Tryz.prog 8 #[tmV t A c] w fun e w' => ∃ B d, e = .returned (.slice B (showT t).length d) ∧ X.Toks w' w'.heap.size B (showT t) ∧ Below w.heap.size w w' := by
  have hbV : Below w.heap.size w (w.alloc (.cells #[.int .i64 t.kind, .string t.name, .int .i64 t.num, .slice A t.kids.length c] 24)) := later_alloc _ _
  have hbx : (w.alloc (.cells #[.int .i64 t.kind, .string t.name, .int .i64 t.num, .slice A t.kids.length c] 24)).heap[w.heap.size]? = some (.cells #[.int .i64 t.kind, .string t.name, .int .i64 t.num, .slice A t.kids.length c] 24 (0, 0)) := World.alloc_heap_new _ _
  have kr := right_any t A c (w.alloc (.cells #[.int .i64 t.kind, .string t.name, .int .i64 t.num, .slice A t.kids.length c] 24)) (hE.later hbV).tm hz (hT.later hbV)
  obtain ⟨V, hV⟩ : ∃ V, w.alloc (.cells #[.int .i64 t.kind, .string t.name, .int .i64 t.num, .slice A t.kids.length c] 24) = V := ⟨_, rfl⟩
  rw [hV] at hbV hbx kr
  unfold tmV at kr ⊢
  have i0 := cell_of_row V w.heap.size 0 _ _ _ hbx
  have i1 := cell_of_row V w.heap.size 1 _ _ _ hbx
  have i2 := cell_of_row V w.heap.size 2 _ _ _ hbx
  have i3 := cell_of_row V w.heap.size 3 _ _ _ hbx
  have hlv := World.lt_of_get hbx
  replace hbx := Lib.hid hbx
  replace hV := Lib.hid hV
  replace hbV := Lib.hid hbV
  replace hE := Lib.hid hE
  replace hT := Lib.hid hT
  cases hr : rightT t with
  | false =>
    have hs : Hid (showT t = []) := by show _ = _; unfold showT; rw [hr]; rfl
    rw [hr] at kr
    replace kr := Lib.hid kr
    rw [hs.out]
    clear hr
    go_enter Tryz.func8, Tryz.ntmps8
    go_wp2_with fail
    try rw [hV.out]
    go_wp2_with fail
    refine kr.out.mono ?_
    rintro e w1 ⟨rfl, hb1⟩
    have hb := Lib.hid (hbV.out.trans (hb1.mono (by omega)))
    clear hb1 kr
    go_wp2_with fail
    go_ret
    exact ⟨_, _, rfl, X.Toks.nil _ _ _, hb.out⟩
  | true =>
    have hs : Hid (showT t = toksT t) := by show _ = _; unfold showT; rw [hr]; rfl
    obtain ⟨hrt, hz2⟩ := right_rt hr
    have hlen := (toks_len hrt).1
    rw [hr] at kr
    replace kr := Lib.hid kr
    rw [hs.out]
    clear hr
    replace hrt := Lib.hid hrt
    go_enter Tryz.func8, Tryz.ntmps8
    go_wp2_with fail
    try rw [hV.out]
    go_wp2_with fail
    refine kr.out.mono ?_
    rintro e w1 ⟨rfl, hb1⟩
    have hx1 := (hb1.block w.heap.size hlv).trans hbx.out
    have hb2 := hbV.out.trans (hb1.mono (by omega))
    have kl := laid_any hrt.out w1.heap.size (.slice none 0 0) [] A c w1 (hE.out.later hb2).size (Nat.le_refl _) (hE.out.later hb2).t (World.ownsRow_nil _ _ _ _) ((hT.out.later hb2).kept (fun k hk => ⟨hk, fun e => by cases e⟩) (fun _ _ => rfl)) (by simp; omega)
    unfold tmV at kl
    replace kl := Lib.hid kl
    replace i0 := cell_of_row w1 w.heap.size 0 _ _ _ hx1
    replace i1 := cell_of_row w1 w.heap.size 1 _ _ _ hx1
    replace i2 := cell_of_row w1 w.heap.size 2 _ _ _ hx1
    replace i3 := cell_of_row w1 w.heap.size 3 _ _ _ hx1
    have hl1 := World.lt_of_get hx1
    replace hx1 := Lib.hid hx1
    replace hb2 := Lib.hid hb2
    clear hb1 kr
    go_wp2_with fail
    refine kl.out.mono ?_
    rintro e w2 ⟨v2, rfl, hp⟩
    obtain ⟨hp1, hp2⟩ := hp
    rw [List.nil_append] at hp1
    obtain ⟨B, d, rfl, hTk⟩ := toks_own hp1
    have hb := Lib.hid (hb2.out.trans ((hp2.below (Nat.le_refl _) (fun k e => by cases e)).mono hb2.out.size))
    replace hTk := Lib.hid hTk
    clear hp1 hp2 kl
    go_wp2_with fail
    go_ret
    exact ⟨_, _, rfl, hTk.out, hb.out⟩
end Go.Proofs.YthmchdpinobbgaaGreatDoor
