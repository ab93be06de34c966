/-
  TermSame's walk: true of whatever terms. Conditions: the tables lie as laid; the terms can be read, and have at most 1048576 terms each.
-/
import Derived.Test.YtkmeolbombhlfaaDoorTmNames
import Derived.Deep.RegionHeld3
namespace Go.Tm
open Go.Proofs.YtkmeolbombhlfaaDoor (bytes_eq)
theorem alikeB_iff {a b : T} : alikeB a b = true ↔ a.kind = b.kind ∧ a.name = b.name ∧ a.num = b.num ∧ a.kids.length = b.kids.length := by
  unfold alikeB
  rw [Bool.and_eq_true, Bool.and_eq_true, Bool.and_eq_true, beq_iff_eq, bytes_eq, beq_iff_eq, beq_iff_eq]
  constructor
  · rintro ⟨h1, h2, h3, h4⟩; exact ⟨h1, h2, h3, by omega⟩
  · rintro ⟨h1, h2, h3, h4⟩; exact ⟨h1, h2, h3, by omega⟩
mutual
theorem eqT_eq : ∀ (a b : T), eqT a b = true → a = b
  | .node k s n ks, b, h => by
    rw [eqT, Bool.and_eq_true, alikeB_iff] at h
    obtain ⟨⟨h1, h2, h3, h4⟩, h5⟩ := h
    have h6 := eqTs_eq ks b.kids h4 h5
    rw [T.eta b, ← h1, ← h2, ← h3, ← h6]; rfl
theorem eqTs_eq : ∀ (ts us : List T), ts.length = us.length → eqTs ts us = true → ts = us
  | [], us, hl, _ => (List.eq_nil_of_length_eq_zero hl.symm).symm
  | t :: ts, [], hl, _ => by simp at hl
  | t :: ts, u :: us, hl, h => by
    rw [eqTs, Bool.and_eq_true] at h
    have h1 := eqT_eq t u h.1
    have h2 := eqTs_eq ts us (by simpa using hl) h.2
    rw [h1, h2]
end
mutual
theorem eqT_self : ∀ (a : T), eqT a a = true
  | .node k s n ks => by
    rw [eqT, Bool.and_eq_true, alikeB_iff]
    exact ⟨⟨rfl, rfl, rfl, rfl⟩, eqTs_self ks⟩
theorem eqTs_self : ∀ (ts : List T), eqTs ts ts = true
  | [] => by rw [eqTs]
  | t :: ts => by
    rw [eqTs, Bool.and_eq_true]
    exact ⟨eqT_self t, eqTs_self ts⟩
end
theorem eqT_symm (a b : T) : eqT b a = eqT a b := by
  cases h : eqT a b with
  | true => rw [eqT_eq a b h]; exact eqT_self b
  | false =>
    cases h2 : eqT b a with
    | false => rfl
    | true => rw [eqT_eq b a h2, eqT_self] at h; cases h
end Go.Tm
namespace Go.Proofs.YtkmeolbombhlfaaDoor
open Go.RowKit Go.Shelf Go.Tm Go.Maps
attribute [local go_sem] Oper.semAt_some

/-- what is known: three terms, each in a box of its own -/
structure At3 (w W : World) (a b c : Go.Tm.T) (A B C : Option Addr) (ca cb cc : Nat) : Prop where
  now : Now w W
  ta : TmV W (· < W.heap.size) a A ca
  tb : TmV W (· < W.heap.size) b B cb
  tc : TmV W (· < W.heap.size) c C cc
  c1 : W.heap[w.heap.size]? = some (.cells #[.int .i64 a.kind, .string a.name, .int .i64 a.num, .slice A a.kids.length ca] 24 (0, 0))
  c2 : W.heap[w.heap.size + 1]? = some (.cells #[.int .i64 b.kind, .string b.name, .int .i64 b.num, .slice B b.kids.length cb] 24 (0, 0))
  c3 : W.heap[w.heap.size + 1 + 1]? = some (.cells #[.int .i64 c.kind, .string c.name, .int .i64 c.num, .slice C c.kids.length cc] 24 (0, 0))
theorem At3.later {w W W' : World} {a b c : Go.Tm.T} {A B C : Option Addr} {ca cb cc : Nat} (h : At3 w W a b c A B C ca cb cc) (hb : Below W.heap.size W W') : At3 w W' a b c A B C ca cb cc :=
  ⟨h.now.later hb, h.ta.later hb, h.tb.later hb, h.tc.later hb, (hb.block _ (World.lt_of_get h.c1)).trans h.c1, (hb.block _ (World.lt_of_get h.c2)).trans h.c2, (hb.block _ (World.lt_of_get h.c3)).trans h.c3⟩

set_option maxRecDepth 100000 in
set_option maxHeartbeats 4000000 in
theorem termSame_any (a b c : Go.Tm.T) (A B C : Option Addr) (ca cb cc : Nat) (w : World) (hE : Env w) (ha : a.size ≤ 1048576) (hb : b.size ≤ 1048576) (hc : c.size ≤ 1048576) (hA : TmV w (· < w.heap.size) a A ca) (hB : TmV w (· < w.heap.size) b B cb) (hC : TmV w (· < w.heap.size) c C cc) :
    Calls Tryd.prog 4 #[tmV a A ca, tmV b B cb, tmV c C cc] w fun e w' => e = .returned (.bool true) ∧ Below w.heap.size w w' := by
  unfold tmV
  have hb3 := (((Below.refl _ w).alloc (Nat.le_refl _) (.cells #[.int .i64 a.kind, .string a.name, .int .i64 a.num, .slice A a.kids.length ca] 24)).alloc (by simp) (.cells #[.int .i64 b.kind, .string b.name, .int .i64 b.num, .slice B b.kids.length cb] 24)).alloc (by simp; omega) (.cells #[.int .i64 c.kind, .string c.name, .int .i64 c.num, .slice C c.kids.length cc] 24)
  have hX : Hid (At3 w (((w.alloc (.cells #[.int .i64 a.kind, .string a.name, .int .i64 a.num, .slice A a.kids.length ca] 24)).alloc (.cells #[.int .i64 b.kind, .string b.name, .int .i64 b.num, .slice B b.kids.length cb] 24)).alloc (.cells #[.int .i64 c.kind, .string c.name, .int .i64 c.num, .slice C c.kids.length cc] 24)) a b c A B C ca cb cc) := by
    have g := chain_get w [.cells #[.int .i64 a.kind, .string a.name, .int .i64 a.num, .slice A a.kids.length ca] 24, .cells #[.int .i64 b.kind, .string b.name, .int .i64 b.num, .slice B b.kids.length cb] 24, .cells #[.int .i64 c.kind, .string c.name, .int .i64 c.num, .slice C c.kids.length cc] 24]
    exact ⟨⟨hb3, hE.later hb3⟩, hA.later hb3, hB.later hb3, hC.later hb3, g 0 _ rfl, g 1 _ rfl, g 2 _ rfl⟩
  clear hb3 hE hA hB hC
  go_enter Tryd.func4, Tryd.ntmps4
  go_wp2_with fail
  refine (examples_any _ hX.out.now.env).mono ?_
  rintro e w1 ⟨rfl, hb1⟩
  replace hX := Lib.hid (hX.out.later hb1)
  clear hb1
  cases hs : eqT a b with
  | false =>
    have k := same_any a b A B ca cb w1 (by omega) hX.out.ta hX.out.tb
    rw [hs] at k
    replace k := Lib.hid k
    have p0 := cell_of_row w1 w.heap.size 0 _ _ _ hX.out.c1
    have p1 := cell_of_row w1 w.heap.size 1 _ _ _ hX.out.c1
    have p2 := cell_of_row w1 w.heap.size 2 _ _ _ hX.out.c1
    have p3 := cell_of_row w1 w.heap.size 3 _ _ _ hX.out.c1
    have q0 := cell_of_row w1 (w.heap.size + 1) 0 _ _ _ hX.out.c2
    have q1 := cell_of_row w1 (w.heap.size + 1) 1 _ _ _ hX.out.c2
    have q2 := cell_of_row w1 (w.heap.size + 1) 2 _ _ _ hX.out.c2
    have q3 := cell_of_row w1 (w.heap.size + 1) 3 _ _ _ hX.out.c2
    go_wp2_with fail
    refine k.out.mono ?_
    rintro e w2 ⟨rfl, hb2⟩
    replace hX := Lib.hid (hX.out.later hb2)
    clear hb2 k
    clear p0 p1 p2 p3 q0 q1 q2 q3
    have k := same_any a a A A ca ca w2 (by omega) hX.out.ta hX.out.ta
    rw [eqT_self] at k
    replace k := Lib.hid k
    have p0 := cell_of_row w2 w.heap.size 0 _ _ _ hX.out.c1
    have p1 := cell_of_row w2 w.heap.size 1 _ _ _ hX.out.c1
    have p2 := cell_of_row w2 w.heap.size 2 _ _ _ hX.out.c1
    have p3 := cell_of_row w2 w.heap.size 3 _ _ _ hX.out.c1
    go_wp2_with fail
    refine k.out.mono ?_
    rintro e w3 ⟨rfl, hb3⟩
    replace hX := Lib.hid (hX.out.later hb3)
    clear hb3 k
    clear p0 p1 p2 p3
    have k := same_any b a B A cb ca w3 (by omega) hX.out.tb hX.out.ta
    rw [eqT_symm, hs] at k
    replace k := Lib.hid k
    have p0 := cell_of_row w3 w.heap.size 0 _ _ _ hX.out.c1
    have p1 := cell_of_row w3 w.heap.size 1 _ _ _ hX.out.c1
    have p2 := cell_of_row w3 w.heap.size 2 _ _ _ hX.out.c1
    have p3 := cell_of_row w3 w.heap.size 3 _ _ _ hX.out.c1
    have q0 := cell_of_row w3 (w.heap.size + 1) 0 _ _ _ hX.out.c2
    have q1 := cell_of_row w3 (w.heap.size + 1) 1 _ _ _ hX.out.c2
    have q2 := cell_of_row w3 (w.heap.size + 1) 2 _ _ _ hX.out.c2
    have q3 := cell_of_row w3 (w.heap.size + 1) 3 _ _ _ hX.out.c2
    go_wp2_with fail
    refine k.out.mono ?_
    rintro e w4 ⟨rfl, hb4⟩
    replace hX := Lib.hid (hX.out.later hb4)
    clear hb4 k
    clear p0 p1 p2 p3 q0 q1 q2 q3
    replace hs := Lib.hid hs
    go_wp2_with fail
    go_quiet (fail)
    all_goals go_wp2
    all_goals go_ret
    all_goals exact ⟨rfl, belowN hX.out.now.below _⟩
  | true =>
    have hab := eqT_eq a b hs
    subst hab
    clear hs
    have k := same_any a a A B ca cb w1 (by omega) hX.out.ta hX.out.tb
    rw [eqT_self] at k
    replace k := Lib.hid k
    have p0 := cell_of_row w1 w.heap.size 0 _ _ _ hX.out.c1
    have p1 := cell_of_row w1 w.heap.size 1 _ _ _ hX.out.c1
    have p2 := cell_of_row w1 w.heap.size 2 _ _ _ hX.out.c1
    have p3 := cell_of_row w1 w.heap.size 3 _ _ _ hX.out.c1
    have q0 := cell_of_row w1 (w.heap.size + 1) 0 _ _ _ hX.out.c2
    have q1 := cell_of_row w1 (w.heap.size + 1) 1 _ _ _ hX.out.c2
    have q2 := cell_of_row w1 (w.heap.size + 1) 2 _ _ _ hX.out.c2
    have q3 := cell_of_row w1 (w.heap.size + 1) 3 _ _ _ hX.out.c2
    go_wp2_with fail
    refine k.out.mono ?_
    rintro e w2 ⟨rfl, hb2⟩
    replace hX := Lib.hid (hX.out.later hb2)
    clear hb2 k
    clear p0 p1 p2 p3 q0 q1 q2 q3
    have k := same_any a a A A ca ca w2 (by omega) hX.out.ta hX.out.ta
    rw [eqT_self] at k
    replace k := Lib.hid k
    have p0 := cell_of_row w2 w.heap.size 0 _ _ _ hX.out.c1
    have p1 := cell_of_row w2 w.heap.size 1 _ _ _ hX.out.c1
    have p2 := cell_of_row w2 w.heap.size 2 _ _ _ hX.out.c1
    have p3 := cell_of_row w2 w.heap.size 3 _ _ _ hX.out.c1
    go_wp2_with fail
    refine k.out.mono ?_
    rintro e w3 ⟨rfl, hb3⟩
    replace hX := Lib.hid (hX.out.later hb3)
    clear hb3 k
    clear p0 p1 p2 p3
    have k := same_any a a B A cb ca w3 (by omega) hX.out.tb hX.out.ta
    rw [eqT_self] at k
    replace k := Lib.hid k
    have p0 := cell_of_row w3 w.heap.size 0 _ _ _ hX.out.c1
    have p1 := cell_of_row w3 w.heap.size 1 _ _ _ hX.out.c1
    have p2 := cell_of_row w3 w.heap.size 2 _ _ _ hX.out.c1
    have p3 := cell_of_row w3 w.heap.size 3 _ _ _ hX.out.c1
    have q0 := cell_of_row w3 (w.heap.size + 1) 0 _ _ _ hX.out.c2
    have q1 := cell_of_row w3 (w.heap.size + 1) 1 _ _ _ hX.out.c2
    have q2 := cell_of_row w3 (w.heap.size + 1) 2 _ _ _ hX.out.c2
    have q3 := cell_of_row w3 (w.heap.size + 1) 3 _ _ _ hX.out.c2
    go_wp2_with fail
    refine k.out.mono ?_
    rintro e w4 ⟨rfl, hb4⟩
    replace hX := Lib.hid (hX.out.later hb4)
    clear hb4 k
    clear p0 p1 p2 p3 q0 q1 q2 q3
    cases hs : eqT a c
    case' false =>
      have k := same_any a c B C cb cc w4 (by omega) hX.out.tb hX.out.tc
      rw [hs] at k
      replace k := Lib.hid k
      have q0 := cell_of_row w4 (w.heap.size + 1) 0 _ _ _ hX.out.c2
      have q1 := cell_of_row w4 (w.heap.size + 1) 1 _ _ _ hX.out.c2
      have q2 := cell_of_row w4 (w.heap.size + 1) 2 _ _ _ hX.out.c2
      have q3 := cell_of_row w4 (w.heap.size + 1) 3 _ _ _ hX.out.c2
      have r0 := cell_of_row w4 (w.heap.size + 1 + 1) 0 _ _ _ hX.out.c3
      have r1 := cell_of_row w4 (w.heap.size + 1 + 1) 1 _ _ _ hX.out.c3
      have r2 := cell_of_row w4 (w.heap.size + 1 + 1) 2 _ _ _ hX.out.c3
      have r3 := cell_of_row w4 (w.heap.size + 1 + 1) 3 _ _ _ hX.out.c3
      go_wp2_with fail
      refine k.out.mono ?_
      rintro e w5 ⟨rfl, hb5⟩
      replace hX := Lib.hid (hX.out.later hb5)
      clear hb5 k
      clear q0 q1 q2 q3 r0 r1 r2 r3
      replace hs := Lib.hid hs
      have p0 := cell_of_row w5 w.heap.size 0 _ _ _ hX.out.c1
      have p1 := cell_of_row w5 w.heap.size 1 _ _ _ hX.out.c1
      have p2 := cell_of_row w5 w.heap.size 2 _ _ _ hX.out.c1
      have p3 := cell_of_row w5 w.heap.size 3 _ _ _ hX.out.c1
      have q0 := cell_of_row w5 (w.heap.size + 1) 0 _ _ _ hX.out.c2
      have q1 := cell_of_row w5 (w.heap.size + 1) 1 _ _ _ hX.out.c2
      have q2 := cell_of_row w5 (w.heap.size + 1) 2 _ _ _ hX.out.c2
      have q3 := cell_of_row w5 (w.heap.size + 1) 3 _ _ _ hX.out.c2
      go_wp2_with fail
    case' true =>
      have k := same_any a c B C cb cc w4 (by omega) hX.out.tb hX.out.tc
      rw [hs] at k
      replace k := Lib.hid k
      have q0 := cell_of_row w4 (w.heap.size + 1) 0 _ _ _ hX.out.c2
      have q1 := cell_of_row w4 (w.heap.size + 1) 1 _ _ _ hX.out.c2
      have q2 := cell_of_row w4 (w.heap.size + 1) 2 _ _ _ hX.out.c2
      have q3 := cell_of_row w4 (w.heap.size + 1) 3 _ _ _ hX.out.c2
      have r0 := cell_of_row w4 (w.heap.size + 1 + 1) 0 _ _ _ hX.out.c3
      have r1 := cell_of_row w4 (w.heap.size + 1 + 1) 1 _ _ _ hX.out.c3
      have r2 := cell_of_row w4 (w.heap.size + 1 + 1) 2 _ _ _ hX.out.c3
      have r3 := cell_of_row w4 (w.heap.size + 1 + 1) 3 _ _ _ hX.out.c3
      go_wp2_with fail
      refine k.out.mono ?_
      rintro e w5 ⟨rfl, hb5⟩
      replace hX := Lib.hid (hX.out.later hb5)
      clear hb5 k
      clear q0 q1 q2 q3 r0 r1 r2 r3
      have hac := eqT_eq a c hs
      subst hac
      replace hs := Lib.hid hs
      have k := same_any a a A C ca cc w5 (by omega) hX.out.ta hX.out.tc
      rw [eqT_self] at k
      replace k := Lib.hid k
      have p0 := cell_of_row w5 w.heap.size 0 _ _ _ hX.out.c1
      have p1 := cell_of_row w5 w.heap.size 1 _ _ _ hX.out.c1
      have p2 := cell_of_row w5 w.heap.size 2 _ _ _ hX.out.c1
      have p3 := cell_of_row w5 w.heap.size 3 _ _ _ hX.out.c1
      have r0 := cell_of_row w5 (w.heap.size + 1 + 1) 0 _ _ _ hX.out.c3
      have r1 := cell_of_row w5 (w.heap.size + 1 + 1) 1 _ _ _ hX.out.c3
      have r2 := cell_of_row w5 (w.heap.size + 1 + 1) 2 _ _ _ hX.out.c3
      have r3 := cell_of_row w5 (w.heap.size + 1 + 1) 3 _ _ _ hX.out.c3
      go_wp2_with fail
      refine k.out.mono ?_
      rintro e w6 ⟨rfl, hb6⟩
      replace hX := Lib.hid (hX.out.later hb6)
      clear hb6 k
      clear p0 p1 p2 p3 r0 r1 r2 r3
      have p0 := cell_of_row w6 w.heap.size 0 _ _ _ hX.out.c1
      have p1 := cell_of_row w6 w.heap.size 1 _ _ _ hX.out.c1
      have p2 := cell_of_row w6 w.heap.size 2 _ _ _ hX.out.c1
      have p3 := cell_of_row w6 w.heap.size 3 _ _ _ hX.out.c1
      have q0 := cell_of_row w6 (w.heap.size + 1) 0 _ _ _ hX.out.c2
      have q1 := cell_of_row w6 (w.heap.size + 1) 1 _ _ _ hX.out.c2
      have q2 := cell_of_row w6 (w.heap.size + 1) 2 _ _ _ hX.out.c2
      have q3 := cell_of_row w6 (w.heap.size + 1) 3 _ _ _ hX.out.c2
      go_wp2_with fail
    all_goals
      replace hX := Lib.hid (hX.out.later (Below.refl _ _).drew)
      clear p0 p1 p2 p3 q0 q1 q2 q3
      replace hX : ∃ c9, Hid (At3 w _ a a c9 A B C ca cb cc) := ⟨_, hX⟩
      obtain ⟨c9, hX⟩ := hX
      obtain ⟨sz, hsz⟩ : ∃ n, a.size = n := ⟨_, rfl⟩
      obtain ⟨dp, hdp⟩ : ∃ n, a.depth = n := ⟨_, rfl⟩
      obtain ⟨rt, hrt⟩ : ∃ n, rightT a = n := ⟨_, rfl⟩
      obtain ⟨nl, hnl⟩ : ∃ n, (namesOf a).length = n := ⟨_, rfl⟩
      have KS : Hid (∀ W, At3 w W a a c9 A B C ca cb cc → ∀ v, (v = .agg #[.int .i64 a.kind, .string a.name, .int .i64 a.num, .slice A a.kids.length ca] ∨ v = .agg #[.int .i64 a.kind, .string a.name, .int .i64 a.num, .slice B a.kids.length cb]) → Calls Tryd.prog 15 #[v] W fun e w' => e = .returned (.int .i64 (sz : Nat)) ∧ At3 w w' a a c9 A B C ca cb cc) := fun W h v hv => by
        rcases hv with rfl | rfl
        · exact (size_any a A ca W (by omega) h.ta).mono fun e w' h9 => ⟨by rw [h9.1, hsz], h.later h9.2⟩
        · exact (size_any a B cb W (by omega) h.tb).mono fun e w' h9 => ⟨by rw [h9.1, hsz], h.later h9.2⟩
      have KD : Hid (∀ W, At3 w W a a c9 A B C ca cb cc → ∀ v, (v = .agg #[.int .i64 a.kind, .string a.name, .int .i64 a.num, .slice A a.kids.length ca] ∨ v = .agg #[.int .i64 a.kind, .string a.name, .int .i64 a.num, .slice B a.kids.length cb]) → Calls Tryd.prog 17 #[v] W fun e w' => e = .returned (.int .i64 (dp : Nat)) ∧ At3 w w' a a c9 A B C ca cb cc) := fun W h v hv => by
        rcases hv with rfl | rfl
        · exact (depth_any a A ca W (by omega) h.ta).mono fun e w' h9 => ⟨by rw [h9.1, hdp], h.later h9.2⟩
        · exact (depth_any a B cb W (by omega) h.tb).mono fun e w' h9 => ⟨by rw [h9.1, hdp], h.later h9.2⟩
      have KR : Hid (∀ W, At3 w W a a c9 A B C ca cb cc → ∀ v, (v = .agg #[.int .i64 a.kind, .string a.name, .int .i64 a.num, .slice A a.kids.length ca] ∨ v = .agg #[.int .i64 a.kind, .string a.name, .int .i64 a.num, .slice B a.kids.length cb]) → Calls Tryd.prog 19 #[v] W fun e w' => e = .returned (.bool rt) ∧ At3 w w' a a c9 A B C ca cb cc) := fun W h v hv => by
        rcases hv with rfl | rfl
        · exact (right_any a A ca W h.now.env (by omega) h.ta).mono fun e w' h9 => ⟨by rw [h9.1, hrt], h.later h9.2⟩
        · exact (right_any a B cb W h.now.env (by omega) h.tb).mono fun e w' h9 => ⟨by rw [h9.1, hrt], h.later h9.2⟩
      have KF : Hid (∀ W, At3 w W a a c9 A B C ca cb cc → ∀ v, (v = .agg #[.int .i64 a.kind, .string a.name, .int .i64 a.num, .slice A a.kids.length ca] ∨ v = .agg #[.int .i64 a.kind, .string a.name, .int .i64 a.num, .slice B a.kids.length cb]) → Calls Tryd.prog 24 #[v] W fun e w' => ∃ G d, e = .returned (.slice G (nl : Nat) d) ∧ At3 w w' a a c9 A B C ca cb cc ∧ nl ≤ 4294967296 ∧ Txs w' G (namesOf a) ∧ Below W.heap.size W w') := fun W h v hv => by
        rcases hv with rfl | rfl
        · exact (free_one a A ca W (by omega) h.ta).mono fun e w' ⟨G, d, h1, h2, h3, h4⟩ => ⟨G, d, by rw [h1, hnl], h.later h4, by have := names_len h2; omega, h3, h4⟩
        · exact (free_one a B cb W (by omega) h.tb).mono fun e w' ⟨G, d, h1, h2, h3, h4⟩ => ⟨G, d, by rw [h1, hnl], h.later h4, by have := names_len h2; omega, h3, h4⟩
      have KT : Hid (∀ W, At3 w W a a c9 A B C ca cb cc → nl ≤ 4294967296 → ∀ G1 d1 G2 d2, Txs W G1 (namesOf a) → Txs W G2 (namesOf a) → Calls Tryd.prog 23 #[.slice G1 (nl : Nat) d1, .slice G2 (nl : Nat) d2] W fun e w' => e = .returned (.bool true) ∧ At3 w w' a a c9 A B C ca cb cc) := fun W h hl G1 d1 G2 d2 h1 h2 => by
        have k := texts_any (namesOf a) (namesOf a) G1 G2 d1 d2 W h1 h2 (by rw [hnl]; exact hl)
        rw [hnl, decide_eq_true rfl] at k
        exact k.mono fun e w' h9 => ⟨h9.1, h.later h9.2⟩
      replace hsz := Lib.hid hsz
      replace hdp := Lib.hid hdp
      replace hrt := Lib.hid hrt
      replace hnl := Lib.hid hnl
      have p0 := cell_of_row _ w.heap.size 0 _ _ _ hX.out.c1
      have p1 := cell_of_row _ w.heap.size 1 _ _ _ hX.out.c1
      have p2 := cell_of_row _ w.heap.size 2 _ _ _ hX.out.c1
      have p3 := cell_of_row _ w.heap.size 3 _ _ _ hX.out.c1
      have q0 := cell_of_row _ (w.heap.size + 1) 0 _ _ _ hX.out.c2
      have q1 := cell_of_row _ (w.heap.size + 1) 1 _ _ _ hX.out.c2
      have q2 := cell_of_row _ (w.heap.size + 1) 2 _ _ _ hX.out.c2
      have q3 := cell_of_row _ (w.heap.size + 1) 3 _ _ _ hX.out.c2
      go_region_held3 (fun w' => w'.cell? ⟨w.heap.size, 0, none⟩ = some (.int .i64 a.kind) ∧ w'.cell? ⟨w.heap.size, 1, none⟩ = some (.string a.name) ∧ w'.cell? ⟨w.heap.size, 2, none⟩ = some (.int .i64 a.num) ∧ w'.cell? ⟨w.heap.size, 3, none⟩ = some (.slice A a.kids.length ca) ∧ w'.cell? ⟨w.heap.size + 1, 0, none⟩ = some (.int .i64 a.kind) ∧ w'.cell? ⟨w.heap.size + 1, 1, none⟩ = some (.string a.name) ∧ w'.cell? ⟨w.heap.size + 1, 2, none⟩ = some (.int .i64 a.num) ∧ w'.cell? ⟨w.heap.size + 1, 3, none⟩ = some (.slice B a.kids.length cb)) (exact ⟨p0, p1, p2, p3, q0, q1, q2, q3⟩) (first | (go_at_call 15; have hO := hX; clear hX p0 p1 p2 p3 q0 q1 q2 q3; refine (KS.out _ hO.out _ (by first | exact .inl rfl | exact .inr rfl)).mono ?_; clear hO; rintro e w9 ⟨rfl, hX⟩; replace hX := Lib.hid hX; have p0 := cell_of_row w9 w.heap.size 0 _ _ _ hX.out.c1; have p1 := cell_of_row w9 w.heap.size 1 _ _ _ hX.out.c1; have p2 := cell_of_row w9 w.heap.size 2 _ _ _ hX.out.c1; have p3 := cell_of_row w9 w.heap.size 3 _ _ _ hX.out.c1; have q0 := cell_of_row w9 (w.heap.size + 1) 0 _ _ _ hX.out.c2; have q1 := cell_of_row w9 (w.heap.size + 1) 1 _ _ _ hX.out.c2; have q2 := cell_of_row w9 (w.heap.size + 1) 2 _ _ _ hX.out.c2; have q3 := cell_of_row w9 (w.heap.size + 1) 3 _ _ _ hX.out.c2) | (go_at_call 17; have hO := hX; clear hX p0 p1 p2 p3 q0 q1 q2 q3; refine (KD.out _ hO.out _ (by first | exact .inl rfl | exact .inr rfl)).mono ?_; clear hO; rintro e w9 ⟨rfl, hX⟩; replace hX := Lib.hid hX; have p0 := cell_of_row w9 w.heap.size 0 _ _ _ hX.out.c1; have p1 := cell_of_row w9 w.heap.size 1 _ _ _ hX.out.c1; have p2 := cell_of_row w9 w.heap.size 2 _ _ _ hX.out.c1; have p3 := cell_of_row w9 w.heap.size 3 _ _ _ hX.out.c1; have q0 := cell_of_row w9 (w.heap.size + 1) 0 _ _ _ hX.out.c2; have q1 := cell_of_row w9 (w.heap.size + 1) 1 _ _ _ hX.out.c2; have q2 := cell_of_row w9 (w.heap.size + 1) 2 _ _ _ hX.out.c2; have q3 := cell_of_row w9 (w.heap.size + 1) 3 _ _ _ hX.out.c2) | (go_at_call 19; have hO := hX; clear hX p0 p1 p2 p3 q0 q1 q2 q3; refine (KR.out _ hO.out _ (by first | exact .inl rfl | exact .inr rfl)).mono ?_; clear hO; rintro e w9 ⟨rfl, hX⟩; replace hX := Lib.hid hX; have p0 := cell_of_row w9 w.heap.size 0 _ _ _ hX.out.c1; have p1 := cell_of_row w9 w.heap.size 1 _ _ _ hX.out.c1; have p2 := cell_of_row w9 w.heap.size 2 _ _ _ hX.out.c1; have p3 := cell_of_row w9 w.heap.size 3 _ _ _ hX.out.c1; have q0 := cell_of_row w9 (w.heap.size + 1) 0 _ _ _ hX.out.c2; have q1 := cell_of_row w9 (w.heap.size + 1) 1 _ _ _ hX.out.c2; have q2 := cell_of_row w9 (w.heap.size + 1) 2 _ _ _ hX.out.c2; have q3 := cell_of_row w9 (w.heap.size + 1) 3 _ _ _ hX.out.c2) | (go_at_call 24; have hO := hX; clear hX p0 p1 p2 p3 q0 q1 q2 q3; refine (KF.out _ hO.out _ (by first | exact .inl rfl | exact .inr rfl)).mono ?_; clear hO; rintro e w9 ⟨G, d, rfl, hX, hl9, hTx, hb9⟩; replace hX := Lib.hid hX; (first | (have hG2 := Lib.hid (hG1.out.later hb9); clear hG1; have hG1 := Lib.hid hTx) | (have hG1 := Lib.hid hTx)); replace hl9 := Lib.hid hl9; clear hb9 hTx; have p0 := cell_of_row w9 w.heap.size 0 _ _ _ hX.out.c1; have p1 := cell_of_row w9 w.heap.size 1 _ _ _ hX.out.c1; have p2 := cell_of_row w9 w.heap.size 2 _ _ _ hX.out.c1; have p3 := cell_of_row w9 w.heap.size 3 _ _ _ hX.out.c1; have q0 := cell_of_row w9 (w.heap.size + 1) 0 _ _ _ hX.out.c2; have q1 := cell_of_row w9 (w.heap.size + 1) 1 _ _ _ hX.out.c2; have q2 := cell_of_row w9 (w.heap.size + 1) 2 _ _ _ hX.out.c2; have q3 := cell_of_row w9 (w.heap.size + 1) 3 _ _ _ hX.out.c2) | (go_at_call 23; have hO := hX; clear hX p0 p1 p2 p3 q0 q1 q2 q3; refine (KT.out _ hO.out hl9.out _ _ _ _ (by first | exact hG1.out | exact hG2.out) (by first | exact hG1.out | exact hG2.out)).mono ?_; clear hO hG1 hG2; rintro e w9 ⟨rfl, hX⟩; replace hX := Lib.hid hX; have p0 := cell_of_row w9 w.heap.size 0 _ _ _ hX.out.c1; have p1 := cell_of_row w9 w.heap.size 1 _ _ _ hX.out.c1; have p2 := cell_of_row w9 w.heap.size 2 _ _ _ hX.out.c1; have p3 := cell_of_row w9 w.heap.size 3 _ _ _ hX.out.c1; have q0 := cell_of_row w9 (w.heap.size + 1) 0 _ _ _ hX.out.c2; have q1 := cell_of_row w9 (w.heap.size + 1) 1 _ _ _ hX.out.c2; have q2 := cell_of_row w9 (w.heap.size + 1) 2 _ _ _ hX.out.c2; have q3 := cell_of_row w9 (w.heap.size + 1) 3 _ _ _ hX.out.c2))
    all_goals go_wp2
    all_goals go_ret
    all_goals exact ⟨rfl, hX.out.now.below⟩
end Go.Proofs.YtkmeolbombhlfaaDoor
