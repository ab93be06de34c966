/-
  TermTells's walk: true of whatever terms. Conditions: the tables lie as laid; the terms can be read, and have at most 1048576 terms each.
-/
import Derived.Test.YtmomdehilfnpcaaDoorTmRfB
import Derived.Test.YtmomdehilfnpcaaDoorTmRf5
import Derived.Test.YtmomdehilfnpcaaDoorTmQuiet
import Derived.Deep.RegionHeld3
namespace Go.Proofs.YtmomdehilfnpcaaDoor
open Go.RowKit Go.Shelf Go.Tm Go.Maps
attribute [local go_sem] Oper.semAt_some

/-- what is known: two terms, each in a box of its own, and the first one as the reference's -/
structure At2 (w W : World) (a b : Go.Tm.T) (A B : Option Addr) (ca cb : Nat) : Prop where
  now : Now w W
  ta : TmV W (· < W.heap.size) a A ca
  tb : TmV W (· < W.heap.size) b B cb
  c1 : W.heap[w.heap.size]? = some (.cells #[.int .i64 a.kind, .string a.name, .int .i64 a.num, .slice A a.kids.length ca] 24 (0, 0))
  c2 : W.heap[w.heap.size + 1]? = some (.cells #[.int .i64 b.kind, .string b.name, .int .i64 b.num, .slice B b.kids.length cb] 24 (0, 0))
theorem At2.later {w W W' : World} {a b : Go.Tm.T} {A B : Option Addr} {ca cb : Nat} (h : At2 w W a b A B ca cb) (hb : Below W.heap.size W W') : At2 w W' a b A B ca cb :=
  ⟨h.now.later hb, h.ta.later hb, h.tb.later hb, (hb.block _ (World.lt_of_get h.c1)).trans h.c1, (hb.block _ (World.lt_of_get h.c2)).trans h.c2⟩
structure AtR (w W : World) (a b : Go.Tm.T) (A B : Option Addr) (ca cb : Nat) (p : Nat) (R : Option Addr) (cr : Nat) : Prop where
  two : At2 w W a b A B ca cb
  tr : TmV W (· < W.heap.size) a R cr
  c3 : W.heap[p]? = some (.cells #[.int .i64 a.kind, .string a.name, .int .i64 a.num, .slice R a.kids.length cr] 28 (0, 0))
theorem AtR.later {w W W' : World} {a b : Go.Tm.T} {A B : Option Addr} {ca cb p : Nat} {R : Option Addr} {cr : Nat} (h : AtR w W a b A B ca cb p R cr) (hb : Below W.heap.size W W') : AtR w W' a b A B ca cb p R cr :=
  ⟨h.two.later hb, h.tr.later hb, (hb.block _ (World.lt_of_get h.c3)).trans h.c3⟩
/-- the reference's Free tells the one list -/
theorem freeV_one {t : Go.Tm.T} {base : Nat} {v : Value} {W : World} (hN : Names t (namesOf t)) (h : FreeV t base v W) : ∃ G d, v = .slice G (namesOf t).length d ∧ Txs W G (namesOf t) := by
  obtain ⟨M, h1, h2, h3⟩ := h
  have e := names_eq hN h2.le h2.nodup h3
  rw [e]
  exact txs_of_row h1

set_option maxRecDepth 100000 in
set_option maxHeartbeats 4000000 in
theorem termTells_any (a b : Go.Tm.T) (A B : Option Addr) (ca cb : Nat) (w : World) (hE : Env w) (ha : a.size ≤ 1048576) (hb : b.size ≤ 1048576) (hA : TmV w (· < w.heap.size) a A ca) (hB : TmV w (· < w.heap.size) b B cb) :
    Calls Tryd.prog 3 #[tmV a A ca, tmV b B cb] w fun e w' => e = .returned (.bool true) ∧ Below w.heap.size w w' := by
  unfold tmV
  have hb3 := ((Below.refl _ w).alloc (Nat.le_refl _) (.cells #[.int .i64 a.kind, .string a.name, .int .i64 a.num, .slice A a.kids.length ca] 24)).alloc (by simp) (.cells #[.int .i64 b.kind, .string b.name, .int .i64 b.num, .slice B b.kids.length cb] 24)
  have hX : Hid (At2 w ((w.alloc (.cells #[.int .i64 a.kind, .string a.name, .int .i64 a.num, .slice A a.kids.length ca] 24)).alloc (.cells #[.int .i64 b.kind, .string b.name, .int .i64 b.num, .slice B b.kids.length cb] 24)) a b A B ca cb) := by
    have g := chain_get w [.cells #[.int .i64 a.kind, .string a.name, .int .i64 a.num, .slice A a.kids.length ca] 24, .cells #[.int .i64 b.kind, .string b.name, .int .i64 b.num, .slice B b.kids.length cb] 24]
    exact ⟨⟨hb3, hE.later hb3⟩, hA.later hb3, hB.later hb3, g 0 _ rfl, g 1 _ rfl⟩
  clear hb3 hE hA hB
  go_enter Tryd.func3, Tryd.ntmps3
  go_wp2_with fail
  refine (examples_any _ hX.out.now.env).mono ?_
  rintro e w1 ⟨rfl, hb1⟩
  replace hX := Lib.hid (hX.out.later hb1)
  clear hb1
  have k := refterm_any a.size a A ca w1 (Nat.le_refl _) (by omega) hX.out.ta
  unfold tmV at k
  replace k := Lib.hid k
  have p0 := cell_of_row w1 w.heap.size 0 _ _ _ hX.out.c1
  have p1 := cell_of_row w1 w.heap.size 1 _ _ _ hX.out.c1
  have p2 := cell_of_row w1 w.heap.size 2 _ _ _ hX.out.c1
  have p3 := cell_of_row w1 w.heap.size 3 _ _ _ hX.out.c1
  go_wp2_with fail
  refine k.out.mono ?_
  rintro e w2 ⟨R, cr, rfl, hb2, hT2⟩
  replace hX := Lib.hid (hX.out.later hb2)
  clear hb2 k p0 p1 p2 p3
  replace hT2 := Lib.hid (hT2.kept (q := (· < w2.heap.size)) (fun _ h => h.2) (fun _ _ => rfl))
  go_wp2_with fail
  have hR : Hid (AtR w (w2.alloc (.cells #[.int .i64 a.kind, .string a.name, .int .i64 a.num, .slice R a.kids.length cr] 28)).drew a b A B ca cb w2.heap.size R cr) := by
    have hn := later_alloc w2 (.cells #[.int .i64 a.kind, .string a.name, .int .i64 a.num, .slice R a.kids.length cr] 28)
    exact ⟨(hX.out.later hn).later (Below.refl _ _).drew, (hT2.out.kept (fun k hk => Nat.lt_of_lt_of_le hk hn.size) (fun k hk => hn.block k hk)), World.alloc_heap_new _ _⟩
  clear hX hT2
  obtain ⟨b3, hb3⟩ : ∃ n, w2.heap.size = n := ⟨_, rfl⟩
  rw [hb3] at hR ⊢
  replace hb3 := Lib.hid hb3
  obtain ⟨sz, hsz⟩ : ∃ n, a.size = n := ⟨_, rfl⟩
  obtain ⟨dp, hdp⟩ : ∃ n, a.depth = n := ⟨_, rfl⟩
  obtain ⟨rt, hrt⟩ : ∃ n, rightT a = n := ⟨_, rfl⟩
  obtain ⟨nl, hnl⟩ : ∃ n, (namesOf a).length = n := ⟨_, rfl⟩
  obtain ⟨es, hes⟩ : ∃ n, eqT a b = n := ⟨_, rfl⟩
  obtain ⟨bd, hbd⟩ : ∃ n, binderB a.kind = n := ⟨_, rfl⟩
  have KS : Hid (∀ W, AtR w W a b A B ca cb b3 R cr → Calls Tryd.prog 10 #[.agg #[.int .i64 a.kind, .string a.name, .int .i64 a.num, .slice A a.kids.length ca]] W fun e w' => e = .returned (.int .i64 (sz : Nat)) ∧ AtR w w' a b A B ca cb b3 R cr) := fun W h => by
    exact (size_any a A ca W (by omega) h.two.ta).mono fun e w' h9 => ⟨by rw [h9.1, hsz], h.later h9.2⟩
  have KS2 : Hid (∀ W, AtR w W a b A B ca cb b3 R cr → Calls Tryd.prog 11 #[.agg #[.int .i64 a.kind, .string a.name, .int .i64 a.num, .slice R a.kids.length cr]] W fun e w' => e = .returned (.int .i64 (sz : Nat)) ∧ AtR w w' a b A B ca cb b3 R cr) := fun W h => by
    exact (refsize_any a.size a R cr W (Nat.le_refl _) (by omega) h.tr).mono fun e w' h9 => ⟨by rw [h9.1, hsz], h.later h9.2⟩
  have KD : Hid (∀ W, AtR w W a b A B ca cb b3 R cr → Calls Tryd.prog 12 #[.agg #[.int .i64 a.kind, .string a.name, .int .i64 a.num, .slice A a.kids.length ca]] W fun e w' => e = .returned (.int .i64 (dp : Nat)) ∧ AtR w w' a b A B ca cb b3 R cr) := fun W h => by
    exact (depth_any a A ca W (by omega) h.two.ta).mono fun e w' h9 => ⟨by rw [h9.1, hdp], h.later h9.2⟩
  have KD2 : Hid (∀ W, AtR w W a b A B ca cb b3 R cr → Calls Tryd.prog 13 #[.agg #[.int .i64 a.kind, .string a.name, .int .i64 a.num, .slice R a.kids.length cr]] W fun e w' => e = .returned (.int .i64 (dp : Nat)) ∧ AtR w w' a b A B ca cb b3 R cr) := fun W h => by
    exact (refdepth_any a.size a R cr W (Nat.le_refl _) (by omega) h.tr).mono fun e w' h9 => ⟨by rw [h9.1, hdp], h.later h9.2⟩
  have KR : Hid (∀ W, AtR w W a b A B ca cb b3 R cr → Calls Tryd.prog 14 #[.agg #[.int .i64 a.kind, .string a.name, .int .i64 a.num, .slice A a.kids.length ca]] W fun e w' => e = .returned (.bool rt) ∧ AtR w w' a b A B ca cb b3 R cr) := fun W h => by
    exact (right_any a A ca W h.two.now.env (by omega) h.two.ta).mono fun e w' h9 => ⟨by rw [h9.1, hrt], h.later h9.2⟩
  have KR2 : Hid (∀ W, AtR w W a b A B ca cb b3 R cr → Calls Tryd.prog 15 #[.agg #[.int .i64 a.kind, .string a.name, .int .i64 a.num, .slice R a.kids.length cr]] W fun e w' => e = .returned (.bool rt) ∧ AtR w w' a b A B ca cb b3 R cr) := fun W h => by
    exact (refright_any a R cr W (by omega) h.tr).mono fun e w' h9 => ⟨by rw [h9.1, hrt], h.later h9.2⟩
  have KM : Hid (∀ W, AtR w W a b A B ca cb b3 R cr → Calls Tryd.prog 16 #[.agg #[.int .i64 a.kind, .string a.name, .int .i64 a.num, .slice A a.kids.length ca], .agg #[.int .i64 b.kind, .string b.name, .int .i64 b.num, .slice B b.kids.length cb]] W fun e w' => e = .returned (.bool es) ∧ AtR w w' a b A B ca cb b3 R cr) := fun W h => by
    exact (same_any a b A B ca cb W (by omega) h.two.ta h.two.tb).mono fun e w' h9 => ⟨by rw [h9.1, hes], h.later h9.2⟩
  have KB : Hid (∀ W, AtR w W a b A B ca cb b3 R cr → Calls Tryd.prog 21 #[.agg #[.int .i64 a.kind, .string a.name, .int .i64 a.num, .slice A a.kids.length ca]] W fun e w' => e = .returned (.bool bd) ∧ AtR w w' a b A B ca cb b3 R cr) := fun W h => by
    exact (binder_any a.kind a.num a.name (.slice A a.kids.length ca) W).mono fun e w' h9 => ⟨by rw [h9.1, hbd], h.later h9.2⟩
  have KB2 : Hid (∀ W, AtR w W a b A B ca cb b3 R cr → Calls Tryd.prog 22 #[.agg #[.int .i64 a.kind, .string a.name, .int .i64 a.num, .slice R a.kids.length cr]] W fun e w' => e = .returned (.bool bd) ∧ AtR w w' a b A B ca cb b3 R cr) := fun W h => by
    exact (refbinder_any a.kind a.num a.name (.slice R a.kids.length cr) W).mono fun e w' h9 => ⟨by rw [h9.1, hbd], h.later h9.2⟩
  have KT : Hid (∀ W, AtR w W a b A B ca cb b3 R cr → Calls Tryd.prog 9 #[.agg #[.int .i64 b.kind, .string b.name, .int .i64 b.num, .slice B b.kids.length cb]] W fun e w' => ∃ R' c', e = .returned (.agg #[.int .i64 b.kind, .string b.name, .int .i64 b.num, .slice R' b.kids.length c']) ∧ AtR w w' a b A B ca cb b3 R cr ∧ TmV w' (· < w'.heap.size) b R' c') := fun W h => by
    exact (refterm_any b.size b B cb W (Nat.le_refl _) (by omega) h.two.tb).mono fun e w' ⟨R', c', h1, h2, h3⟩ => ⟨R', c', h1, h.later h2, h3.kept (fun _ h => h.2) (fun _ _ => rfl)⟩
  have KM2 : Hid (∀ W, AtR w W a b A B ca cb b3 R cr → ∀ R' c', TmV W (· < W.heap.size) b R' c' → Calls Tryd.prog 17 #[.agg #[.int .i64 a.kind, .string a.name, .int .i64 a.num, .slice R a.kids.length cr], .agg #[.int .i64 b.kind, .string b.name, .int .i64 b.num, .slice R' b.kids.length c']] W fun e w' => e = .returned (.bool es) ∧ AtR w w' a b A B ca cb b3 R cr) := fun W h R' c' hb' => by
    exact (refsame_any a.size a b R R' cr c' W (Nat.le_refl _) (by omega) h.tr hb').mono fun e w' h9 => ⟨by rw [h9.1, hes], h.later h9.2⟩
  have KF : Hid (∀ W, AtR w W a b A B ca cb b3 R cr → Calls Tryd.prog 19 #[.agg #[.int .i64 a.kind, .string a.name, .int .i64 a.num, .slice A a.kids.length ca]] W fun e w' => ∃ G d, e = .returned (.slice G (nl : Nat) d) ∧ AtR w w' a b A B ca cb b3 R cr ∧ nl ≤ 4294967296 ∧ Txs w' G (namesOf a) ∧ Below W.heap.size W w' ∧ Names a (namesOf a)) := fun W h => by
    exact (free_one a A ca W (by omega) h.two.ta).mono fun e w' ⟨G, d, h1, h2, h3, h4⟩ => ⟨G, d, by rw [h1, hnl], h.later h4, by have := names_len h2; omega, h3, h4, h2⟩
  have KF2 : Hid (∀ W, AtR w W a b A B ca cb b3 R cr → Names a (namesOf a) → Calls Tryd.prog 20 #[.agg #[.int .i64 a.kind, .string a.name, .int .i64 a.num, .slice R a.kids.length cr]] W fun e w' => ∃ G d, e = .returned (.slice G (nl : Nat) d) ∧ AtR w w' a b A B ca cb b3 R cr ∧ nl ≤ 4294967296 ∧ Txs w' G (namesOf a) ∧ Below W.heap.size W w') := fun W h hN => by
    exact (reffree_any a.size a R cr W (Nat.le_refl _) (by omega) h.tr).mono fun e w' ⟨v, h1, h2, h4⟩ => by
      obtain ⟨G, d, h5, h6⟩ := freeV_one hN h2
      exact ⟨G, d, by rw [h1, h5, hnl], h.later h4, by have := names_len hN; omega, h6, h4⟩
  have KX : Hid (∀ W, AtR w W a b A B ca cb b3 R cr → nl ≤ 4294967296 → ∀ G1 d1 G2 d2, Txs W G1 (namesOf a) → Txs W G2 (namesOf a) → Calls Tryd.prog 18 #[.slice G1 (nl : Nat) d1, .slice G2 (nl : Nat) d2] W fun e w' => e = .returned (.bool true) ∧ AtR w w' a b A B ca cb b3 R cr) := fun W h hl G1 d1 G2 d2 h1 h2 => by
    have k := texts_any (namesOf a) (namesOf a) G1 G2 d1 d2 W h1 h2 (by rw [hnl]; exact hl)
    rw [hnl, decide_eq_true rfl] at k
    exact k.mono fun e w' h9 => ⟨h9.1, h.later h9.2⟩
  replace hsz := Lib.hid hsz
  replace hdp := Lib.hid hdp
  replace hrt := Lib.hid hrt
  replace hnl := Lib.hid hnl
  replace hes := Lib.hid hes
  replace hbd := Lib.hid hbd
  have p0 := cell_of_row _ w.heap.size 0 _ _ _ hR.out.two.c1
  have p1 := cell_of_row _ w.heap.size 1 _ _ _ hR.out.two.c1
  have p2 := cell_of_row _ w.heap.size 2 _ _ _ hR.out.two.c1
  have p3 := cell_of_row _ w.heap.size 3 _ _ _ hR.out.two.c1
  have q0 := cell_of_row _ (w.heap.size + 1) 0 _ _ _ hR.out.two.c2
  have q1 := cell_of_row _ (w.heap.size + 1) 1 _ _ _ hR.out.two.c2
  have q2 := cell_of_row _ (w.heap.size + 1) 2 _ _ _ hR.out.two.c2
  have q3 := cell_of_row _ (w.heap.size + 1) 3 _ _ _ hR.out.two.c2
  have r0 := cell_of_row _ b3 0 _ _ _ hR.out.c3
  have r1 := cell_of_row _ b3 1 _ _ _ hR.out.c3
  have r2 := cell_of_row _ b3 2 _ _ _ hR.out.c3
  have r3 := cell_of_row _ b3 3 _ _ _ hR.out.c3
  go_region_held3 (fun w' => w'.cell? ⟨w.heap.size, 0, none⟩ = some (.int .i64 a.kind) ∧ w'.cell? ⟨w.heap.size, 1, none⟩ = some (.string a.name) ∧ w'.cell? ⟨w.heap.size, 2, none⟩ = some (.int .i64 a.num) ∧ w'.cell? ⟨w.heap.size, 3, none⟩ = some (.slice A a.kids.length ca) ∧ w'.cell? ⟨w.heap.size + 1, 0, none⟩ = some (.int .i64 b.kind) ∧ w'.cell? ⟨w.heap.size + 1, 1, none⟩ = some (.string b.name) ∧ w'.cell? ⟨w.heap.size + 1, 2, none⟩ = some (.int .i64 b.num) ∧ w'.cell? ⟨w.heap.size + 1, 3, none⟩ = some (.slice B b.kids.length cb) ∧ w'.cell? ⟨b3, 0, none⟩ = some (.int .i64 a.kind) ∧ w'.cell? ⟨b3, 1, none⟩ = some (.string a.name) ∧ w'.cell? ⟨b3, 2, none⟩ = some (.int .i64 a.num) ∧ w'.cell? ⟨b3, 3, none⟩ = some (.slice R a.kids.length cr)) (exact ⟨p0, p1, p2, p3, q0, q1, q2, q3, r0, r1, r2, r3⟩) (first | (go_at_call 10; have hO := hR; clear hR p0 p1 p2 p3 q0 q1 q2 q3 r0 r1 r2 r3; refine (KS.out _ hO.out).mono ?_; clear hO; rintro e w9 ⟨rfl, hR⟩; replace hR := Lib.hid hR; have p0 := cell_of_row w9 w.heap.size 0 _ _ _ hR.out.two.c1; have p1 := cell_of_row w9 w.heap.size 1 _ _ _ hR.out.two.c1; have p2 := cell_of_row w9 w.heap.size 2 _ _ _ hR.out.two.c1; have p3 := cell_of_row w9 w.heap.size 3 _ _ _ hR.out.two.c1; have q0 := cell_of_row w9 (w.heap.size + 1) 0 _ _ _ hR.out.two.c2; have q1 := cell_of_row w9 (w.heap.size + 1) 1 _ _ _ hR.out.two.c2; have q2 := cell_of_row w9 (w.heap.size + 1) 2 _ _ _ hR.out.two.c2; have q3 := cell_of_row w9 (w.heap.size + 1) 3 _ _ _ hR.out.two.c2; have r0 := cell_of_row w9 b3 0 _ _ _ hR.out.c3; have r1 := cell_of_row w9 b3 1 _ _ _ hR.out.c3; have r2 := cell_of_row w9 b3 2 _ _ _ hR.out.c3; have r3 := cell_of_row w9 b3 3 _ _ _ hR.out.c3) | (go_at_call 11; have hO := hR; clear hR p0 p1 p2 p3 q0 q1 q2 q3 r0 r1 r2 r3; refine (KS2.out _ hO.out).mono ?_; clear hO; rintro e w9 ⟨rfl, hR⟩; replace hR := Lib.hid hR; have p0 := cell_of_row w9 w.heap.size 0 _ _ _ hR.out.two.c1; have p1 := cell_of_row w9 w.heap.size 1 _ _ _ hR.out.two.c1; have p2 := cell_of_row w9 w.heap.size 2 _ _ _ hR.out.two.c1; have p3 := cell_of_row w9 w.heap.size 3 _ _ _ hR.out.two.c1; have q0 := cell_of_row w9 (w.heap.size + 1) 0 _ _ _ hR.out.two.c2; have q1 := cell_of_row w9 (w.heap.size + 1) 1 _ _ _ hR.out.two.c2; have q2 := cell_of_row w9 (w.heap.size + 1) 2 _ _ _ hR.out.two.c2; have q3 := cell_of_row w9 (w.heap.size + 1) 3 _ _ _ hR.out.two.c2; have r0 := cell_of_row w9 b3 0 _ _ _ hR.out.c3; have r1 := cell_of_row w9 b3 1 _ _ _ hR.out.c3; have r2 := cell_of_row w9 b3 2 _ _ _ hR.out.c3; have r3 := cell_of_row w9 b3 3 _ _ _ hR.out.c3) | (go_at_call 12; have hO := hR; clear hR p0 p1 p2 p3 q0 q1 q2 q3 r0 r1 r2 r3; refine (KD.out _ hO.out).mono ?_; clear hO; rintro e w9 ⟨rfl, hR⟩; replace hR := Lib.hid hR; have p0 := cell_of_row w9 w.heap.size 0 _ _ _ hR.out.two.c1; have p1 := cell_of_row w9 w.heap.size 1 _ _ _ hR.out.two.c1; have p2 := cell_of_row w9 w.heap.size 2 _ _ _ hR.out.two.c1; have p3 := cell_of_row w9 w.heap.size 3 _ _ _ hR.out.two.c1; have q0 := cell_of_row w9 (w.heap.size + 1) 0 _ _ _ hR.out.two.c2; have q1 := cell_of_row w9 (w.heap.size + 1) 1 _ _ _ hR.out.two.c2; have q2 := cell_of_row w9 (w.heap.size + 1) 2 _ _ _ hR.out.two.c2; have q3 := cell_of_row w9 (w.heap.size + 1) 3 _ _ _ hR.out.two.c2; have r0 := cell_of_row w9 b3 0 _ _ _ hR.out.c3; have r1 := cell_of_row w9 b3 1 _ _ _ hR.out.c3; have r2 := cell_of_row w9 b3 2 _ _ _ hR.out.c3; have r3 := cell_of_row w9 b3 3 _ _ _ hR.out.c3) | (go_at_call 13; have hO := hR; clear hR p0 p1 p2 p3 q0 q1 q2 q3 r0 r1 r2 r3; refine (KD2.out _ hO.out).mono ?_; clear hO; rintro e w9 ⟨rfl, hR⟩; replace hR := Lib.hid hR; have p0 := cell_of_row w9 w.heap.size 0 _ _ _ hR.out.two.c1; have p1 := cell_of_row w9 w.heap.size 1 _ _ _ hR.out.two.c1; have p2 := cell_of_row w9 w.heap.size 2 _ _ _ hR.out.two.c1; have p3 := cell_of_row w9 w.heap.size 3 _ _ _ hR.out.two.c1; have q0 := cell_of_row w9 (w.heap.size + 1) 0 _ _ _ hR.out.two.c2; have q1 := cell_of_row w9 (w.heap.size + 1) 1 _ _ _ hR.out.two.c2; have q2 := cell_of_row w9 (w.heap.size + 1) 2 _ _ _ hR.out.two.c2; have q3 := cell_of_row w9 (w.heap.size + 1) 3 _ _ _ hR.out.two.c2; have r0 := cell_of_row w9 b3 0 _ _ _ hR.out.c3; have r1 := cell_of_row w9 b3 1 _ _ _ hR.out.c3; have r2 := cell_of_row w9 b3 2 _ _ _ hR.out.c3; have r3 := cell_of_row w9 b3 3 _ _ _ hR.out.c3) | (go_at_call 14; have hO := hR; clear hR p0 p1 p2 p3 q0 q1 q2 q3 r0 r1 r2 r3; refine (KR.out _ hO.out).mono ?_; clear hO; rintro e w9 ⟨rfl, hR⟩; replace hR := Lib.hid hR; have p0 := cell_of_row w9 w.heap.size 0 _ _ _ hR.out.two.c1; have p1 := cell_of_row w9 w.heap.size 1 _ _ _ hR.out.two.c1; have p2 := cell_of_row w9 w.heap.size 2 _ _ _ hR.out.two.c1; have p3 := cell_of_row w9 w.heap.size 3 _ _ _ hR.out.two.c1; have q0 := cell_of_row w9 (w.heap.size + 1) 0 _ _ _ hR.out.two.c2; have q1 := cell_of_row w9 (w.heap.size + 1) 1 _ _ _ hR.out.two.c2; have q2 := cell_of_row w9 (w.heap.size + 1) 2 _ _ _ hR.out.two.c2; have q3 := cell_of_row w9 (w.heap.size + 1) 3 _ _ _ hR.out.two.c2; have r0 := cell_of_row w9 b3 0 _ _ _ hR.out.c3; have r1 := cell_of_row w9 b3 1 _ _ _ hR.out.c3; have r2 := cell_of_row w9 b3 2 _ _ _ hR.out.c3; have r3 := cell_of_row w9 b3 3 _ _ _ hR.out.c3) | (go_at_call 15; have hO := hR; clear hR p0 p1 p2 p3 q0 q1 q2 q3 r0 r1 r2 r3; refine (KR2.out _ hO.out).mono ?_; clear hO; rintro e w9 ⟨rfl, hR⟩; replace hR := Lib.hid hR; have p0 := cell_of_row w9 w.heap.size 0 _ _ _ hR.out.two.c1; have p1 := cell_of_row w9 w.heap.size 1 _ _ _ hR.out.two.c1; have p2 := cell_of_row w9 w.heap.size 2 _ _ _ hR.out.two.c1; have p3 := cell_of_row w9 w.heap.size 3 _ _ _ hR.out.two.c1; have q0 := cell_of_row w9 (w.heap.size + 1) 0 _ _ _ hR.out.two.c2; have q1 := cell_of_row w9 (w.heap.size + 1) 1 _ _ _ hR.out.two.c2; have q2 := cell_of_row w9 (w.heap.size + 1) 2 _ _ _ hR.out.two.c2; have q3 := cell_of_row w9 (w.heap.size + 1) 3 _ _ _ hR.out.two.c2; have r0 := cell_of_row w9 b3 0 _ _ _ hR.out.c3; have r1 := cell_of_row w9 b3 1 _ _ _ hR.out.c3; have r2 := cell_of_row w9 b3 2 _ _ _ hR.out.c3; have r3 := cell_of_row w9 b3 3 _ _ _ hR.out.c3) | (go_at_call 16; have hO := hR; clear hR p0 p1 p2 p3 q0 q1 q2 q3 r0 r1 r2 r3; refine (KM.out _ hO.out).mono ?_; clear hO; rintro e w9 ⟨rfl, hR⟩; replace hR := Lib.hid hR; have p0 := cell_of_row w9 w.heap.size 0 _ _ _ hR.out.two.c1; have p1 := cell_of_row w9 w.heap.size 1 _ _ _ hR.out.two.c1; have p2 := cell_of_row w9 w.heap.size 2 _ _ _ hR.out.two.c1; have p3 := cell_of_row w9 w.heap.size 3 _ _ _ hR.out.two.c1; have q0 := cell_of_row w9 (w.heap.size + 1) 0 _ _ _ hR.out.two.c2; have q1 := cell_of_row w9 (w.heap.size + 1) 1 _ _ _ hR.out.two.c2; have q2 := cell_of_row w9 (w.heap.size + 1) 2 _ _ _ hR.out.two.c2; have q3 := cell_of_row w9 (w.heap.size + 1) 3 _ _ _ hR.out.two.c2; have r0 := cell_of_row w9 b3 0 _ _ _ hR.out.c3; have r1 := cell_of_row w9 b3 1 _ _ _ hR.out.c3; have r2 := cell_of_row w9 b3 2 _ _ _ hR.out.c3; have r3 := cell_of_row w9 b3 3 _ _ _ hR.out.c3) | (go_at_call 9; have hO := hR; clear hR p0 p1 p2 p3 q0 q1 q2 q3 r0 r1 r2 r3; refine (KT.out _ hO.out).mono ?_; clear hO; rintro e w9 ⟨R9, c9, rfl, hR, hRb⟩; replace hR := Lib.hid hR; replace hRb := Lib.hid hRb; have p0 := cell_of_row w9 w.heap.size 0 _ _ _ hR.out.two.c1; have p1 := cell_of_row w9 w.heap.size 1 _ _ _ hR.out.two.c1; have p2 := cell_of_row w9 w.heap.size 2 _ _ _ hR.out.two.c1; have p3 := cell_of_row w9 w.heap.size 3 _ _ _ hR.out.two.c1; have q0 := cell_of_row w9 (w.heap.size + 1) 0 _ _ _ hR.out.two.c2; have q1 := cell_of_row w9 (w.heap.size + 1) 1 _ _ _ hR.out.two.c2; have q2 := cell_of_row w9 (w.heap.size + 1) 2 _ _ _ hR.out.two.c2; have q3 := cell_of_row w9 (w.heap.size + 1) 3 _ _ _ hR.out.two.c2; have r0 := cell_of_row w9 b3 0 _ _ _ hR.out.c3; have r1 := cell_of_row w9 b3 1 _ _ _ hR.out.c3; have r2 := cell_of_row w9 b3 2 _ _ _ hR.out.c3; have r3 := cell_of_row w9 b3 3 _ _ _ hR.out.c3) | (go_at_call 17; have hO := hR; clear hR p0 p1 p2 p3 q0 q1 q2 q3 r0 r1 r2 r3; refine (KM2.out _ hO.out _ _ hRb.out).mono ?_; clear hO; rintro e w9 ⟨rfl, hR⟩; replace hR := Lib.hid hR; have p0 := cell_of_row w9 w.heap.size 0 _ _ _ hR.out.two.c1; have p1 := cell_of_row w9 w.heap.size 1 _ _ _ hR.out.two.c1; have p2 := cell_of_row w9 w.heap.size 2 _ _ _ hR.out.two.c1; have p3 := cell_of_row w9 w.heap.size 3 _ _ _ hR.out.two.c1; have q0 := cell_of_row w9 (w.heap.size + 1) 0 _ _ _ hR.out.two.c2; have q1 := cell_of_row w9 (w.heap.size + 1) 1 _ _ _ hR.out.two.c2; have q2 := cell_of_row w9 (w.heap.size + 1) 2 _ _ _ hR.out.two.c2; have q3 := cell_of_row w9 (w.heap.size + 1) 3 _ _ _ hR.out.two.c2; have r0 := cell_of_row w9 b3 0 _ _ _ hR.out.c3; have r1 := cell_of_row w9 b3 1 _ _ _ hR.out.c3; have r2 := cell_of_row w9 b3 2 _ _ _ hR.out.c3; have r3 := cell_of_row w9 b3 3 _ _ _ hR.out.c3) | (go_at_call 19; have hO := hR; clear hR p0 p1 p2 p3 q0 q1 q2 q3 r0 r1 r2 r3; refine (KF.out _ hO.out).mono ?_; clear hO; rintro e w9 ⟨G, d, rfl, hR, hl9, hTx, hb9, hN9⟩; replace hR := Lib.hid hR; replace hN9 := Lib.hid hN9; (first | (have hG2 := Lib.hid (hG1.out.later hb9); clear hG1; have hG1 := Lib.hid hTx) | (have hG1 := Lib.hid hTx)); replace hl9 := Lib.hid hl9; clear hb9 hTx; have p0 := cell_of_row w9 w.heap.size 0 _ _ _ hR.out.two.c1; have p1 := cell_of_row w9 w.heap.size 1 _ _ _ hR.out.two.c1; have p2 := cell_of_row w9 w.heap.size 2 _ _ _ hR.out.two.c1; have p3 := cell_of_row w9 w.heap.size 3 _ _ _ hR.out.two.c1; have q0 := cell_of_row w9 (w.heap.size + 1) 0 _ _ _ hR.out.two.c2; have q1 := cell_of_row w9 (w.heap.size + 1) 1 _ _ _ hR.out.two.c2; have q2 := cell_of_row w9 (w.heap.size + 1) 2 _ _ _ hR.out.two.c2; have q3 := cell_of_row w9 (w.heap.size + 1) 3 _ _ _ hR.out.two.c2; have r0 := cell_of_row w9 b3 0 _ _ _ hR.out.c3; have r1 := cell_of_row w9 b3 1 _ _ _ hR.out.c3; have r2 := cell_of_row w9 b3 2 _ _ _ hR.out.c3; have r3 := cell_of_row w9 b3 3 _ _ _ hR.out.c3) | (go_at_call 20; have hO := hR; clear hR p0 p1 p2 p3 q0 q1 q2 q3 r0 r1 r2 r3; refine (KF2.out _ hO.out hN9.out).mono ?_; clear hO; rintro e w9 ⟨G, d, rfl, hR, hl9, hTx, hb9⟩; replace hR := Lib.hid hR; (first | (have hG2 := Lib.hid (hG1.out.later hb9); clear hG1; have hG1 := Lib.hid hTx) | (have hG1 := Lib.hid hTx)); replace hl9 := Lib.hid hl9; clear hb9 hTx; have p0 := cell_of_row w9 w.heap.size 0 _ _ _ hR.out.two.c1; have p1 := cell_of_row w9 w.heap.size 1 _ _ _ hR.out.two.c1; have p2 := cell_of_row w9 w.heap.size 2 _ _ _ hR.out.two.c1; have p3 := cell_of_row w9 w.heap.size 3 _ _ _ hR.out.two.c1; have q0 := cell_of_row w9 (w.heap.size + 1) 0 _ _ _ hR.out.two.c2; have q1 := cell_of_row w9 (w.heap.size + 1) 1 _ _ _ hR.out.two.c2; have q2 := cell_of_row w9 (w.heap.size + 1) 2 _ _ _ hR.out.two.c2; have q3 := cell_of_row w9 (w.heap.size + 1) 3 _ _ _ hR.out.two.c2; have r0 := cell_of_row w9 b3 0 _ _ _ hR.out.c3; have r1 := cell_of_row w9 b3 1 _ _ _ hR.out.c3; have r2 := cell_of_row w9 b3 2 _ _ _ hR.out.c3; have r3 := cell_of_row w9 b3 3 _ _ _ hR.out.c3) | (go_at_call 18; have hO := hR; clear hR p0 p1 p2 p3 q0 q1 q2 q3 r0 r1 r2 r3; refine (KX.out _ hO.out hl9.out _ _ _ _ (by first | exact hG1.out | exact hG2.out) (by first | exact hG1.out | exact hG2.out)).mono ?_; clear hO; rintro e w9 ⟨rfl, hR⟩; replace hR := Lib.hid hR; have p0 := cell_of_row w9 w.heap.size 0 _ _ _ hR.out.two.c1; have p1 := cell_of_row w9 w.heap.size 1 _ _ _ hR.out.two.c1; have p2 := cell_of_row w9 w.heap.size 2 _ _ _ hR.out.two.c1; have p3 := cell_of_row w9 w.heap.size 3 _ _ _ hR.out.two.c1; have q0 := cell_of_row w9 (w.heap.size + 1) 0 _ _ _ hR.out.two.c2; have q1 := cell_of_row w9 (w.heap.size + 1) 1 _ _ _ hR.out.two.c2; have q2 := cell_of_row w9 (w.heap.size + 1) 2 _ _ _ hR.out.two.c2; have q3 := cell_of_row w9 (w.heap.size + 1) 3 _ _ _ hR.out.two.c2; have r0 := cell_of_row w9 b3 0 _ _ _ hR.out.c3; have r1 := cell_of_row w9 b3 1 _ _ _ hR.out.c3; have r2 := cell_of_row w9 b3 2 _ _ _ hR.out.c3; have r3 := cell_of_row w9 b3 3 _ _ _ hR.out.c3) | (go_at_call 21; have hO := hR; clear hR p0 p1 p2 p3 q0 q1 q2 q3 r0 r1 r2 r3; refine (KB.out _ hO.out).mono ?_; clear hO; rintro e w9 ⟨rfl, hR⟩; replace hR := Lib.hid hR; have p0 := cell_of_row w9 w.heap.size 0 _ _ _ hR.out.two.c1; have p1 := cell_of_row w9 w.heap.size 1 _ _ _ hR.out.two.c1; have p2 := cell_of_row w9 w.heap.size 2 _ _ _ hR.out.two.c1; have p3 := cell_of_row w9 w.heap.size 3 _ _ _ hR.out.two.c1; have q0 := cell_of_row w9 (w.heap.size + 1) 0 _ _ _ hR.out.two.c2; have q1 := cell_of_row w9 (w.heap.size + 1) 1 _ _ _ hR.out.two.c2; have q2 := cell_of_row w9 (w.heap.size + 1) 2 _ _ _ hR.out.two.c2; have q3 := cell_of_row w9 (w.heap.size + 1) 3 _ _ _ hR.out.two.c2; have r0 := cell_of_row w9 b3 0 _ _ _ hR.out.c3; have r1 := cell_of_row w9 b3 1 _ _ _ hR.out.c3; have r2 := cell_of_row w9 b3 2 _ _ _ hR.out.c3; have r3 := cell_of_row w9 b3 3 _ _ _ hR.out.c3) | (go_at_call 22; have hO := hR; clear hR p0 p1 p2 p3 q0 q1 q2 q3 r0 r1 r2 r3; refine (KB2.out _ hO.out).mono ?_; clear hO; rintro e w9 ⟨rfl, hR⟩; replace hR := Lib.hid hR; have p0 := cell_of_row w9 w.heap.size 0 _ _ _ hR.out.two.c1; have p1 := cell_of_row w9 w.heap.size 1 _ _ _ hR.out.two.c1; have p2 := cell_of_row w9 w.heap.size 2 _ _ _ hR.out.two.c1; have p3 := cell_of_row w9 w.heap.size 3 _ _ _ hR.out.two.c1; have q0 := cell_of_row w9 (w.heap.size + 1) 0 _ _ _ hR.out.two.c2; have q1 := cell_of_row w9 (w.heap.size + 1) 1 _ _ _ hR.out.two.c2; have q2 := cell_of_row w9 (w.heap.size + 1) 2 _ _ _ hR.out.two.c2; have q3 := cell_of_row w9 (w.heap.size + 1) 3 _ _ _ hR.out.two.c2; have r0 := cell_of_row w9 b3 0 _ _ _ hR.out.c3; have r1 := cell_of_row w9 b3 1 _ _ _ hR.out.c3; have r2 := cell_of_row w9 b3 2 _ _ _ hR.out.c3; have r3 := cell_of_row w9 b3 3 _ _ _ hR.out.c3))
  all_goals go_wp2
  all_goals go_ret
  all_goals exact ⟨rfl, hR.out.two.now.below⟩
end Go.Proofs.YtmomdehilfnpcaaDoor
