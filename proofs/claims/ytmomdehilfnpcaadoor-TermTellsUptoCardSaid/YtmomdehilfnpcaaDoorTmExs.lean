/-
  The walk of the chapter's examples: they hold. Condition: the tables that are read lie as laid.
-/
import Derived.Test.YtmomdehilfnpcaaDoorTmEx
namespace Go.Proofs.YtmomdehilfnpcaaDoor
open Go.RowKit Go.Shelf Go.Tm Go.Maps
attribute [local go_sem] Oper.semAt_some

def exA : Go.Tm.T := Tn 4 ⟨#[]⟩ 0 [Tn 2 ⟨#[120]⟩ 0 [], Tn 2 ⟨#[121]⟩ 0 []]
def exF : Go.Tm.T := Tn 3 ⟨#[120]⟩ 0 [exA]
def exG : Go.Tm.T := Tn 5 ⟨#[120]⟩ 0 [Tn 2 ⟨#[120]⟩ 0 [], exF]
def exB : Go.Tm.T := Tn 3 ⟨#[102, 117, 110]⟩ 0 [exA]
theorem exF_size : exF.size = 4 := by decide +kernel
theorem exG_size : exG.size = 6 := by decide +kernel
theorem exB_size : exB.size = 4 := by decide +kernel
theorem exG_depth : exG.depth = 4 := by decide +kernel
theorem exG_right : rightT exG = true := by decide +kernel
theorem exB_right : rightT exB = false := by decide +kernel
theorem exF_same : eqT exF exF = true := by decide +kernel
theorem exFG_same : eqT exF exG = false := by decide +kernel
theorem ex31_right : rightT (Tn 1 ⟨#[]⟩ 2147483648 []) = false := by decide +kernel
theorem ex0_right : rightT (Tn 0 ⟨#[]⟩ 0 []) = false := by decide +kernel
theorem exL_right : rightT (Tn 12 ⟨#[60]⟩ 0 [Tn 1 ⟨#[]⟩ 1 [], Tn 1 ⟨#[]⟩ 2 []]) = true := by decide +kernel
theorem exM_right : rightT (Tn 12 ⟨#[62]⟩ 0 [Tn 1 ⟨#[]⟩ 1 [], Tn 1 ⟨#[]⟩ 2 []]) = false := by decide +kernel
theorem exF_free (s : ByteArray) : s ∈ [(⟨#[121]⟩ : ByteArray)] ↔ exF.free s = true := by
  have h1 : ¬ (⟨#[120]⟩ : ByteArray) = ⟨#[121]⟩ := by decide
  by_cases hy : (⟨#[121]⟩ : ByteArray) = s
  · subst hy; simp [exF, exA, Tn, T.free, frees, bindK, h1]
  · have hy2 : ¬ s = ⟨#[121]⟩ := fun h => hy h.symm
    by_cases hx : (⟨#[120]⟩ : ByteArray) = s <;> simp [exF, exA, Tn, T.free, frees, bindK, hx, hy, hy2]
theorem exG_free (s : ByteArray) : s ∈ [(⟨#[120]⟩ : ByteArray), ⟨#[121]⟩] ↔ exG.free s = true := by
  have h1 : ¬ (⟨#[120]⟩ : ByteArray) = ⟨#[121]⟩ := by decide
  by_cases hy : (⟨#[121]⟩ : ByteArray) = s
  · subst hy; simp [exG, exF, exA, Tn, T.free, frees, bindK, h1]
  · have hy2 : ¬ s = ⟨#[121]⟩ := fun h => hy h.symm
    by_cases hx : (⟨#[120]⟩ : ByteArray) = s
    · subst hx; simp [exG, exF, exA, Tn, T.free, frees, bindK]
    · have hx2 : ¬ s = ⟨#[120]⟩ := fun h => hx h.symm
      simp [exG, exF, exA, Tn, T.free, frees, bindK, hx, hy, hx2, hy2]

/-- what is known: the tables, and that below nothing has turned -/
structure Now (w W : World) : Prop where
  below : Below w.heap.size w W
  env : Env W
theorem Now.later {w W W' : World} (h : Now w W) (hb : Below W.heap.size W W') : Now w W' := ⟨h.below.trans (hb.mono h.below.size), h.env.later hb⟩
theorem Now.new {w : World} (h : Env w) : Now w w := ⟨Below.refl _ _, h⟩
/-- the examples' three terms, each in a box of its own -/
structure ExS (w W : World) (b1 b2 b3 f g : Nat) : Prop where
  now : Now w W
  tf : TmV W (· < W.heap.size) exF (some ⟨f, 0, none⟩) 1
  tg : TmV W (· < W.heap.size) exG (some ⟨g, 0, none⟩) 2
  c1 : W.heap[b1]? = some (.cells #[.int .i64 3, .string ⟨#[120]⟩, .int .i64 0, .slice (some ⟨f, 0, none⟩) 1 1] 24 (0, 0))
  c2 : W.heap[b2]? = some (.cells #[.int .i64 5, .string ⟨#[120]⟩, .int .i64 0, .slice (some ⟨g, 0, none⟩) 2 2] 24 (0, 0))
  c3 : W.heap[b3]? = some (.cells #[.int .i64 3, .string ⟨#[102, 117, 110]⟩, .int .i64 0, .slice (some ⟨f, 0, none⟩) 1 1] 24 (0, 0))
theorem ExS.later {w W W' : World} {b1 b2 b3 f g : Nat} (h : ExS w W b1 b2 b3 f g) (hb : Below W.heap.size W W') : ExS w W' b1 b2 b3 f g :=
  ⟨h.now.later hb, h.tf.later hb, h.tg.later hb, (hb.block _ (World.lt_of_get h.c1)).trans h.c1, (hb.block _ (World.lt_of_get h.c2)).trans h.c2, (hb.block _ (World.lt_of_get h.c3)).trans h.c3⟩
theorem ExS.tb {w W : World} {b1 b2 b3 f g : Nat} (h : ExS w W b1 b2 b3 f g) : TmV W (· < W.heap.size) exB (some ⟨f, 0, none⟩) 1 := ⟨by decide, h.tf.row⟩

/-- while the second one is made -/
structure Ex1 (w W : World) (b1 f : Nat) : Prop where
  now : Now w W
  tf : TmV W (· < W.heap.size) exF (some ⟨f, 0, none⟩) 1
  c1 : W.heap[b1]? = some (.cells #[.int .i64 3, .string ⟨#[120]⟩, .int .i64 0, .slice (some ⟨f, 0, none⟩) 1 1] 24 (0, 0))
theorem Ex1.later {w W W' : World} {b1 f : Nat} (h : Ex1 w W b1 f) (hb : Below W.heap.size W W') : Ex1 w W' b1 f :=
  ⟨h.now.later hb, h.tf.later hb, (hb.block _ (World.lt_of_get h.c1)).trans h.c1⟩
/-- and when it lies -/
structure Ex2 (w W : World) (b1 b2 f g : Nat) : Prop where
  one : Ex1 w W b1 f
  tg : TmV W (· < W.heap.size) exG (some ⟨g, 0, none⟩) 2
  c2 : W.heap[b2]? = some (.cells #[.int .i64 5, .string ⟨#[120]⟩, .int .i64 0, .slice (some ⟨g, 0, none⟩) 2 2] 24 (0, 0))

theorem wide_size {V w10 : World} (hb : Below V.heap.size V w10) {n : Nat} {t : Go.Tm.T} {A : Option Addr} {c : Nat} (h : TmV w10 (fun x => x < V.heap.size ∨ (n ≤ x ∧ x < w10.heap.size)) t A c) : TmV w10 (· < w10.heap.size) t A c :=
  h.kept (fun x hx => by
    have := hb.size
    show x < _
    rcases hx with hx | hx <;> omega) (fun _ _ => rfl)
theorem ex2_new {w V w10 : World} {b1 f g n : Nat} (h : Ex1 w V b1 f) (hb : Below V.heap.size V w10) (hT : TmV w10 (fun x => x < V.heap.size ∨ (n ≤ x ∧ x < w10.heap.size)) exG (some ⟨g, 0, none⟩) 2) :
    Ex2 w (w10.alloc (.cells #[.int .i64 5, .string ⟨#[120]⟩, .int .i64 0, .slice (some ⟨g, 0, none⟩) 2 2] 24)) b1 w10.heap.size f g :=
  ⟨(h.later hb).later (later_alloc _ _), (wide_size hb hT).later (later_alloc _ _), World.alloc_heap_new _ _⟩
theorem ex2_set {w V w10 : World} {b1 f g n B : Nat} {v0 v1 v2 v3 : Value} (h : Ex1 w V b1 f) (hb : Below V.heap.size V w10) (hV : V.heap.size ≤ B) (hn : B < n) (hz : w10.heap[B]? = some (.cells #[v0, v1, v2, v3] 24 (0, 0))) (hT : TmV w10 (fun x => x < V.heap.size ∨ (n ≤ x ∧ x < w10.heap.size)) exG (some ⟨g, 0, none⟩) 2) :
    Ex2 w ((((w10.setCell ⟨B, 0, none⟩ (.int .i64 5)).setCell ⟨B, 1, none⟩ (.string ⟨#[120]⟩)).setCell ⟨B, 2, none⟩ (.int .i64 0)).setCell ⟨B, 3, none⟩ (.slice (some ⟨g, 0, none⟩) 2 2)) b1 B f g := by
  have hk : ∀ x, x ≠ B → ((((w10.setCell ⟨B, 0, none⟩ (.int .i64 5)).setCell ⟨B, 1, none⟩ (.string ⟨#[120]⟩)).setCell ⟨B, 2, none⟩ (.int .i64 0)).setCell ⟨B, 3, none⟩ (.slice (some ⟨g, 0, none⟩) 2 2)).heap[x]? = w10.heap[x]? := fun x hx =>
    (((Below.heap_setCell _ _ _ _ hx).trans (Below.heap_setCell _ _ _ _ hx)).trans (Below.heap_setCell _ _ _ _ hx)).trans (Below.heap_setCell _ _ _ _ hx)
  have hBl : Below V.heap.size V ((((w10.setCell ⟨B, 0, none⟩ (.int .i64 5)).setCell ⟨B, 1, none⟩ (.string ⟨#[120]⟩)).setCell ⟨B, 2, none⟩ (.int .i64 0)).setCell ⟨B, 3, none⟩ (.slice (some ⟨g, 0, none⟩) 2 2)) :=
    (((hb.setCell (p := ⟨B, 0, none⟩) hV _).setCell (p := ⟨B, 1, none⟩) hV _).setCell (p := ⟨B, 2, none⟩) hV _).setCell (p := ⟨B, 3, none⟩) hV _
  refine ⟨h.later hBl, hT.kept (fun x hx => ?_) (fun x hx => hk x (by rcases hx with hx | hx <;> omega)), ?_⟩
  · have := hb.size
    show x < _
    simp only [World.size_setCell]
    rcases hx with hx | hx <;> omega
  · exact heap_setCell_same _ B 3 _ _ _ (heap_setCell_same _ B 2 _ _ _ (heap_setCell_same _ B 1 _ _ _ (heap_setCell_same w10 B 0 _ _ (.int .i64 5) hz)))
set_option maxRecDepth 100000 in
set_option maxHeartbeats 4000000 in
theorem examples_any (w : World) (hE : Env w) : Calls Tryd.prog 8 #[] w fun e w' => e = .returned (.bool true) ∧ Below w.heap.size w w' := by
  have hX := Lib.hid (Now.new hE)
  clear hE
  go_enter Tryd.func8, Tryd.ntmps8
  go_wp2_with fail
  refine (of_any _ _).mono ?_
  rintro e w1 ⟨rfl, hb1⟩
  replace hX := Lib.hid (hX.out.later hb1)
  clear hb1
  go_wp2_with fail
  refine (of_any _ _).mono ?_
  rintro e w2 ⟨rfl, hb2⟩
  replace hX := Lib.hid (hX.out.later hb2)
  clear hb2
  have k1 := Lib.hid (show Calls Tryd.prog 31 #[.int .i64 4, .string ⟨#[]⟩, .agg #[.int .i64 2, .string ⟨#[120]⟩, .int .i64 0, .slice none 0 0], .agg #[.int .i64 2, .string ⟨#[121]⟩, .int .i64 0, .slice none 0 0]] w2 _ from two_any 4 ⟨#[]⟩ (Tn 2 ⟨#[120]⟩ 0 []) (Tn 2 ⟨#[121]⟩ 0 []) none none 0 0 w2 (by decide) (TmV.leaf _ _ (by decide)) (TmV.leaf _ _ (by decide)))
  go_wp2_with fail
  refine (k1.out).mono ?_
  rintro e w3 ⟨xy, rfl, hb3, hT⟩
  replace hX := Lib.hid (hX.out.later hb3)
  have hT1 : Hid (∀ W, Below w3.heap.size w3 W → ∀ b, W.heap[b]? = some (.cells #[.int .i64 4, .string ⟨#[]⟩, .int .i64 0, .slice (some ⟨xy, 0, none⟩) 2 2] 24 (0, 0)) → TmV W (· < W.heap.size) exF (some ⟨b, 0, none⟩) 1) := fun W hb b hg => by
    refine ⟨by decide, .inr ⟨_, _, rfl, ?_⟩⟩
    refine row_new (p := (· < W.heap.size)) (World.lt_of_get hg) [(exA, some ⟨xy, 0, none⟩, 2)] 0 (fun x hx => ?_) (fun i v hv => ?_)
    · obtain rfl := List.mem_singleton.1 hx
      exact hT.later hb
    · rw [Nat.zero_add, cell_of_row W b i _ _ _ hg, ← hv, ← List.getElem?_toArray]; rfl
  replace hT := Lib.hid hT
  clear k1 hb3
  go_wp2_with fail
  obtain ⟨V, hV⟩ : ∃ V, (w3.alloc (.cells #[.int .i64 4, .string ⟨#[]⟩, .int .i64 0, .slice (some ⟨xy, 0, none⟩) 2 2] 24)).alloc (.cells #[.int .i64 3, .string ⟨#[120]⟩, .int .i64 0, .slice (some ⟨w3.heap.size, 0, none⟩) 1 1] 24) = V := ⟨_, rfl⟩
  have hbV : Below w3.heap.size w3 V := by rw [← hV]; exact (later_alloc w3 _).trans ((later_alloc _ _).mono (by simp))
  have hk0 : V.heap[w3.heap.size]? = some (.cells #[.int .i64 4, .string ⟨#[]⟩, .int .i64 0, .slice (some ⟨xy, 0, none⟩) 2 2] 24 (0, 0)) := by rw [← hV]; exact (Below.heap_alloc _ _ _ (by simp)).trans (World.alloc_heap_new w3 _)
  have hk1 : V.heap[w3.heap.size + 1]? = some (.cells #[.int .i64 3, .string ⟨#[120]⟩, .int .i64 0, .slice (some ⟨w3.heap.size, 0, none⟩) 1 1] 24 (0, 0)) := by rw [← hV]; have := World.alloc_heap_new (w3.alloc (.cells #[.int .i64 4, .string ⟨#[]⟩, .int .i64 0, .slice (some ⟨xy, 0, none⟩) 2 2] 24)) (.cells #[.int .i64 3, .string ⟨#[120]⟩, .int .i64 0, .slice (some ⟨w3.heap.size, 0, none⟩) 1 1] 24); rwa [World.size_alloc] at this
  have hY : Ex1 w V (w3.heap.size + 1) w3.heap.size := ⟨hX.out.later hbV, hT1.out V hbV _ hk0, hk1⟩
  rw [hV]
  clear hT1 hT hbV hk0 hk1 hV hX
  obtain ⟨b1, hb1⟩ : ∃ b, w3.heap.size + 1 = b := ⟨_, rfl⟩
  obtain ⟨f, hf⟩ : ∃ f, w3.heap.size = f := ⟨_, rfl⟩
  rw [hb1, hf] at hY
  rw [hb1, hf]
  clear hb1 hf
  rename_i Q9 K9 hK9
  have hcut : Hid (∀ (W : World) (b2 g : Nat) (v9 v10 v11 : Value), Ex2 w W b1 b2 f g → K9 { tmps := #[.bool false, .pointer (some ⟨b1, 0, none⟩), .pointer (some ⟨b2, 0, none⟩), undef, .agg #[.int .i64 2, .string ⟨#[120]⟩, .int .i64 0, .slice none 0 0], .agg #[.int .i64 2, .string ⟨#[121]⟩, .int .i64 0, .slice none 0 0], .agg #[.int .i64 4, .string ⟨#[]⟩, .int .i64 0, .slice (some ⟨xy, 0, none⟩) 2 2], .slice (some ⟨f, 0, none⟩) 1 1, .agg #[.int .i64 3, .string ⟨#[120]⟩, .int .i64 0, .slice (some ⟨f, 0, none⟩) 1 1], v9, v10, v11, undef, undef, undef, undef, undef, undef, undef, undef, undef, undef, undef, undef, undef, undef, undef, undef, undef, undef, undef, undef, undef, undef, undef, undef, undef, undef, undef, undef, undef, undef, undef, undef, undef, undef, undef, undef, undef, undef, undef, undef, undef, undef, undef, undef, undef, undef, undef, undef, undef, undef, undef, undef, undef, undef, undef, undef, undef, undef, undef, undef, undef, undef, undef, undef, undef, undef, undef, undef, undef, undef, undef, undef, undef, undef], defers := [] } W) := by
    intro W b2 g v9 v10 v11 hZ
    refine hK9 _ _ ?_
    clear hK9 hY
    have c10 := cell_of_row W b1 0 _ _ _ hZ.one.c1
    have c11 := cell_of_row W b1 1 _ _ _ hZ.one.c1
    have c12 := cell_of_row W b1 2 _ _ _ hZ.one.c1
    have c13 := cell_of_row W b1 3 _ _ _ hZ.one.c1
    have ltb := World.lt_of_get hZ.one.c1
    have hS : Hid (ExS w (W.alloc (.cells #[.int .i64 3, .string ⟨#[102, 117, 110]⟩, .int .i64 0, .slice (some ⟨f, 0, none⟩) 1 1] 24)) b1 b2 W.heap.size f g) := ⟨hZ.one.now.later (later_alloc _ _), hZ.one.tf.later (later_alloc _ _), hZ.tg.later (later_alloc _ _), (Below.heap_alloc _ _ _ ltb).trans hZ.one.c1, (Below.heap_alloc _ _ _ (World.lt_of_get hZ.c2)).trans hZ.c2, World.alloc_heap_new _ _⟩
    clear hZ
    have k1 := size_any exF (some ⟨f, 0, none⟩) 1 _ (by rw [exF_size]; decide) hS.out.tf
    rw [exF_size] at k1
    replace k1 := Lib.hid k1
    go_wp2_with fail
    refine k1.out.mono ?_
    rintro e1 u101 ⟨rfl, hb101⟩
    replace hS := Lib.hid (hS.out.later hb101)
    clear hb101 k1
    have q20 := cell_of_row _ b2 0 _ _ _ hS.out.c2
    have q21 := cell_of_row _ b2 1 _ _ _ hS.out.c2
    have q22 := cell_of_row _ b2 2 _ _ _ hS.out.c2
    have q23 := cell_of_row _ b2 3 _ _ _ hS.out.c2
    have k2 := depth_any exG (some ⟨g, 0, none⟩) 2 _ (by rw [exG_size]; decide) hS.out.tg
    rw [exG_depth] at k2
    replace k2 := Lib.hid k2
    go_wp2_with fail
    refine k2.out.mono ?_
    rintro e2 u102 ⟨rfl, hb102⟩
    replace hS := Lib.hid (hS.out.later hb102)
    clear hb102 k2
    clear q20 q21 q22 q23
    have q20 := cell_of_row _ b2 0 _ _ _ hS.out.c2
    have q21 := cell_of_row _ b2 1 _ _ _ hS.out.c2
    have q22 := cell_of_row _ b2 2 _ _ _ hS.out.c2
    have q23 := cell_of_row _ b2 3 _ _ _ hS.out.c2
    have k3 := right_any exG (some ⟨g, 0, none⟩) 2 _ hS.out.now.env (by rw [exG_size]; decide) hS.out.tg
    rw [exG_right] at k3
    replace k3 := Lib.hid k3
    go_wp2_with fail
    refine k3.out.mono ?_
    rintro e3 u103 ⟨rfl, hb103⟩
    replace hS := Lib.hid (hS.out.later hb103)
    clear hb103 k3
    clear q20 q21 q22 q23
    have q30 := cell_of_row _ W.heap.size 0 _ _ _ hS.out.c3
    have q31 := cell_of_row _ W.heap.size 1 _ _ _ hS.out.c3
    have q32 := cell_of_row _ W.heap.size 2 _ _ _ hS.out.c3
    have q33 := cell_of_row _ W.heap.size 3 _ _ _ hS.out.c3
    have k4 := right_any exB (some ⟨f, 0, none⟩) 1 _ hS.out.now.env (by rw [exB_size]; decide) hS.out.tb
    rw [exB_right] at k4
    replace k4 := Lib.hid k4
    go_wp2_with fail
    refine k4.out.mono ?_
    rintro e4 u104 ⟨rfl, hb104⟩
    replace hS := Lib.hid (hS.out.later hb104)
    clear hb104 k4
    clear q30 q31 q32 q33
    have q10 := cell_of_row _ b1 0 _ _ _ hS.out.c1
    have q11 := cell_of_row _ b1 1 _ _ _ hS.out.c1
    have q12 := cell_of_row _ b1 2 _ _ _ hS.out.c1
    have q13 := cell_of_row _ b1 3 _ _ _ hS.out.c1
    have k5 := Lib.hid (free_texts exF (some ⟨f, 0, none⟩) 1 _ (by rw [exF_size]; decide) hS.out.tf)
    go_wp2_with fail
    refine k5.out.mono ?_
    rintro e5 u105 ⟨L, B, d, rfl, hN, hTx, hb105⟩
    replace hS := Lib.hid (hS.out.later hb105)
    obtain rfl := names_eq hN (by decide) (by decide) exF_free
    clear hN hb105 k5
    clear q10 q11 q12 q13
    have hS9 : Hid (ExS w (u105.alloc (.cells #[.string ⟨#[121]⟩] 9)) b1 b2 W.heap.size f g) := hS.out.later (later_alloc _ _)
    have kt : Hid (Calls Tryd.prog 18 #[.slice B 1 d, .slice (some ⟨u105.heap.size, 0, none⟩) 1 1] (u105.alloc (.cells #[.string ⟨#[121]⟩] 9)) fun e w' => e = .returned (.bool true) ∧ Below (u105.alloc (.cells #[.string ⟨#[121]⟩] 9)).heap.size (u105.alloc (.cells #[.string ⟨#[121]⟩] 9)) w') :=
      (texts_any [(⟨#[121]⟩ : ByteArray)] [(⟨#[121]⟩ : ByteArray)] B (some ⟨u105.heap.size, 0, none⟩) d 1 _ (hTx.later (later_alloc _ _)) (txs_box u105 [(⟨#[121]⟩ : ByteArray)] 9) (by decide)).mono fun e w' h => ⟨by rw [h.1, decide_eq_true rfl], h.2⟩
    replace hTx := Lib.hid hTx
    clear hS
    simp only [List.length_cons, List.length_nil, Nat.reduceAdd]
    go_wp2_with fail
    refine kt.out.mono ?_
    rintro e55 u155 ⟨rfl, hb155⟩
    have hS := Lib.hid (hS9.out.later hb155)
    clear hS9 hb155 kt hTx
    have q20 := cell_of_row _ b2 0 _ _ _ hS.out.c2
    have q21 := cell_of_row _ b2 1 _ _ _ hS.out.c2
    have q22 := cell_of_row _ b2 2 _ _ _ hS.out.c2
    have q23 := cell_of_row _ b2 3 _ _ _ hS.out.c2
    have k6 := Lib.hid (free_texts exG (some ⟨g, 0, none⟩) 2 _ (by rw [exG_size]; decide) hS.out.tg)
    go_wp2_with fail
    refine k6.out.mono ?_
    rintro e6 u106 ⟨L, B, d, rfl, hN, hTx, hb106⟩
    replace hS := Lib.hid (hS.out.later hb106)
    obtain rfl := names_eq hN (by decide) (by decide) exG_free
    clear hN hb106 k6
    clear q20 q21 q22 q23
    have hS9 : Hid (ExS w (u106.alloc (.cells #[.string ⟨#[120]⟩, .string ⟨#[121]⟩] 9)) b1 b2 W.heap.size f g) := hS.out.later (later_alloc _ _)
    have kt : Hid (Calls Tryd.prog 18 #[.slice B 2 d, .slice (some ⟨u106.heap.size, 0, none⟩) 2 2] (u106.alloc (.cells #[.string ⟨#[120]⟩, .string ⟨#[121]⟩] 9)) fun e w' => e = .returned (.bool true) ∧ Below (u106.alloc (.cells #[.string ⟨#[120]⟩, .string ⟨#[121]⟩] 9)).heap.size (u106.alloc (.cells #[.string ⟨#[120]⟩, .string ⟨#[121]⟩] 9)) w') :=
      (texts_any [(⟨#[120]⟩ : ByteArray), (⟨#[121]⟩ : ByteArray)] [(⟨#[120]⟩ : ByteArray), (⟨#[121]⟩ : ByteArray)] B (some ⟨u106.heap.size, 0, none⟩) d 2 _ (hTx.later (later_alloc _ _)) (txs_box u106 [(⟨#[120]⟩ : ByteArray), (⟨#[121]⟩ : ByteArray)] 9) (by decide)).mono fun e w' h => ⟨by rw [h.1, decide_eq_true rfl], h.2⟩
    replace hTx := Lib.hid hTx
    clear hS
    simp only [List.length_cons, List.length_nil, Nat.reduceAdd]
    go_wp2_with fail
    refine kt.out.mono ?_
    rintro e56 u156 ⟨rfl, hb156⟩
    have hS := Lib.hid (hS9.out.later hb156)
    clear hS9 hb156 kt hTx
    have kb1 := Lib.hid (fun W : World => show Calls Tryd.prog 21 #[.agg #[.int .i64 3, .string ⟨#[120]⟩, .int .i64 0, .slice (some ⟨f, 0, none⟩) 1 1]] W fun e w' => e = .returned (.bool true) ∧ Below W.heap.size W w' from binder_any 3 0 ⟨#[120]⟩ (.slice (some ⟨f, 0, none⟩) 1 1) W)
    have q10 := cell_of_row _ b1 0 _ _ _ hS.out.c1
    have q11 := cell_of_row _ b1 1 _ _ _ hS.out.c1
    have q12 := cell_of_row _ b1 2 _ _ _ hS.out.c1
    have q13 := cell_of_row _ b1 3 _ _ _ hS.out.c1
    have k7 := kb1.out u156
    replace k7 := Lib.hid k7
    go_wp2_with fail
    refine k7.out.mono ?_
    rintro e7 u107 ⟨rfl, hb107⟩
    replace hS := Lib.hid (hS.out.later hb107)
    clear hb107 k7
    clear q10 q11 q12 q13
    have kb2 := Lib.hid (fun W : World => show Calls Tryd.prog 21 #[.agg #[.int .i64 2, .string ⟨#[120]⟩, .int .i64 0, .slice none 0 0]] W fun e w' => e = .returned (.bool false) ∧ Below W.heap.size W w' from binder_any 2 0 ⟨#[120]⟩ (.slice none 0 0) W)
    have k8 := of_any ⟨#[120]⟩ u107
    replace k8 := Lib.hid k8
    go_wp2_with fail
    refine k8.out.mono ?_
    rintro e8 u108 ⟨rfl, hb108⟩
    replace hS := Lib.hid (hS.out.later hb108)
    clear hb108 k8
    have k9 := kb2.out u108
    replace k9 := Lib.hid k9
    go_wp2_with fail
    refine k9.out.mono ?_
    rintro e9 u109 ⟨rfl, hb109⟩
    replace hS := Lib.hid (hS.out.later hb109)
    clear hb109 k9
    have q10 := cell_of_row _ b1 0 _ _ _ hS.out.c1
    have q11 := cell_of_row _ b1 1 _ _ _ hS.out.c1
    have q12 := cell_of_row _ b1 2 _ _ _ hS.out.c1
    have q13 := cell_of_row _ b1 3 _ _ _ hS.out.c1
    have k10 := same_any exF exF (some ⟨f, 0, none⟩) (some ⟨f, 0, none⟩) 1 1 _ (by rw [exF_size]; decide) hS.out.tf hS.out.tf
    rw [exF_same] at k10
    replace k10 := Lib.hid k10
    go_wp2_with fail
    refine k10.out.mono ?_
    rintro e10 u110 ⟨rfl, hb110⟩
    replace hS := Lib.hid (hS.out.later hb110)
    clear hb110 k10
    clear q10 q11 q12 q13
    have q10 := cell_of_row _ b1 0 _ _ _ hS.out.c1
    have q11 := cell_of_row _ b1 1 _ _ _ hS.out.c1
    have q12 := cell_of_row _ b1 2 _ _ _ hS.out.c1
    have q13 := cell_of_row _ b1 3 _ _ _ hS.out.c1
    have q20 := cell_of_row _ b2 0 _ _ _ hS.out.c2
    have q21 := cell_of_row _ b2 1 _ _ _ hS.out.c2
    have q22 := cell_of_row _ b2 2 _ _ _ hS.out.c2
    have q23 := cell_of_row _ b2 3 _ _ _ hS.out.c2
    have k11 := same_any exF exG (some ⟨f, 0, none⟩) (some ⟨g, 0, none⟩) 1 2 _ (by rw [exF_size]; decide) hS.out.tf hS.out.tg
    rw [exFG_same] at k11
    replace k11 := Lib.hid k11
    go_wp2_with fail
    refine k11.out.mono ?_
    rintro e11 u111 ⟨rfl, hb111⟩
    replace hS := Lib.hid (hS.out.later hb111)
    clear hb111 k11
    clear q10 q11 q12 q13 q20 q21 q22 q23
    have k12 := num_any 2147483648 u111
    replace k12 := Lib.hid k12
    go_wp2_with fail
    refine k12.out.mono ?_
    rintro e12 u112 ⟨rfl, hb112⟩
    replace hS := Lib.hid (hS.out.later hb112)
    clear hb112 k12
    have k13 := right_any (Tn 1 ⟨#[]⟩ 2147483648 []) none 0 _ hS.out.now.env (by decide) (TmV.leaf _ _ (by decide))
    rw [ex31_right] at k13
    replace k13 := Lib.hid k13
    go_wp2_with fail
    refine k13.out.mono ?_
    rintro e13 u113 ⟨rfl, hb113⟩
    replace hS := Lib.hid (hS.out.later hb113)
    clear hb113 k13
    have k14 := right_any (Tn 0 ⟨#[]⟩ 0 []) none 0 _ hS.out.now.env (by decide) (TmV.leaf _ _ (by decide))
    rw [ex0_right] at k14
    replace k14 := Lib.hid k14
    go_wp2_with fail
    refine k14.out.mono ?_
    rintro e14 u114 ⟨rfl, hb114⟩
    replace hS := Lib.hid (hS.out.later hb114)
    clear hb114 k14
    have k15 := num_any 1 u114
    replace k15 := Lib.hid k15
    go_wp2_with fail
    refine k15.out.mono ?_
    rintro e15 u115 ⟨rfl, hb115⟩
    replace hS := Lib.hid (hS.out.later hb115)
    clear hb115 k15
    have k16 := num_any 2 u115
    replace k16 := Lib.hid k16
    go_wp2_with fail
    refine k16.out.mono ?_
    rintro e16 u116 ⟨rfl, hb116⟩
    replace hS := Lib.hid (hS.out.later hb116)
    clear hb116 k16
    have k17 := Lib.hid (fun W : World => show Calls Tryd.prog 31 #[.int .i64 12, .string ⟨#[60]⟩, .agg #[.int .i64 1, .string ⟨#[]⟩, .int .i64 1, .slice none 0 0], .agg #[.int .i64 1, .string ⟨#[]⟩, .int .i64 2, .slice none 0 0]] W _ from two_any 12 ⟨#[60]⟩ (Tn 1 ⟨#[]⟩ 1 []) (Tn 1 ⟨#[]⟩ 2 []) none none 0 0 W (by decide) (TmV.leaf _ _ (by decide)) (TmV.leaf _ _ (by decide)))
    go_wp2_with fail
    refine (k17.out _).mono ?_
    rintro e17 u117 ⟨h17, rfl, hb117, hT17⟩
    replace hS := Lib.hid (hS.out.later hb117)
    clear hb117 k17
    have k18 := right_any (Tn 12 ⟨#[60]⟩ 0 [Tn 1 ⟨#[]⟩ 1 [], Tn 1 ⟨#[]⟩ 2 []]) (some ⟨h17, 0, none⟩) 2 _ hS.out.now.env (by decide) hT17
    rw [exL_right] at k18
    replace k18 := Lib.hid k18
    go_wp2_with fail
    refine k18.out.mono ?_
    rintro e18 u118 ⟨rfl, hb118⟩
    replace hS := Lib.hid (hS.out.later hb118)
    clear hb118 k18
    clear hT17
    have k19 := num_any 1 u118
    replace k19 := Lib.hid k19
    go_wp2_with fail
    refine k19.out.mono ?_
    rintro e19 u119 ⟨rfl, hb119⟩
    replace hS := Lib.hid (hS.out.later hb119)
    clear hb119 k19
    have k20 := num_any 2 u119
    replace k20 := Lib.hid k20
    go_wp2_with fail
    refine k20.out.mono ?_
    rintro e20 u120 ⟨rfl, hb120⟩
    replace hS := Lib.hid (hS.out.later hb120)
    clear hb120 k20
    have k21 := Lib.hid (fun W : World => show Calls Tryd.prog 31 #[.int .i64 12, .string ⟨#[62]⟩, .agg #[.int .i64 1, .string ⟨#[]⟩, .int .i64 1, .slice none 0 0], .agg #[.int .i64 1, .string ⟨#[]⟩, .int .i64 2, .slice none 0 0]] W _ from two_any 12 ⟨#[62]⟩ (Tn 1 ⟨#[]⟩ 1 []) (Tn 1 ⟨#[]⟩ 2 []) none none 0 0 W (by decide) (TmV.leaf _ _ (by decide)) (TmV.leaf _ _ (by decide)))
    go_wp2_with fail
    refine (k21.out _).mono ?_
    rintro e21 u121 ⟨h21, rfl, hb121, hT21⟩
    replace hS := Lib.hid (hS.out.later hb121)
    clear hb121 k21
    have k22 := right_any (Tn 12 ⟨#[62]⟩ 0 [Tn 1 ⟨#[]⟩ 1 [], Tn 1 ⟨#[]⟩ 2 []]) (some ⟨h21, 0, none⟩) 2 _ hS.out.now.env (by decide) hT21
    rw [exM_right] at k22
    replace k22 := Lib.hid k22
    go_wp2_with fail
    refine k22.out.mono ?_
    rintro e22 u122 ⟨rfl, hb122⟩
    replace hS := Lib.hid (hS.out.later hb122)
    clear hb122 k22
    clear hT21
    go_wp2_with fail
    go_ret
    exact ⟨rfl, hS.out.now.below⟩
  have c10 := cell_of_row V b1 0 _ _ _ hY.c1
  have c11 := cell_of_row V b1 1 _ _ _ hY.c1
  have c12 := cell_of_row V b1 2 _ _ _ hY.c1
  have c13 := cell_of_row V b1 3 _ _ _ hY.c1
  have ltb := World.lt_of_get hY.c1
  replace hY := Lib.hid hY
  have K2 : Hid (∀ W', Below V.heap.size V W' → Calls Tryd.prog 31 #[.int .i64 5, .string ⟨#[120]⟩, .agg #[.int .i64 2, .string ⟨#[120]⟩, .int .i64 0, .slice none 0 0], .agg #[.int .i64 3, .string ⟨#[120]⟩, .int .i64 0, .slice (some ⟨f, 0, none⟩) 1 1]] W' fun e w' => ∃ g, e = .returned (.agg #[.int .i64 5, .string ⟨#[120]⟩, .int .i64 0, .slice (some ⟨g, 0, none⟩) 2 2]) ∧ Below W'.heap.size W' w' ∧ TmV w' (fun x => x < V.heap.size ∨ (W'.heap.size ≤ x ∧ x < w'.heap.size)) exG (some ⟨g, 0, none⟩) 2) := fun W' hb' =>
    two_p (· < V.heap.size) 5 ⟨#[120]⟩ (Tn 2 ⟨#[120]⟩ 0 []) exF none (some ⟨f, 0, none⟩) 0 1 W' (by decide) (fun x hx => Nat.lt_of_lt_of_le hx hb'.size) (TmV.leaf _ _ (by decide)) (hY.out.tf.below hb')
  clear hK9
  go_region_with (first | (go_at_call 32; refine (of_any _ _).mono ?_; rintro e9 w9 ⟨rfl, hb9⟩; have hb8 : Hid (Below V.heap.size V w9) := (by first | exact (Below.refl _ V).drew.trans hb9 | exact (((Below.refl _ V).drew).alloc (Nat.le_refl _) _).trans (hb9.mono (by simp))); have c20 := (hb8.out.cell (p := ⟨b1, 0, none⟩) ltb).trans c10; have c21 := (hb8.out.cell (p := ⟨b1, 1, none⟩) ltb).trans c11; have c22 := (hb8.out.cell (p := ⟨b1, 2, none⟩) ltb).trans c12; have c23 := (hb8.out.cell (p := ⟨b1, 3, none⟩) ltb).trans c13; have lt9 := Nat.lt_of_lt_of_le ltb hb8.out.size; (first | (have z9 := Lib.hid ((hb9.block V.heap.size (by simp)).trans (World.alloc_heap_new V.drew _))) | (have z9 := True.intro)); clear hb9) | (go_at_call 31; refine (K2.out _ (by first | exact hb8.out | exact hb8.out.alloc hb8.out.size _)).mono ?_; rintro e10 w10 ⟨g, rfl, hb10, hT10⟩; (first | (have z10 := (hb10.block V.heap.size (World.lt_of_get z9.out)).trans z9.out) | (have z10 := (hb10.block w9.heap.size (by simp)).trans (World.alloc_heap_new w9 _)) | (have z10 := True.intro)); (try (have zc0 := cell_of_row w10 _ 0 _ _ _ z10; have zc1 := cell_of_row w10 _ 1 _ _ _ z10; have zc2 := cell_of_row w10 _ 2 _ _ _ z10; have zc3 := cell_of_row w10 _ 3 _ _ _ z10; have zf0 := frozen_of_row z10 0; have zf1 := frozen_of_row z10 1; have zf2 := frozen_of_row z10 2; have zf3 := frozen_of_row z10 3)); replace z10 := Lib.hid z10; have hb11 : Hid (Below V.heap.size V w10) := (by first | exact hb8.out.trans (hb10.mono hb8.out.size) | exact (hb8.out.alloc hb8.out.size _).trans (hb10.mono (by have := hb8.out.size; simp; omega))); clear hb10; replace hT10 := Lib.hid hT10))
  all_goals first | exact hcut.out _ _ _ _ _ _ (ex2_new hY.out hb11.out hT10.out) | exact hcut.out _ _ _ _ _ _ (ex2_set hY.out hb11.out hb8.out.size (by simp) z10.out hT10.out) | exact hcut.out _ _ _ _ _ _ (ex2_set hY.out hb11.out (Nat.le_refl _) (World.lt_of_get z9.out) z10.out hT10.out)
end Go.Proofs.YtmomdehilfnpcaaDoor
