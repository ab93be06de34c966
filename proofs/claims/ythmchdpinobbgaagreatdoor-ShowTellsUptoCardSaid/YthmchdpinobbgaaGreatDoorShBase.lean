/-
  The statements' term by bytes: it is right, of at most 181 terms, at most seven deep. Condition: the bytes can be read.
  The walk of chapter 4's examples: they hold. Condition: the variables that are read lie as laid.
  A region that draws its order and calls functions that lay blocks: one walk of the text's order serves, where the worlds are those of a kind. Conditions: as stated.
  What the walks of chapter 4's laws share: a term by bytes in a box. No condition.
-/
import Derived.Test.YthmchdpinobbgaaGreatDoorShTerm
import Derived.Test.YthmchdpinobbgaaGreatDoorTmEx0
import Derived.BigQuiet
namespace Go.Proofs.YthmchdpinobbgaaGreatDoor
open Go.RowKit Go.Shelf Go.Tm Go.Lx Go.Maps
attribute [local go_sem] Oper.semAt_some

/-- bytes behind a slice -/
def BtsS (w : World) (A : Option Addr) (zs : List Int) : Prop :=
  zs ≠ [] → ∃ b off, A = some ⟨b, off, none⟩ ∧ b < w.heap.size ∧ ∀ j, j < zs.length → w.cell? ⟨b, off + j, none⟩ = some (.int .u8 (zs.getD j 0))
theorem BtsS.later {w w' : World} {A : Option Addr} {zs : List Int} (h : BtsS w A zs) (hb : Below w.heap.size w w') : BtsS w' A zs := fun hn => by
  obtain ⟨b, off, hA, hlt, hc⟩ := h hn
  exact ⟨b, off, hA, Nat.lt_of_lt_of_le hlt hb.size, fun j hj => (hb.cell (p := ⟨b, off + j, none⟩) hlt).trans (hc j hj)⟩
theorem right_of {t : Go.Tm.T} (h : Rt t) (hs : t.size ≤ 10000) (hd : t.depth ≤ 200) : rightT t = true := by
  rw [right_iff, decide_eq_true hs, decide_eq_true hd, rt_nodes h]; rfl

set_option maxRecDepth 100000 in
set_option maxHeartbeats 2000000 in
theorem made_any (A : Option Addr) (zs : List Int) (c : Nat) (w : World) (hU : BtsS w A zs) (hz : ∀ z ∈ zs, 0 ≤ z ∧ z ≤ 255) (hl : zs.length ≤ 9223372036854775807) (hc : zs.length ≤ c) (hc2 : c ≤ 9223372036854775807) :
    Calls Tryz.prog 6 #[.slice A zs.length c] w fun e w' => ∃ t A' c', e = .returned (tmV t A' c') ∧ Rt t ∧ t.size ≤ 181 ∧ t.depth ≤ 7 ∧ Below w.heap.size w w' ∧ TmV w' (fun k => w.heap.size ≤ k ∧ k < w'.heap.size) t A' c' := by
  have hy1 : (min (zs.length : Int) 60).toNat = (zs.take 60).length := by rw [List.length_take]; omega
  obtain ⟨n, hn⟩ : ∃ n, (zs.take 60).length = n := ⟨_, rfl⟩
  have hn60 : n ≤ 60 := by rw [← hn, List.length_take]; omega
  have hrng : ∀ j, j < n → 0 ≤ (zs.take 60).getD j 0 ∧ (zs.take 60).getD j 0 ≤ 255 := fun j hj => by
    rw [List.getD_eq_getElem?_getD, List.getElem?_eq_getElem (by rw [hn]; exact hj)]
    exact hz _ (List.mem_of_mem_take (List.getElem_mem _))
  have hW1 : Below w.heap.size w (w.alloc (.cells #[.int .i64 0, .string ⟨#[]⟩, .int .i64 0, .slice none 0 0] 24)) := later_alloc _ _
  have hW2 := hW1.trans ((later_alloc (w.alloc (.cells #[.int .i64 0, .string ⟨#[]⟩, .int .i64 0, .slice none 0 0] 24)) (.cells #[.slice A n c, .int .i64 0] 49)).mono hW1.size)
  have hbx : ((w.alloc (.cells #[.int .i64 0, .string ⟨#[]⟩, .int .i64 0, .slice none 0 0] 24)).alloc (.cells #[.slice A n c, .int .i64 0] 49)).heap[w.heap.size + 1]? = some (.cells #[.slice A n c, .int .i64 0] 49 (0, 0)) := by
    have := World.alloc_heap_new (w.alloc (.cells #[.int .i64 0, .string ⟨#[]⟩, .int .i64 0, .slice none 0 0] 24)) (.cells #[.slice A n c, .int .i64 0] 49)
    rwa [World.size_alloc] at this
  have hrx : ((w.alloc (.cells #[.int .i64 0, .string ⟨#[]⟩, .int .i64 0, .slice none 0 0] 24)).alloc (.cells #[.slice A n c, .int .i64 0] 49)).heap[w.heap.size]? = some (.cells #[.int .i64 0, .string ⟨#[]⟩, .int .i64 0, .slice none 0 0] 24 (0, 0)) :=
    (Below.heap_alloc _ _ _ (by simp)).trans (World.alloc_heap_new w _)
  have hM : Mk ((w.alloc (.cells #[.int .i64 0, .string ⟨#[]⟩, .int .i64 0, .slice none 0 0] 24)).alloc (.cells #[.slice A n c, .int .i64 0] 49)) (w.heap.size + 1) A n c 0 (fun j => (zs.take 60).getD j 0) := by
    refine ⟨hbx, ?_, hrng, Nat.zero_le _, hn60⟩
    by_cases h0 : n = 0
    · exact .inl h0
    · right
      obtain ⟨b, off, hA, hlt, hcc⟩ := hU (by intro e; subst e; simp at hn; omega)
      refine ⟨b, off, hA, by omega, fun j hj => ?_⟩
      have hj2 : j < (zs.take 60).length := by rw [hn]; exact hj
      rw [List.length_take] at hj2
      have h1 := hcc j (by omega)
      rw [List.getD_eq_getElem?_getD] at h1 ⊢
      rw [List.getElem?_take_of_lt (by omega)]
      exact (hW2.cell (p := ⟨b, off + j, none⟩) hlt).trans h1
  have kt := mterm_any 6 (by decide) (w.heap.size + 1) A n c 0 _ _ hM
  obtain ⟨V, hV⟩ : ∃ V, (w.alloc (.cells #[.int .i64 0, .string ⟨#[]⟩, .int .i64 0, .slice none 0 0] 24)).alloc (.cells #[.slice A n c, .int .i64 0] 49) = V := ⟨_, rfl⟩
  rw [hV] at hW2 hrx kt
  have hVs : V.heap.size = w.heap.size + 2 := by rw [← hV]; simp
  have hnz : (zs.take 60).length ≤ c := by rw [List.length_take]; omega
  rw [hn] at hnz hy1
  unfold tmV at kt ⊢
  replace hV := Lib.hid hV
  replace hW2 := Lib.hid hW2
  replace hrx := Lib.hid hrx
  replace kt := Lib.hid kt
  replace hVs := Lib.hid hVs
  clear hM hbx hW1 hrng hU hz
  obtain ⟨N, hN⟩ : ∃ N, zs.length = N := ⟨_, rfl⟩
  rw [hN] at hy1 hl hc ⊢
  replace hN := Lib.hid hN
  replace hn := Lib.hid hn
  go_enter Tryz.func6, Tryz.ntmps6
  go_wp2_with fail
  rw [hV.out]
  refine kt.out.mono ?_
  rintro e w2 ⟨t, A', c', a', rfl, hmd⟩
  have hlV := World.lt_of_get hrx.out
  have hr2 := (hmd.tk.block w.heap.size hlV (by omega)).trans hrx.out
  have f0 := frozen_of_row hr2 0
  have f1 := frozen_of_row hr2 1
  have f2 := frozen_of_row hr2 2
  have f3 := frozen_of_row hr2 3
  have g0 := cell_of_row w2 w.heap.size 0 _ _ _ hr2
  have g1 := cell_of_row w2 w.heap.size 1 _ _ _ hr2
  have g2 := cell_of_row w2 w.heap.size 2 _ _ _ hr2
  have g3 := cell_of_row w2 w.heap.size 3 _ _ _ hr2
  have s9 := set4_same (v0 := .int .i64 t.kind) (v1 := .string t.name) (v2 := .int .i64 t.num) (v3 := .slice A' t.kids.length c') hr2
  have s0 := cell_of_row _ w.heap.size 0 _ _ _ s9
  have s1 := cell_of_row _ w.heap.size 1 _ _ _ s9
  have s2 := cell_of_row _ w.heap.size 2 _ _ _ s9
  have s3 := cell_of_row _ w.heap.size 3 _ _ _ s9
  unfold set4 at s0 s1 s2 s3
  have hlr := World.lt_of_get hr2
  replace s9 := Lib.hid s9
  have hend : Hid (Rt t ∧ t.size ≤ 181 ∧ t.depth ≤ 7 ∧ Below w.heap.size w (set4 w2 w.heap.size (.int .i64 t.kind) (.string t.name) (.int .i64 t.num) (.slice A' t.kids.length c')) ∧ TmV (set4 w2 w.heap.size (.int .i64 t.kind) (.string t.name) (.int .i64 t.num) (.slice A' t.kids.length c')) (fun k => w.heap.size ≤ k ∧ k < (set4 w2 w.heap.size (.int .i64 t.kind) (.string t.name) (.int .i64 t.num) (.slice A' t.kids.length c')).heap.size) t A' c') := by
    have h1 := hmd.few
    have h2 := hmd.maker.le
    have h3 := hVs.out
    have h4 : Below w.heap.size w w2 := hW2.out.trans ((hmd.tk.below (by omega)).mono (by omega))
    refine ⟨hmd.rt, by omega, hmd.deep, set4_below h4 (Nat.le_refl _), hmd.tm.kept (fun k hk => ⟨by omega, by rw [set4_size]; exact hk.2⟩) (fun k hk => set4_other (by omega))⟩
  unfold set4 at hend
  replace hr2 := Lib.hid hr2
  clear hmd kt
  have hres : Tryz.f6.results = #[.cell 2 24] := by kernel_rfl
  replace hres := Lib.hid hres
  go_wp2_with fail
  refine bodyPost_ret (v := .agg #[.int .i64 t.kind, .string t.name, .int .i64 t.num, .slice A' t.kids.length c']) ?_ rfl ⟨t, A', c', rfl, hend.out⟩
  simp only [results, hres.out]
  go_simp
end Go.Proofs.YthmchdpinobbgaaGreatDoor
namespace Go.Proofs.YthmchdpinobbgaaGreatDoor
open Go.RowKit Go.Shelf Go.Tm Go.Lx Go.Maps
attribute [local go_sem] Oper.semAt_some

def sxX : Go.Tm.T := .node 2 ⟨#[120]⟩ 0 []
def sxO : Go.Tm.T := .node 1 ⟨#[]⟩ 1 []
def sxA : Go.Tm.T := .node 12 ⟨#[43]⟩ 0 [sxX, sxO]
def sxF : Go.Tm.T := .node 3 ⟨#[120]⟩ 0 [sxA]
def sxG : Go.Tm.T := .node 10 ⟨#[]⟩ 0 [sxX]
def sxT : Go.Tm.T := .node 9 ⟨#[121]⟩ 0 [sxG, sxO]
def sx0 : Go.Tm.T := .node 0 ⟨#[]⟩ 0 []
theorem sxF_show : showS sxF = ⟨#[102, 117, 110, 32, 120, 32, 61, 62, 32, 40, 32, 120, 32, 43, 32, 49, 32, 41]⟩ := by decide +kernel
theorem sxT_show : showS sxT = ⟨#[116, 114, 121, 32, 40, 32, 33, 32, 120, 32, 41, 32, 119, 105, 116, 104, 32, 121, 32, 61, 62, 32, 49]⟩ := by decide +kernel
theorem sx0_show : showS sx0 = ⟨#[63]⟩ := by decide +kernel
theorem sxO_show : showS sxO = ⟨#[49]⟩ := by decide +kernel
theorem sxF_toks : (showT sxF).length = 8 := by decide +kernel
theorem sx0_toks : (showT sx0).length = 0 := by decide +kernel
theorem sxF_right : Go.Lx.rightL (showT sxF) = true := by decide +kernel
theorem sxF_short : ∀ j, ((showT sxF).getD j ⟨0, [], 0⟩).text.length ≤ 140737488355328 := fun j => by
  by_cases h : j < 8
  · have : ∀ j, j < 8 → ((showT sxF).getD j ⟨0, [], 0⟩).text.length ≤ 140737488355328 := by decide +kernel
    exact this j h
  · rw [List.getD_eq_getElem?_getD, List.getElem?_eq_none (by rw [sxF_toks]; omega)]; decide

/-- what is known: the variables, and that below nothing has turned -/
structure NowS (w W : World) : Prop where
  below : Below w.heap.size w W
  env : EnvS W
theorem NowS.later {w W W' : World} (h : NowS w W) (hb : Below W.heap.size W W') : NowS w W' := ⟨h.below.trans (hb.mono h.below.size), h.env.later hb⟩
theorem NowS.new {w : World} (h : EnvS w) : NowS w w := ⟨Below.refl _ _, h⟩
/-- the examples' terms, in boxes of their own -/
structure ExE (w W : World) (b2 b4 b6 ka kf kg kt : Nat) : Prop where
  now : NowS w W
  tf : TmV W (· < W.heap.size) sxF (some ⟨kf, 0, none⟩) 1
  tt : TmV W (· < W.heap.size) sxT (some ⟨kt, 0, none⟩) 2
  c2 : W.heap[b2]? = some (.cells #[.int .i64 1, .string ⟨#[]⟩, .int .i64 1, .slice none 0 0] 24 (0, 0))
  c4 : W.heap[b4]? = some (.cells #[.int .i64 3, .string ⟨#[120]⟩, .int .i64 0, .slice (some ⟨kf, 0, none⟩) 1 1] 24 (0, 0))
  c6 : W.heap[b6]? = some (.cells #[.int .i64 9, .string ⟨#[121]⟩, .int .i64 0, .slice (some ⟨kt, 0, none⟩) 2 2] 24 (0, 0))
theorem ExE.later {w W W' : World} {b2 b4 b6 ka kf kg kt : Nat} (h : ExE w W b2 b4 b6 ka kf kg kt) (hb : Below W.heap.size W W') : ExE w W' b2 b4 b6 ka kf kg kt :=
  ⟨h.now.later hb, h.tf.later hb, h.tt.later hb, (hb.block _ (World.lt_of_get h.c2)).trans h.c2, (hb.block _ (World.lt_of_get h.c4)).trans h.c4, (hb.block _ (World.lt_of_get h.c6)).trans h.c6⟩
/-- terms by value in a row -/
theorem row_tm {W : World} {b : Nat} {k n : Int} {nm : ByteArray} {ty : TypeId} (hnm : nm.size ≤ 9223372036854775807) (xs : List (Go.Tm.T × Option Addr × Nat)) (c : Nat) (hx : ∀ x ∈ xs, TmV W (· < W.heap.size) x.1 x.2.1 x.2.2) (hb : W.heap[b]? = some (.cells (xs.flatMap tmC).toArray ty (0, 0))) :
    TmV W (· < W.heap.size) (.node k nm n (xs.map (·.1))) (some ⟨b, 0, none⟩) c := by
  refine ⟨hnm, .inr ⟨_, _, rfl, ?_⟩⟩
  refine row_new (p := (· < W.heap.size)) (World.lt_of_get hb) xs 0 hx (fun i v hv => ?_)
  rw [Nat.zero_add, cell_of_row W b i _ _ _ hb, ← hv, List.getElem?_toArray]

set_option maxRecDepth 100000 in
set_option maxHeartbeats 4000000 in
theorem examplesS_any (w : World) (hE : EnvS w) : Calls Tryz.prog 5 #[] w fun e w' => e = .returned (.bool true) ∧ Below w.heap.size w w' := by
  have hX := Lib.hid (NowS.new hE)
  clear hE
  go_enter Tryz.func5, Tryz.ntmps5
  apply wp_seq_k
  intro K0 hK0
  replace hK0 := Lib.hid hK0
  go_wp2_with fail
  refine hK0.out _ _ ?_
  clear hK0
  apply wp_seq_k
  intro K1 hK1
  replace hK1 := Lib.hid hK1
  go_wp2_with fail
  obtain ⟨W1, hW⟩ : ∃ W, w.alloc (.cells #[.int .i64 2, .string ⟨#[120]⟩, .int .i64 0, .slice none 0 0] 24) = W := ⟨_, rfl⟩
  have hb1 : Below w.heap.size w W1 := by
    rw [← hW]
    exact later_alloc _ _
  have hx : Hid (W1.heap[w.heap.size]? = some (.cells #[.int .i64 2, .string ⟨#[120]⟩, .int .i64 0, .slice none 0 0] 24 (0, 0))) := by
    show _ = _
    rw [← hW]
    have := World.alloc_heap_new w (.cells #[.int .i64 2, .string ⟨#[120]⟩, .int .i64 0, .slice none 0 0] 24)
    exact this
  rw [hW]
  refine hK1.out _ _ ?_
  clear hK1 hW
  replace hX := Lib.hid (hX.out.later hb1)
  clear hb1
  apply wp_seq_k
  intro K2 hK2
  replace hK2 := Lib.hid hK2
  go_wp2_with fail
  obtain ⟨W2, hW⟩ : ∃ W, W1.alloc (.cells #[.int .i64 1, .string ⟨#[]⟩, .int .i64 1, .slice none 0 0] 24) = W := ⟨_, rfl⟩
  have hb2 : Below W1.heap.size W1 W2 := by
    rw [← hW]
    exact later_alloc _ _
  have ho : Hid (W2.heap[W1.heap.size]? = some (.cells #[.int .i64 1, .string ⟨#[]⟩, .int .i64 1, .slice none 0 0] 24 (0, 0))) := by
    show _ = _
    rw [← hW]
    have := World.alloc_heap_new W1 (.cells #[.int .i64 1, .string ⟨#[]⟩, .int .i64 1, .slice none 0 0] 24)
    exact this
  rw [hW]
  refine hK2.out _ _ ?_
  clear hK2 hW
  replace hx := Lib.hid ((hb2.block _ (World.lt_of_get hx.out)).trans hx.out)
  replace hX := Lib.hid (hX.out.later hb2)
  clear hb2
  have lx0 := cell_of_row W2 w.heap.size 0 _ _ _ hx.out
  have lx1 := cell_of_row W2 w.heap.size 1 _ _ _ hx.out
  have lx2 := cell_of_row W2 w.heap.size 2 _ _ _ hx.out
  have lx3 := cell_of_row W2 w.heap.size 3 _ _ _ hx.out
  have lo0 := cell_of_row W2 W1.heap.size 0 _ _ _ ho.out
  have lo1 := cell_of_row W2 W1.heap.size 1 _ _ _ ho.out
  have lo2 := cell_of_row W2 W1.heap.size 2 _ _ _ ho.out
  have lo3 := cell_of_row W2 W1.heap.size 3 _ _ _ ho.out
  apply wp_seq_k
  intro K3 hK3
  replace hK3 := Lib.hid hK3
  go_wp2_with fail
  clear lx0 lx1 lx2 lx3 lo0 lo1 lo2 lo3
  obtain ⟨W3, hW⟩ : ∃ W, (W2.alloc (.cells #[.int .i64 2, .string ⟨#[120]⟩, .int .i64 0, .slice none 0 0, .int .i64 1, .string ⟨#[]⟩, .int .i64 1, .slice none 0 0] 24)).alloc (.cells #[.int .i64 12, .string ⟨#[43]⟩, .int .i64 0, .slice (some ⟨W2.heap.size, 0, none⟩) 2 2] 24) = W := ⟨_, rfl⟩
  have hb3 : Below W2.heap.size W2 W3 := by
    rw [← hW]
    exact (later_alloc W2 _).trans ((later_alloc _ _).mono (by simp))
  have hka : Hid (W3.heap[W2.heap.size]? = some (.cells #[.int .i64 2, .string ⟨#[120]⟩, .int .i64 0, .slice none 0 0, .int .i64 1, .string ⟨#[]⟩, .int .i64 1, .slice none 0 0] 24 (0, 0))) := by
    show _ = _
    rw [← hW]
    exact (Below.heap_alloc _ _ _ (by simp)).trans (World.alloc_heap_new W2 _)
  have ha : Hid (W3.heap[(W2.heap.size + 1)]? = some (.cells #[.int .i64 12, .string ⟨#[43]⟩, .int .i64 0, .slice (some ⟨W2.heap.size, 0, none⟩) 2 2] 24 (0, 0))) := by
    show _ = _
    rw [← hW]
    have := World.alloc_heap_new (W2.alloc (.cells #[.int .i64 2, .string ⟨#[120]⟩, .int .i64 0, .slice none 0 0, .int .i64 1, .string ⟨#[]⟩, .int .i64 1, .slice none 0 0] 24)) (.cells #[.int .i64 12, .string ⟨#[43]⟩, .int .i64 0, .slice (some ⟨W2.heap.size, 0, none⟩) 2 2] 24)
    rwa [World.size_alloc] at this
  rw [hW]
  refine hK3.out _ _ ?_
  clear hK3 hW
  replace hx := Lib.hid ((hb3.block _ (World.lt_of_get hx.out)).trans hx.out)
  replace ho := Lib.hid ((hb3.block _ (World.lt_of_get ho.out)).trans ho.out)
  replace hX := Lib.hid (hX.out.later hb3)
  clear hb3
  have la0 := cell_of_row W3 (W2.heap.size + 1) 0 _ _ _ ha.out
  have la1 := cell_of_row W3 (W2.heap.size + 1) 1 _ _ _ ha.out
  have la2 := cell_of_row W3 (W2.heap.size + 1) 2 _ _ _ ha.out
  have la3 := cell_of_row W3 (W2.heap.size + 1) 3 _ _ _ ha.out
  apply wp_seq_k
  intro K4 hK4
  replace hK4 := Lib.hid hK4
  go_wp2_with fail
  clear la0 la1 la2 la3
  obtain ⟨W4, hW⟩ : ∃ W, (W3.alloc (.cells #[.int .i64 12, .string ⟨#[43]⟩, .int .i64 0, .slice (some ⟨W2.heap.size, 0, none⟩) 2 2] 24)).alloc (.cells #[.int .i64 3, .string ⟨#[120]⟩, .int .i64 0, .slice (some ⟨W3.heap.size, 0, none⟩) 1 1] 24) = W := ⟨_, rfl⟩
  have hb4 : Below W3.heap.size W3 W4 := by
    rw [← hW]
    exact (later_alloc W3 _).trans ((later_alloc _ _).mono (by simp))
  have hkf : Hid (W4.heap[W3.heap.size]? = some (.cells #[.int .i64 12, .string ⟨#[43]⟩, .int .i64 0, .slice (some ⟨W2.heap.size, 0, none⟩) 2 2] 24 (0, 0))) := by
    show _ = _
    rw [← hW]
    exact (Below.heap_alloc _ _ _ (by simp)).trans (World.alloc_heap_new W3 _)
  have hf : Hid (W4.heap[(W3.heap.size + 1)]? = some (.cells #[.int .i64 3, .string ⟨#[120]⟩, .int .i64 0, .slice (some ⟨W3.heap.size, 0, none⟩) 1 1] 24 (0, 0))) := by
    show _ = _
    rw [← hW]
    have := World.alloc_heap_new (W3.alloc (.cells #[.int .i64 12, .string ⟨#[43]⟩, .int .i64 0, .slice (some ⟨W2.heap.size, 0, none⟩) 2 2] 24)) (.cells #[.int .i64 3, .string ⟨#[120]⟩, .int .i64 0, .slice (some ⟨W3.heap.size, 0, none⟩) 1 1] 24)
    rwa [World.size_alloc] at this
  rw [hW]
  refine hK4.out _ _ ?_
  clear hK4 hW
  replace hx := Lib.hid ((hb4.block _ (World.lt_of_get hx.out)).trans hx.out)
  replace ho := Lib.hid ((hb4.block _ (World.lt_of_get ho.out)).trans ho.out)
  replace ha := Lib.hid ((hb4.block _ (World.lt_of_get ha.out)).trans ha.out)
  replace hka := Lib.hid ((hb4.block _ (World.lt_of_get hka.out)).trans hka.out)
  replace hX := Lib.hid (hX.out.later hb4)
  clear hb4
  have lx0 := cell_of_row W4 w.heap.size 0 _ _ _ hx.out
  have lx1 := cell_of_row W4 w.heap.size 1 _ _ _ hx.out
  have lx2 := cell_of_row W4 w.heap.size 2 _ _ _ hx.out
  have lx3 := cell_of_row W4 w.heap.size 3 _ _ _ hx.out
  apply wp_seq_k
  intro K5 hK5
  replace hK5 := Lib.hid hK5
  go_wp2_with fail
  clear lx0 lx1 lx2 lx3
  obtain ⟨W5, hW⟩ : ∃ W, (W4.alloc (.cells #[.int .i64 2, .string ⟨#[120]⟩, .int .i64 0, .slice none 0 0] 24)).alloc (.cells #[.int .i64 10, .string ⟨#[]⟩, .int .i64 0, .slice (some ⟨W4.heap.size, 0, none⟩) 1 1] 24) = W := ⟨_, rfl⟩
  have hb5 : Below W4.heap.size W4 W5 := by
    rw [← hW]
    exact (later_alloc W4 _).trans ((later_alloc _ _).mono (by simp))
  have hkg : Hid (W5.heap[W4.heap.size]? = some (.cells #[.int .i64 2, .string ⟨#[120]⟩, .int .i64 0, .slice none 0 0] 24 (0, 0))) := by
    show _ = _
    rw [← hW]
    exact (Below.heap_alloc _ _ _ (by simp)).trans (World.alloc_heap_new W4 _)
  have hg : Hid (W5.heap[(W4.heap.size + 1)]? = some (.cells #[.int .i64 10, .string ⟨#[]⟩, .int .i64 0, .slice (some ⟨W4.heap.size, 0, none⟩) 1 1] 24 (0, 0))) := by
    show _ = _
    rw [← hW]
    have := World.alloc_heap_new (W4.alloc (.cells #[.int .i64 2, .string ⟨#[120]⟩, .int .i64 0, .slice none 0 0] 24)) (.cells #[.int .i64 10, .string ⟨#[]⟩, .int .i64 0, .slice (some ⟨W4.heap.size, 0, none⟩) 1 1] 24)
    rwa [World.size_alloc] at this
  rw [hW]
  refine hK5.out _ _ ?_
  clear hK5 hW
  replace hx := Lib.hid ((hb5.block _ (World.lt_of_get hx.out)).trans hx.out)
  replace ho := Lib.hid ((hb5.block _ (World.lt_of_get ho.out)).trans ho.out)
  replace ha := Lib.hid ((hb5.block _ (World.lt_of_get ha.out)).trans ha.out)
  replace hka := Lib.hid ((hb5.block _ (World.lt_of_get hka.out)).trans hka.out)
  replace hf := Lib.hid ((hb5.block _ (World.lt_of_get hf.out)).trans hf.out)
  replace hkf := Lib.hid ((hb5.block _ (World.lt_of_get hkf.out)).trans hkf.out)
  replace hX := Lib.hid (hX.out.later hb5)
  clear hb5
  have lg0 := cell_of_row W5 (W4.heap.size + 1) 0 _ _ _ hg.out
  have lg1 := cell_of_row W5 (W4.heap.size + 1) 1 _ _ _ hg.out
  have lg2 := cell_of_row W5 (W4.heap.size + 1) 2 _ _ _ hg.out
  have lg3 := cell_of_row W5 (W4.heap.size + 1) 3 _ _ _ hg.out
  have lo0 := cell_of_row W5 W1.heap.size 0 _ _ _ ho.out
  have lo1 := cell_of_row W5 W1.heap.size 1 _ _ _ ho.out
  have lo2 := cell_of_row W5 W1.heap.size 2 _ _ _ ho.out
  have lo3 := cell_of_row W5 W1.heap.size 3 _ _ _ ho.out
  apply wp_seq_k
  intro K6 hK6
  replace hK6 := Lib.hid hK6
  go_wp2_with fail
  clear lg0 lg1 lg2 lg3 lo0 lo1 lo2 lo3
  obtain ⟨W6, hW⟩ : ∃ W, (W5.alloc (.cells #[.int .i64 10, .string ⟨#[]⟩, .int .i64 0, .slice (some ⟨W4.heap.size, 0, none⟩) 1 1, .int .i64 1, .string ⟨#[]⟩, .int .i64 1, .slice none 0 0] 24)).alloc (.cells #[.int .i64 9, .string ⟨#[121]⟩, .int .i64 0, .slice (some ⟨W5.heap.size, 0, none⟩) 2 2] 24) = W := ⟨_, rfl⟩
  have hb6 : Below W5.heap.size W5 W6 := by
    rw [← hW]
    exact (later_alloc W5 _).trans ((later_alloc _ _).mono (by simp))
  have hkt : Hid (W6.heap[W5.heap.size]? = some (.cells #[.int .i64 10, .string ⟨#[]⟩, .int .i64 0, .slice (some ⟨W4.heap.size, 0, none⟩) 1 1, .int .i64 1, .string ⟨#[]⟩, .int .i64 1, .slice none 0 0] 24 (0, 0))) := by
    show _ = _
    rw [← hW]
    exact (Below.heap_alloc _ _ _ (by simp)).trans (World.alloc_heap_new W5 _)
  have ht : Hid (W6.heap[(W5.heap.size + 1)]? = some (.cells #[.int .i64 9, .string ⟨#[121]⟩, .int .i64 0, .slice (some ⟨W5.heap.size, 0, none⟩) 2 2] 24 (0, 0))) := by
    show _ = _
    rw [← hW]
    have := World.alloc_heap_new (W5.alloc (.cells #[.int .i64 10, .string ⟨#[]⟩, .int .i64 0, .slice (some ⟨W4.heap.size, 0, none⟩) 1 1, .int .i64 1, .string ⟨#[]⟩, .int .i64 1, .slice none 0 0] 24)) (.cells #[.int .i64 9, .string ⟨#[121]⟩, .int .i64 0, .slice (some ⟨W5.heap.size, 0, none⟩) 2 2] 24)
    rwa [World.size_alloc] at this
  rw [hW]
  refine hK6.out _ _ ?_
  clear hK6 hW
  replace hx := Lib.hid ((hb6.block _ (World.lt_of_get hx.out)).trans hx.out)
  replace ho := Lib.hid ((hb6.block _ (World.lt_of_get ho.out)).trans ho.out)
  replace ha := Lib.hid ((hb6.block _ (World.lt_of_get ha.out)).trans ha.out)
  replace hka := Lib.hid ((hb6.block _ (World.lt_of_get hka.out)).trans hka.out)
  replace hf := Lib.hid ((hb6.block _ (World.lt_of_get hf.out)).trans hf.out)
  replace hkf := Lib.hid ((hb6.block _ (World.lt_of_get hkf.out)).trans hkf.out)
  replace hg := Lib.hid ((hb6.block _ (World.lt_of_get hg.out)).trans hg.out)
  replace hkg := Lib.hid ((hb6.block _ (World.lt_of_get hkg.out)).trans hkg.out)
  replace hX := Lib.hid (hX.out.later hb6)
  clear hb6
  have tx : TmV W6 (· < W6.heap.size) sxX none 0 := TmV.leaf _ _ (by decide)
  have to9 : TmV W6 (· < W6.heap.size) sxO none 0 := TmV.leaf _ _ (by decide)
  have ta : TmV W6 (· < W6.heap.size) sxA (some ⟨W2.heap.size, 0, none⟩) 2 := row_tm (by decide) [(sxX, none, 0), (sxO, none, 0)] 2 (fun x hx => by
    rcases List.mem_cons.1 hx with rfl | hx
    · exact tx
    · obtain rfl := List.mem_singleton.1 hx
      exact to9) hka.out
  have tf : TmV W6 (· < W6.heap.size) sxF (some ⟨W3.heap.size, 0, none⟩) 1 := row_tm (by decide) [(sxA, some ⟨W2.heap.size, 0, none⟩, 2)] 1 (fun x hx => by
    obtain rfl := List.mem_singleton.1 hx
    exact ta) hkf.out
  have tg : TmV W6 (· < W6.heap.size) sxG (some ⟨W4.heap.size, 0, none⟩) 1 := row_tm (by decide) [(sxX, none, 0)] 1 (fun x hx => by
    obtain rfl := List.mem_singleton.1 hx
    exact tx) hkg.out
  have tt : TmV W6 (· < W6.heap.size) sxT (some ⟨W5.heap.size, 0, none⟩) 2 := row_tm (by decide) [(sxG, some ⟨W4.heap.size, 0, none⟩, 1), (sxO, none, 0)] 2 (fun x hx => by
    rcases List.mem_cons.1 hx with rfl | hx
    · exact tg
    · obtain rfl := List.mem_singleton.1 hx
      exact to9) hkt.out
  have hS : Hid (ExE w W6 W1.heap.size (W3.heap.size + 1) (W5.heap.size + 1) W2.heap.size W3.heap.size W4.heap.size W5.heap.size) := ⟨hX.out, tf, tt, ho.out, hf.out, ht.out⟩
  clear tx to9 ta tf tg tt hX hx ho ha hf hg ht hka hkf hkg hkt
  have c0 := cell_of_row W6 (W3.heap.size + 1) 0 _ _ _ hS.out.c4
  have c1 := cell_of_row W6 (W3.heap.size + 1) 1 _ _ _ hS.out.c4
  have c2 := cell_of_row W6 (W3.heap.size + 1) 2 _ _ _ hS.out.c4
  have c3 := cell_of_row W6 (W3.heap.size + 1) 3 _ _ _ hS.out.c4
  have k1 : Calls Tryz.prog 11 #[.agg #[.int .i64 3, .string ⟨#[120]⟩, .int .i64 0, .slice (some ⟨W3.heap.size, 0, none⟩) 1 1]] W6 fun e w' => e = .returned (.string (showS sxF)) ∧ Below W6.heap.size W6 w' := show_any sxF (some ⟨W3.heap.size, 0, none⟩) 1 W6 hS.out.now.env (by decide) hS.out.tf
  rw [sxF_show] at k1
  replace k1 := Lib.hid k1
  go_wp2_with fail
  refine k1.out.mono ?_
  rintro e1 u1 ⟨rfl, hb⟩
  replace hS := Lib.hid (hS.out.later hb)
  clear hb k1 c0 c1 c2 c3
  have c0 := cell_of_row u1 (W5.heap.size + 1) 0 _ _ _ hS.out.c6
  have c1 := cell_of_row u1 (W5.heap.size + 1) 1 _ _ _ hS.out.c6
  have c2 := cell_of_row u1 (W5.heap.size + 1) 2 _ _ _ hS.out.c6
  have c3 := cell_of_row u1 (W5.heap.size + 1) 3 _ _ _ hS.out.c6
  have k2 : Calls Tryz.prog 11 #[.agg #[.int .i64 9, .string ⟨#[121]⟩, .int .i64 0, .slice (some ⟨W5.heap.size, 0, none⟩) 2 2]] u1 fun e w' => e = .returned (.string (showS sxT)) ∧ Below u1.heap.size u1 w' := show_any sxT (some ⟨W5.heap.size, 0, none⟩) 2 u1 hS.out.now.env (by decide) hS.out.tt
  rw [sxT_show] at k2
  replace k2 := Lib.hid k2
  go_wp2_with fail
  refine k2.out.mono ?_
  rintro e2 u2 ⟨rfl, hb⟩
  replace hS := Lib.hid (hS.out.later hb)
  clear hb k2 c0 c1 c2 c3
  have k3 : Calls Tryz.prog 11 #[.agg #[.int .i64 0, .string ⟨#[]⟩, .int .i64 0, .slice none 0 0]] u2 fun e w' => e = .returned (.string (showS sx0)) ∧ Below u2.heap.size u2 w' := show_any sx0 none 0 u2 hS.out.now.env (by decide) (TmV.leaf _ _ (by decide))
  rw [sx0_show] at k3
  replace k3 := Lib.hid k3
  go_wp2_with fail
  refine k3.out.mono ?_
  rintro e3 u3 ⟨rfl, hb⟩
  replace hS := Lib.hid (hS.out.later hb)
  clear hb k3
  have c0 := cell_of_row u3 (W3.heap.size + 1) 0 _ _ _ hS.out.c4
  have c1 := cell_of_row u3 (W3.heap.size + 1) 1 _ _ _ hS.out.c4
  have c2 := cell_of_row u3 (W3.heap.size + 1) 2 _ _ _ hS.out.c4
  have c3 := cell_of_row u3 (W3.heap.size + 1) 3 _ _ _ hS.out.c4
  have k4 : Calls Tryz.prog 8 #[.agg #[.int .i64 3, .string ⟨#[120]⟩, .int .i64 0, .slice (some ⟨W3.heap.size, 0, none⟩) 1 1]] u3 fun e w' => ∃ B d, e = .returned (.slice B (showT sxF).length d) ∧ X.Toks w' w'.heap.size B (showT sxF) ∧ Below u3.heap.size u3 w' := toks_any sxF (some ⟨W3.heap.size, 0, none⟩) 1 u3 hS.out.now.env (by decide) hS.out.tf
  rw [sxF_toks] at k4
  replace k4 := Lib.hid k4
  go_wp2_with fail
  refine k4.out.mono ?_
  rintro e4 u4 ⟨B4, d4, rfl, hT4, hb⟩
  replace hS := Lib.hid (hS.out.later hb)
  clear hb k4 c0 c1 c2 c3
  clear hT4
  have c0 := cell_of_row u4 (W3.heap.size + 1) 0 _ _ _ hS.out.c4
  have c1 := cell_of_row u4 (W3.heap.size + 1) 1 _ _ _ hS.out.c4
  have c2 := cell_of_row u4 (W3.heap.size + 1) 2 _ _ _ hS.out.c4
  have c3 := cell_of_row u4 (W3.heap.size + 1) 3 _ _ _ hS.out.c4
  have k5 : Calls Tryz.prog 8 #[.agg #[.int .i64 3, .string ⟨#[120]⟩, .int .i64 0, .slice (some ⟨W3.heap.size, 0, none⟩) 1 1]] u4 fun e w' => ∃ B d, e = .returned (.slice B (showT sxF).length d) ∧ X.Toks w' w'.heap.size B (showT sxF) ∧ Below u4.heap.size u4 w' := toks_any sxF (some ⟨W3.heap.size, 0, none⟩) 1 u4 hS.out.now.env (by decide) hS.out.tf
  rw [sxF_toks] at k5
  replace k5 := Lib.hid k5
  go_wp2_with fail
  refine k5.out.mono ?_
  rintro e5 u5 ⟨B5, d5, rfl, hT5, hb⟩
  replace hS := Lib.hid (hS.out.later hb)
  clear hb k5 c0 c1 c2 c3
  have kr := X.rights_any B5 (showT sxF) d5 u5 hS.out.now.env.lx hT5 sxF_short (by rw [sxF_toks]; decide)
  rw [sxF_right, sxF_toks] at kr
  replace kr := Lib.hid kr
  clear hT5
  go_wp2_with fail
  refine kr.out.mono ?_
  rintro e99 u99 ⟨rfl, hb⟩
  replace hS := Lib.hid (hS.out.later hb)
  clear hb kr
  have k6 : Calls Tryz.prog 8 #[.agg #[.int .i64 0, .string ⟨#[]⟩, .int .i64 0, .slice none 0 0]] u99 fun e w' => ∃ B d, e = .returned (.slice B (showT sx0).length d) ∧ X.Toks w' w'.heap.size B (showT sx0) ∧ Below u99.heap.size u99 w' := toks_any sx0 none 0 u99 hS.out.now.env (by decide) (TmV.leaf _ _ (by decide))
  rw [sx0_toks] at k6
  replace k6 := Lib.hid k6
  go_wp2_with fail
  refine k6.out.mono ?_
  rintro e6 u6 ⟨B6, d6, rfl, hT6, hb⟩
  replace hS := Lib.hid (hS.out.later hb)
  clear hb k6
  clear hT6
  have c0 := cell_of_row u6 W1.heap.size 0 _ _ _ hS.out.c2
  have c1 := cell_of_row u6 W1.heap.size 1 _ _ _ hS.out.c2
  have c2 := cell_of_row u6 W1.heap.size 2 _ _ _ hS.out.c2
  have c3 := cell_of_row u6 W1.heap.size 3 _ _ _ hS.out.c2
  have k7 : Calls Tryz.prog 11 #[.agg #[.int .i64 1, .string ⟨#[]⟩, .int .i64 1, .slice none 0 0]] u6 fun e w' => e = .returned (.string (showS sxO)) ∧ Below u6.heap.size u6 w' := show_any sxO none 0 u6 hS.out.now.env (by decide) (TmV.leaf _ _ (by decide))
  rw [sxO_show] at k7
  replace k7 := Lib.hid k7
  go_wp2_with fail
  refine k7.out.mono ?_
  rintro e7 u7 ⟨rfl, hb⟩
  replace hS := Lib.hid (hS.out.later hb)
  clear hb k7 c0 c1 c2 c3
  go_wp2_with fail
  go_ret
  exact ⟨rfl, hS.out.now.below⟩
end Go.Proofs.YthmchdpinobbgaaGreatDoor
namespace Go
/-- ONE WALK OF THE TEXT's ORDER, where the worlds are those of a kind: reads, and calls whose answer is the same in each of them. -/
theorem wp_region_quiet_in {S : Type} (f : S → World) {P : Program} {id : Nat} {Q : Exit → Act → World → Prop} {a : Act} {w : World} {l : List Oper} (hm : P.follows .mixedOrders = true) (hB : Region.lexB .any l.toArray = true) (hC : ∃ s, w.drew = f s)
    (h : wpQuiet P l.toArray (fun w' => ∃ s, w' = f s) (fun a' => ∀ w', (∃ s, w' = f s) → Q .normal a' w') l a) : (Code.region id l.toArray true).wp P Q a w :=
  wp_region_quiet (C := fun w' => ∃ s, w' = f s) hm hB hC (by simpa using h)
end Go
namespace Go.Proofs.YthmchdpinobbgaaGreatDoor
open Go.RowKit Go.Shelf Go.Tm Go.Lx Go.Maps

/-- a term's cells in a box -/
def boxS (t : Go.Tm.T) (A : Option Addr) (c : Nat) : Obj := .cells #[.int .i64 t.kind, .string t.name, .int .i64 t.num, .slice A t.kids.length c] 24
/-- a term by value in a box -/
structure OneT (w W : World) (t : Go.Tm.T) (A : Option Addr) (c b : Nat) : Prop where
  now : NowS w W
  tm : TmV W (· < W.heap.size) t A c
  box : W.heap[b]? = some (.cells #[.int .i64 t.kind, .string t.name, .int .i64 t.num, .slice A t.kids.length c] 24 (0, 0))
theorem OneT.later {w W W' : World} {t : Go.Tm.T} {A : Option Addr} {c b : Nat} (h : OneT w W t A c b) (hb : Below W.heap.size W W') : OneT w W' t A c b :=
  ⟨h.now.later hb, h.tm.later hb, (hb.block _ (World.lt_of_get h.box)).trans h.box⟩
theorem OneT.new {w W : World} {t : Go.Tm.T} {A : Option Addr} {c : Nat} (h : NowS w W) (hT : TmV W (· < W.heap.size) t A c) : OneT w (W.alloc (.cells #[.int .i64 t.kind, .string t.name, .int .i64 t.num, .slice A t.kids.length c] 24)) t A c W.heap.size :=
  ⟨h.later (later_alloc _ _), hT.later (later_alloc _ _), World.alloc_heap_new _ _⟩
/-- such a world -/
structure OneS (w : World) (t : Go.Tm.T) (A : Option Addr) (c b : Nat) where
  W : World
  ok : OneT w W t A c b
theorem showT_right {t : Go.Tm.T} (h : rightT t = true) : showT t = toksT t := by unfold showT; rw [if_pos h]
theorem showS_right {t : Go.Tm.T} (h : rightT t = true) : showS t = X.strOf (printL (toksT t)) := by unfold showS; rw [if_pos h]
theorem TmV.wide {W : World} {n : Nat} {t : Go.Tm.T} {A : Option Addr} {c : Nat} (h : TmV W (fun k => n ≤ k ∧ k < W.heap.size) t A c) : TmV W (· < W.heap.size) t A c := h.kept (fun _ hk => hk.2) (fun _ _ => rfl)
end Go.Proofs.YthmchdpinobbgaaGreatDoor
