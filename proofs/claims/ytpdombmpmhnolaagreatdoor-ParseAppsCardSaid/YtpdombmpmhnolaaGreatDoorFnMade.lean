/-
  made: a term that is right, by bytes, told as a function of them. Conditions: the bytes can be read.
-/
import Derived.Test.YtpdombmpmhnolaaGreatDoorFnTerm
namespace Go.Proofs.YtpdombmpmhnolaaGreatDoor.F
open Go.RowKit Go.Shelf Go.Tm Go.Lx Go.Maps
attribute [local go_sem] Oper.semAt_some

/-- what is made of bytes -/
def madeT (zs : List Int) : Go.Tm.T := (mkT (zs.take 60).length (fun j => (zs.take 60).getD j 0) 6 0).1
set_option maxRecDepth 100000 in
set_option maxHeartbeats 2000000 in
theorem made_any (A : Option Addr) (zs : List Int) (c : Nat) (w : World) (hU : BtsS w A zs) (hz : ∀ z ∈ zs, 0 ≤ z ∧ z ≤ 255) (hl : zs.length ≤ 9223372036854775807) (hc : zs.length ≤ c) (hc2 : c ≤ 9223372036854775807) :
    Calls Tryz.prog 19 #[.slice A zs.length c] w fun e w' => ∃ t A' c', e = .returned (tmV t A' c') ∧ t = madeT zs ∧ Rt t ∧ t.size ≤ 181 ∧ t.depth ≤ 7 ∧ Below w.heap.size w w' ∧ TmV w' (fun k => w.heap.size ≤ k ∧ k < w'.heap.size) t A' c' := by
  have hy1 : (min (zs.length : Int) 60).toNat = (zs.take 60).length := by rw [List.length_take]; omega
  obtain ⟨n, hn⟩ : ∃ n, (zs.take 60).length = n := ⟨_, rfl⟩
  have hn60 : n ≤ 60 := by rw [← hn, List.length_take]; omega
  have hrng : ∀ j, j < n → 0 ≤ (zs.take 60).getD j 0 ∧ (zs.take 60).getD j 0 ≤ 255 := fun j hj => by
    rw [List.getD_eq_getElem?_getD, List.getElem?_eq_getElem (by rw [hn]; exact hj)]
    exact hz _ (List.mem_of_mem_take (List.getElem_mem _))
  have hW1 : Below w.heap.size w (w.alloc (.cells #[.int .i64 0, .string ⟨#[]⟩, .int .i64 0, .slice none 0 0] 26)) := later_alloc _ _
  have hW2 := hW1.trans ((later_alloc (w.alloc (.cells #[.int .i64 0, .string ⟨#[]⟩, .int .i64 0, .slice none 0 0] 26)) (.cells #[.slice A n c, .int .i64 0] 81)).mono hW1.size)
  have hbx : ((w.alloc (.cells #[.int .i64 0, .string ⟨#[]⟩, .int .i64 0, .slice none 0 0] 26)).alloc (.cells #[.slice A n c, .int .i64 0] 81)).heap[w.heap.size + 1]? = some (.cells #[.slice A n c, .int .i64 0] 81 (0, 0)) := by
    have := World.alloc_heap_new (w.alloc (.cells #[.int .i64 0, .string ⟨#[]⟩, .int .i64 0, .slice none 0 0] 26)) (.cells #[.slice A n c, .int .i64 0] 81)
    rwa [World.size_alloc] at this
  have hrx : ((w.alloc (.cells #[.int .i64 0, .string ⟨#[]⟩, .int .i64 0, .slice none 0 0] 26)).alloc (.cells #[.slice A n c, .int .i64 0] 81)).heap[w.heap.size]? = some (.cells #[.int .i64 0, .string ⟨#[]⟩, .int .i64 0, .slice none 0 0] 26 (0, 0)) :=
    (Below.heap_alloc _ _ _ (by simp)).trans (World.alloc_heap_new w _)
  have hM : Mk ((w.alloc (.cells #[.int .i64 0, .string ⟨#[]⟩, .int .i64 0, .slice none 0 0] 26)).alloc (.cells #[.slice A n c, .int .i64 0] 81)) (w.heap.size + 1) A n c 0 (fun j => (zs.take 60).getD j 0) := by
    refine ⟨hbx, ?_, hrng, Nat.zero_le _, hn60⟩
    by_cases h0 : n = 0
    · exact .inl h0
    · right
      obtain ⟨b, off, hA, hlt, hcc⟩ := hU (by intro e; subst e; simp at hn; omega)
      refine ⟨b, off, hA, by omega, fun j hj => ?_⟩
      have hj2 : j < (zs.take 60).length := by rw [hn]; exact hj
      rw [List.length_take] at hj2
      have h1 := hcc j (by omega)
      rw [List.getD_eq_getElem?_getD] at h1 ⊢
      rw [List.getElem?_take_of_lt (by omega)]
      exact (hW2.cell (p := ⟨b, off + j, none⟩) hlt).trans h1
  have kt := mterm_any 6 (by decide) (w.heap.size + 1) A n c 0 _ _ hM
  obtain ⟨V, hV⟩ : ∃ V, (w.alloc (.cells #[.int .i64 0, .string ⟨#[]⟩, .int .i64 0, .slice none 0 0] 26)).alloc (.cells #[.slice A n c, .int .i64 0] 81) = V := ⟨_, rfl⟩
  rw [hV] at hW2 hrx kt
  have hVs : V.heap.size = w.heap.size + 2 := by rw [← hV]; simp
  have hnz : (zs.take 60).length ≤ c := by rw [List.length_take]; omega
  rw [hn] at hnz hy1
  unfold tmV at kt ⊢
  replace hV := Lib.hid hV
  replace hW2 := Lib.hid hW2
  replace hrx := Lib.hid hrx
  replace kt := Lib.hid kt
  replace hVs := Lib.hid hVs
  clear hM hbx hW1 hrng hU hz
  obtain ⟨N, hN⟩ : ∃ N, zs.length = N := ⟨_, rfl⟩
  rw [hN] at hy1 hl hc ⊢
  replace hN := Lib.hid hN
  replace hn := Lib.hid hn
  go_enter Tryz.func19, Tryz.ntmps19
  go_wp2_with fail
  rw [hV.out]
  refine kt.out.mono ?_
  rintro e w2 ⟨t, A', c', a', rfl, hmd⟩
  have hlV := World.lt_of_get hrx.out
  have hr2 := (hmd.tk.block w.heap.size hlV (by omega)).trans hrx.out
  have f0 := frozen_of_row hr2 0
  have f1 := frozen_of_row hr2 1
  have f2 := frozen_of_row hr2 2
  have f3 := frozen_of_row hr2 3
  have g0 := cell_of_row w2 w.heap.size 0 _ _ _ hr2
  have g1 := cell_of_row w2 w.heap.size 1 _ _ _ hr2
  have g2 := cell_of_row w2 w.heap.size 2 _ _ _ hr2
  have g3 := cell_of_row w2 w.heap.size 3 _ _ _ hr2
  have s9 := set4_same (v0 := .int .i64 t.kind) (v1 := .string t.name) (v2 := .int .i64 t.num) (v3 := .slice A' t.kids.length c') hr2
  have s0 := cell_of_row _ w.heap.size 0 _ _ _ s9
  have s1 := cell_of_row _ w.heap.size 1 _ _ _ s9
  have s2 := cell_of_row _ w.heap.size 2 _ _ _ s9
  have s3 := cell_of_row _ w.heap.size 3 _ _ _ s9
  unfold set4 at s0 s1 s2 s3
  have hlr := World.lt_of_get hr2
  replace s9 := Lib.hid s9
  have hval : t = madeT zs := by unfold madeT; rw [hn.out, hmd.val]
  have hend : Hid (t = madeT zs ∧ Rt t ∧ t.size ≤ 181 ∧ t.depth ≤ 7 ∧ Below w.heap.size w (set4 w2 w.heap.size (.int .i64 t.kind) (.string t.name) (.int .i64 t.num) (.slice A' t.kids.length c')) ∧ TmV (set4 w2 w.heap.size (.int .i64 t.kind) (.string t.name) (.int .i64 t.num) (.slice A' t.kids.length c')) (fun k => w.heap.size ≤ k ∧ k < (set4 w2 w.heap.size (.int .i64 t.kind) (.string t.name) (.int .i64 t.num) (.slice A' t.kids.length c')).heap.size) t A' c') := by
    have h1 := hmd.few
    have h2 := hmd.maker.le
    have h3 := hVs.out
    have h4 : Below w.heap.size w w2 := hW2.out.trans ((hmd.tk.below (by omega)).mono (by omega))
    refine ⟨hval, hmd.rt, by omega, hmd.deep, set4_below h4 (Nat.le_refl _), hmd.tm.kept (fun k hk => ⟨by omega, by rw [set4_size]; exact hk.2⟩) (fun k hk => set4_other (by omega))⟩
  unfold set4 at hend
  replace hr2 := Lib.hid hr2
  replace hval := Lib.hid hval
  clear hmd kt
  have hres : Tryz.f19.results = #[.cell 2 26] := by kernel_rfl
  replace hres := Lib.hid hres
  go_wp2_with fail
  refine bodyPost_ret (v := .agg #[.int .i64 t.kind, .string t.name, .int .i64 t.num, .slice A' t.kids.length c']) ?_ rfl ⟨t, A', c', rfl, hend.out⟩
  simp only [results, hres.out]
  go_simp
end Go.Proofs.YtpdombmpmhnolaaGreatDoor.F
