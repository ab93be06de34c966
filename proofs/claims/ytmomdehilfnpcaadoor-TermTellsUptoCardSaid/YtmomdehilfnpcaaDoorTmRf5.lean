/-
  The statements' turning of a term into the reference's. Conditions: the term can be read; its size is at most 4194304.
-/
import Derived.Test.YtmomdehilfnpcaaDoorTmRf4
import Derived.Deep.RegionLaw
namespace Go.Proofs.YtmomdehilfnpcaaDoor
open Go.RowKit Go.Shelf Go.Tm

theorem row_cells {W : World} {b : Nat} {x : Go.Tm.T × Option Addr × Nat} {ty : TypeId} (h : W.heap[b]? = some (.cells #[.int .i64 x.1.kind, .string x.1.name, .int .i64 x.1.num, .slice x.2.1 x.1.kids.length x.2.2] ty (0, 0))) (j : Nat) (u : Value) (hj : (tmC x)[j]? = some u) : W.cell? ((⟨b, 0, none⟩ : Addr).add j) = some u := by
  have e : (⟨b, 0, none⟩ : Addr).add j = ⟨b, j, none⟩ := by
    unfold Addr.add
    split
    · rename_i h0; subst h0; rfl
    · simp
  rw [e, cell_of_row _ _ j _ _ _ h, ← hj]
  show ((tmC x).toArray)[j]? = _
  rw [List.getElem?_toArray]
theorem row_one (x : Go.Tm.T × Option Addr × Nat) (u : Value) (hu : u ∈ tmC x) : u.oneCell' = true := by
  unfold tmC at hu
  simp at hu
  rcases hu with rfl | rfl | rfl | rfl <;> rfl

set_option maxRecDepth 100000 in
set_option maxHeartbeats 4000000 in
theorem refterm_any : ∀ (n : Nat) (t : Go.Tm.T) (A : Option Addr) (c : Nat) (w : World), t.size ≤ n → t.size ≤ 4194304 → TmV w (· < w.heap.size) t A c →
    Calls Tryd.prog 9 #[tmV t A c] w fun e w' => ∃ A' c', e = .returned (tmV t A' c') ∧ Below w.heap.size w w' ∧ TmV w' (fun k => w.heap.size ≤ k ∧ k < w'.heap.size) t A' c'
  | 0, t, _, _, _, h, _, _ => by have := kids_lt t; omega
  | n + 1, t, A, c, w, hn, hz, hT => by
    have IH := Lib.hid (refterm_any n)
    have hks := kids_lt t
    have hLs := len_sizes t.kids
    have hnz := Lib.hid hT.nsz
    replace hT := Lib.hid hT
    unfold tmV
    obtain ⟨L, hL⟩ : ∃ L, t.kids.length = L := ⟨_, rfl⟩
    rw [hL] at hLs
    rw [hL]
    have hc := chain_below w [(.cells #[.int .i64 t.kind, .string t.name, .int .i64 t.num, .slice A L c] 24), (.cells #[.int .i64 0, .string ⟨#[]⟩, .int .i64 0, .slice none 0 0] 28), (.cells #[.int .i64 t.kind, .string t.name, .int .i64 t.num, .slice none 0 0] 28)]
    have hx1 := chain_get w [(.cells #[.int .i64 t.kind, .string t.name, .int .i64 t.num, .slice A L c] 24), (.cells #[.int .i64 0, .string ⟨#[]⟩, .int .i64 0, .slice none 0 0] 28), (.cells #[.int .i64 t.kind, .string t.name, .int .i64 t.num, .slice none 0 0] 28)] 0 _ rfl
    have hx3 := chain_get w [(.cells #[.int .i64 t.kind, .string t.name, .int .i64 t.num, .slice A L c] 24), (.cells #[.int .i64 0, .string ⟨#[]⟩, .int .i64 0, .slice none 0 0] 28), (.cells #[.int .i64 t.kind, .string t.name, .int .i64 t.num, .slice none 0 0] 28)] 2 _ rfl
    have hx2 := chain_get w [(.cells #[.int .i64 t.kind, .string t.name, .int .i64 t.num, .slice A L c] 24), (.cells #[.int .i64 0, .string ⟨#[]⟩, .int .i64 0, .slice none 0 0] 28), (.cells #[.int .i64 t.kind, .string t.name, .int .i64 t.num, .slice none 0 0] 28)] 1 _ rfl
    have hT2 := hT.out.later hc.1
    obtain ⟨V, hV⟩ : ∃ V, [(.cells #[.int .i64 t.kind, .string t.name, .int .i64 t.num, .slice A L c] 24), (.cells #[.int .i64 0, .string ⟨#[]⟩, .int .i64 0, .slice none 0 0] 28), (.cells #[.int .i64 t.kind, .string t.name, .int .i64 t.num, .slice none 0 0] 28)].foldl World.alloc w = V := ⟨_, rfl⟩
    rw [hV] at hc hx1 hx2 hx3 hT2
    obtain ⟨i0, hi, hi2⟩ := Option.map_eq_some_iff.1 info_ref3
    obtain ⟨hz0, hz1, hz2⟩ : i0.zero = some (.agg #[.int .i64 0, .string ⟨#[]⟩, .int .i64 0, .slice none 0 0]) ∧ i0.size = 4 ∧ i0.bytes = 56 := by
      injection hi2 with h1 h2; injection h2 with h2 h3; exact ⟨h1, h2, h3⟩
    replace hi := Lib.hid hi
    replace hz0 := Lib.hid hz0
    replace hz1 := Lib.hid hz1
    replace hz2 := Lib.hid hz2
    clear hi2
    have hR0 := Lib.hid (RS.first (t := t) hc.1 hx3 (by omega))
    have hVz := hc.2
    replace hc := Lib.hid hc
    replace hx1 := Lib.hid hx1
    replace hx2 := Lib.hid hx2
    replace hx3 := Lib.hid hx3
    replace hT2 := Lib.hid hT2
    replace hL := Lib.hid hL
    have hVz2 : V.heap.size = w.heap.size + 3 := by rw [hVz]; rfl
    replace hVz := Lib.hid hVz
    replace hV : Hid (((w.alloc (.cells #[.int .i64 t.kind, .string t.name, .int .i64 t.num, .slice A L c] 24)).alloc (.cells #[.int .i64 0, .string ⟨#[]⟩, .int .i64 0, .slice none 0 0] 28)).alloc (.cells #[.int .i64 t.kind, .string t.name, .int .i64 t.num, .slice none 0 0] 28) = V) := hV
    replace hVz2 := Lib.hid hVz2
    go_enter Tryd.func9, Tryd.ntmps9
    go_wp2_with fail
    rw [hV.out]
    go_loopw [4] (fun i wr => ∃ (k : Nat) (v : Value) (xs : List (Go.Tm.T × Option Addr × Nat)), k ≤ L ∧ i = .int .i64 k ∧ Hid (xs.map (·.1) = t.kids.take k) ∧ Hid (RS w wr (w.heap.size + 2) t v xs) ∧ Hid (Below (w.heap.size + 2) V wr) ∧ Hid (TmV wr (· < w.heap.size) t A c)) (fun i _ => L - (intOf i).toNat)
    case atStart => exact ⟨0, _, [], Nat.zero_le _, rfl, by show _ = _; rw [List.take_zero]; rfl, hR0.out, Below.refl _ _, hT.out.below hc.out.1⟩
    case round =>
      clear hR0 hT2 hx3
      obtain ⟨k, v, xs, hk, rfl, hM, hR, hB, hTr⟩ := hrel
      obtain ⟨b, hb⟩ : ∃ b, w.heap.size + 2 = b := ⟨_, rfl⟩
      have y1 : wr.heap[w.heap.size]? = some _ := (hB.out.block w.heap.size (by omega)).trans hx1.out
      have y2 : wr.heap[w.heap.size + 1]? = some _ := (hB.out.block (w.heap.size + 1) (by omega)).trans hx2.out
      have p3 := cell_of_row wr w.heap.size 3 _ _ _ y1
      have q3 := cell_of_row wr (w.heap.size + 2) 3 _ _ _ hR.out.box
      have hl1 := World.lt_of_get y1
      have hl2 := World.lt_of_get y2
      have hl3 := World.lt_of_get hR.out.box
      replace y2 := Lib.hid y2
      clear hb b
      by_cases hlt : k < L
      · have hk9 : k < t.kids.length := by rw [hL.out]; exact hlt
        obtain ⟨kb, ko, rfl, hrow⟩ := hTr.out.row.resolve_left (fun e => by rw [e] at hk9; exact absurd hk9 (Nat.not_lt_zero _))
        obtain ⟨A2, c2, hh, hv⟩ := node_tmv (hrow.get k hk9)
        have hsn := sizes_snoc t.kids k hk9
        have hle := sizes_take_le t.kids (k + 1)
        have htk : t.kids.take (k + 1) = t.kids.take k ++ [t.kids.getD k default] := by
          rw [List.take_succ_eq_append_getElem hk9, List.getD_eq_getElem?_getD, List.getElem?_eq_getElem hk9]; rfl
        obtain ⟨x, hx⟩ : ∃ x, t.kids.getD k default = x := ⟨_, rfl⟩
        rw [hx] at hh hv hsn htk
        clear hrow
        have hxn : x.size ≤ n := by omega
        have hxz : x.size ≤ 4194304 := by omega
        have hxl : xs.length = k := by have := congrArg List.length hM.out; rw [List.length_map, List.length_take] at this; omega
        clear hsn hle
        replace hx := Lib.hid hx
        replace htk := Lib.hid htk
        have c0 := hh.kind
        have c1 := hh.name
        have c2' := hh.num
        have c3 := hh.kids
        replace hh := Lib.hid hh
        have kk := Lib.hid (IH.out x A2 c2 wr.drew hxn hxz (hv.kept (fun k hk => by have := hB.out.size; show k < wr.heap.size; omega) (fun _ _ => rfl)))
        clear hv
        unfold tmV at kk
        have hkb : kb < wr.heap.size := by
          have h1 := hh.out.at_
          omega
        replace y1 := Lib.hid y1
        replace hxl := Lib.hid hxl
        go_wp2_with fail
        go_region_law (first
          | (refine step_append_at rfl (.tmp 20) (.tmp 27) 26 rfl (w.heap.size + 2 + 1) 28 i0 (.agg #[.int .i64 0, .string ⟨#[]⟩, .int .i64 0, .slice none 0 0]) 4 56 Tryd.underlying26 hi.out hz0.out hz1.out hz2.out rfl (by decide) _ _ _ (by simp [Act.eval]) hR10.out.own ⟨w9.heap.size, 0, none⟩ 1 1 (tmC (x, A9, c9)) (by simp [Act.eval]) rfl (row_cells (x := (x, A9, c9)) (World.alloc_heap_new w9 _)) (row_one _) (by unfold maxLen; rw [hxl.out]; omega) (by rw [hxl.out]; omega) (World.lt_of_get hR10.out.box) ?_
             intro v'' w10 hown hgrow hat
             obtain ⟨A8, n8, c8, rfl⟩ := own_slice hown
             have hb10 := hR10.out.boxed hgrow
             have z3 := cell_of_row w10 (w.heap.size + 2) 3 _ _ _ hb10
             have zf3 := frozen_of_row hb10 3
             have hl10 := World.lt_of_get hb10
             have hput := Lib.hid (hR10.out.put (x := (x, A9, c9)) hK9.out hgrow hown hat)
             have hB10 := Lib.hid ((hB9.out.trans ((hR10.out.grown hgrow).mono (by omega))).setCell (p := ⟨w.heap.size + 2, 3, none⟩) (Nat.le_refl _) (.slice A8 n8 c8))
             clear hown hgrow hb10 hat)
          | (go_simp; go_at_call 9; refine kk.out.mono ?_; rintro e9 w9 ⟨A9, c9, rfl, hb9, hT9⟩
             have hR9 := Lib.hid (hR.out.later ((Below.refl _ wr).drew.trans hb9))
             have hR10 := Lib.hid (hR9.out.later (later_alloc w9 (.cells #[.int .i64 x.kind, .string x.name, .int .i64 x.num, .slice A9 x.kids.length c9] 28)))
             have z0 := cell_of_row w9 (w.heap.size + 2) 3 _ _ _ hR9.out.box
             have hl9 := World.lt_of_get hR9.out.box
             have hK9 : Hid (TmV (w9.alloc (.cells #[.int .i64 x.kind, .string x.name, .int .i64 x.num, .slice A9 x.kids.length c9] 28)) (KidB (w9.alloc (.cells #[.int .i64 x.kind, .string x.name, .int .i64 x.num, .slice A9 x.kids.length c9] 28)) (w.heap.size + 2) v) x A9 c9) :=
               hT9.kept (fun g hg => ⟨Nat.lt_of_lt_of_le hl3 hg.1, by simp; exact Nat.lt_succ_of_lt hg.2, Nat.ne_of_gt (Nat.lt_of_lt_of_le hl3 hg.1), fun e => by
                 obtain ⟨cur, hc9, _⟩ := ownsRow_at hR.out.own e
                 have h8 := World.lt_of_get hc9
                 exact absurd (Nat.lt_of_lt_of_le h8 hg.1) (Nat.lt_irrefl _)⟩) (fun g hg => (later_alloc w9 _).block g hg.2)
             have hB9 := Lib.hid ((hB.out.trans (((Below.refl _ wr).drew.trans hb9).mono (Nat.le_of_lt hl3))).trans ((later_alloc w9 (.cells #[.int .i64 x.kind, .string x.name, .int .i64 x.num, .slice A9 x.kids.length c9] 28)).mono (Nat.le_of_lt hl9)))
             clear hb9 hT9))
        all_goals go_wp2_with fail
        all_goals go_roundw
        all_goals first
          | exact ⟨k + 1, _, _, by omega, by go_num, (by show _ = _; rw [List.map_append, hM.out, htk.out]; rfl), hput.out, hB10.out, hTr.out.kept (fun _ h => h) (fun g hg => (hB10.out.block g (by omega)).trans (hB.out.block g (by omega)).symm)⟩
          | (simp [intOf]; omega)
      · obtain rfl : k = L := by omega
        obtain ⟨A9, c9, rfl, hF⟩ := hR.out.last hnz.out (by rw [hM.out, ← hL.out, List.take_length])
        have hbx := hR.out.box
        have hbw := Lib.hid hR.out.below
        replace hF := Lib.hid hF
        clear hlt hR hM hTr hB q3 y1 hk
        have e0 := cell_of_row wr (w.heap.size + 2) 0 _ _ _ hbx
        have e1 := cell_of_row wr (w.heap.size + 2) 1 _ _ _ hbx
        have e2 := cell_of_row wr (w.heap.size + 2) 2 _ _ _ hbx
        have e3 := cell_of_row wr (w.heap.size + 2) 3 _ _ _ hbx
        have f0 := frozen_of_row y2.out 0
        have f1 := frozen_of_row y2.out 1
        have f2 := frozen_of_row y2.out 2
        have f3 := frozen_of_row y2.out 3
        have g0 := cell_of_row wr (w.heap.size + 1) 0 _ _ _ y2.out
        have g1 := cell_of_row wr (w.heap.size + 1) 1 _ _ _ y2.out
        have g2 := cell_of_row wr (w.heap.size + 1) 2 _ _ _ y2.out
        have g3 := cell_of_row wr (w.heap.size + 1) 3 _ _ _ y2.out
        have s9 := set4_same (v0 := .int .i64 t.kind) (v1 := .string t.name) (v2 := .int .i64 t.num) (v3 := .slice A9 t.kids.length c9) y2.out
        have s0 := cell_of_row _ (w.heap.size + 1) 0 _ _ _ s9
        have s1 := cell_of_row _ (w.heap.size + 1) 1 _ _ _ s9
        have s2 := cell_of_row _ (w.heap.size + 1) 2 _ _ _ s9
        have s3 := cell_of_row _ (w.heap.size + 1) 3 _ _ _ s9
        unfold set4 at s0 s1 s2 s3
        replace s9 := Lib.hid s9
        replace hbx := Lib.hid hbx
        have hend : Hid (Below w.heap.size w (set4 wr (w.heap.size + 1) (.int .i64 t.kind) (.string t.name) (.int .i64 t.num) (.slice A9 t.kids.length c9)) ∧ TmV (set4 wr (w.heap.size + 1) (.int .i64 t.kind) (.string t.name) (.int .i64 t.num) (.slice A9 t.kids.length c9)) (fun g => w.heap.size ≤ g ∧ g < (set4 wr (w.heap.size + 1) (.int .i64 t.kind) (.string t.name) (.int .i64 t.num) (.slice A9 t.kids.length c9)).heap.size) t A9 c9) :=
          ⟨set4_below hbw.out (by omega), hF.out.kept (fun g hg => ⟨by omega, by rw [set4_size]; exact hg.2⟩) (fun g hg => set4_other (by omega))⟩
        have hres : Tryd.f9.results = #[.cell 2 28] := by kernel_rfl
        replace hres := Lib.hid hres
        go_wp2_with fail
        refine bodyPost_ret (v := .agg #[.int .i64 t.kind, .string t.name, .int .i64 t.num, .slice A9 t.kids.length c9]) ?_ rfl ⟨A9, c9, by rw [hL.out], hend.out⟩
        simp only [results, hres.out]
        go_simp
end Go.Proofs.YtmomdehilfnpcaaDoor
