/-
  What the statements' turning of a term into the reference's gathers: the kids by value, in a row of its own. Conditions: as stated.
  The statements' turning of a term into the reference's. Conditions: the term can be read; its size is at most 4194304.
  The statements' turning of tokens into the reference's. Condition: the tokens can be read.
  The reference of chapter 4: Toks, Show. Conditions: the term can be read, of at most 4194304 terms.
  ShowTells's walk: true of whatever term, whatever bytes. Conditions: the variables that are read lie as laid; the term can be read, and has at most 1048576 terms; the bytes can be read.
-/
import Derived.Test.YthmchdpinobbgaaGreatDoorTmRf1
import Derived.Test.YthmchdpinobbgaaGreatDoorTmOwn
import Derived.Test.YthmchdpinobbgaaGreatDoorTmFreeI
import Derived.Maps.AppendAt
import Derived.Deep.RegionLaw
import Derived.Test.YthmchdpinobbgaaGreatDoorShRef
import Derived.Test.YthmchdpinobbgaaGreatDoorTmRf8
import Derived.Test.YthmchdpinobbgaaGreatDoorShBase
namespace Go.Proofs.YthmchdpinobbgaaGreatDoor
open Go.RowKit Go.Shelf Go.Tm

theorem info_ref3 : (Tryz.prog.info? 35).map (fun i => (i.zero, i.size, i.bytes)) = some (some (.agg #[.int .i64 0, .string ⟨#[]⟩, .int .i64 0, .slice none 0 0]), 4, 56) := by kernel_rfl
/-- the kids gathered, and where theirs lie -/
structure RS (w W : World) (b : Nat) (t : Go.Tm.T) (v : Value) (xs : List (Go.Tm.T × Option Addr × Nat)) : Prop where
  below : Below w.heap.size w W
  own : W.ownsRow (b + 1) 35 4 v xs.length (xs.flatMap tmC)
  kids : ∀ x ∈ xs, TmV W (KidB W b v) x.1 x.2.1 x.2.2
  box : W.heap[b]? = some (.cells #[.int .i64 t.kind, .string t.name, .int .i64 t.num, v] 35 (0, 0))
  lo : w.heap.size ≤ b
theorem RS.first {w W : World} {b : Nat} {t : Go.Tm.T} (hb : Below w.heap.size w W) (hx : W.heap[b]? = some (.cells #[.int .i64 t.kind, .string t.name, .int .i64 t.num, .slice none 0 0] 35 (0, 0))) (hl : w.heap.size ≤ b) : RS w W b t (.slice none 0 0) [] :=
  ⟨hb, World.ownsRow_nil _ _ _ _, fun _ hx => (by cases hx), hx, hl⟩
theorem RS.later {w W W' : World} {b : Nat} {t : Go.Tm.T} {v : Value} {xs : List (Go.Tm.T × Option Addr × Nat)} (h : RS w W b t v xs) (hb : Below W.heap.size W W') : RS w W' b t v xs :=
  ⟨h.below.trans (hb.mono h.below.size), ownsRow_same h.own fun g hg => by
    obtain ⟨cur, hc, _⟩ := ownsRow_at h.own hg
    exact hb.block g (World.lt_of_get hc),
    fun x hx => (h.kids x hx).kept (fun k hk => ⟨hk.1, Nat.lt_of_lt_of_le hk.2.1 hb.size, hk.2.2⟩) (fun k hk => hb.block k hk.2.1), (hb.block b (World.lt_of_get h.box)).trans h.box, h.lo⟩
theorem RS.grown {w W W' : World} {b : Nat} {t : Go.Tm.T} {v : Value} {xs : List (Go.Tm.T × Option Addr × Nat)} (h : RS w W b t v xs) (hg : W.grownBy W' v.ownBlock) : Below (b + 1) W W' :=
  (Below.refl _ W).grown hg (World.lt_of_get h.box) fun _ hg => (ownsRow_at h.own hg).choose_spec.2
theorem RS.boxed {w W W' : World} {b : Nat} {t : Go.Tm.T} {v : Value} {xs : List (Go.Tm.T × Option Addr × Nat)} (h : RS w W b t v xs) (hg : W.grownBy W' v.ownBlock) : W'.heap[b]? = some (.cells #[.int .i64 t.kind, .string t.name, .int .i64 t.num, v] 35 (0, 0)) :=
  ((h.grown hg).block b (by omega)).trans h.box
theorem RS.put {w W W' : World} {b : Nat} {t : Go.Tm.T} {v v' : Value} {xs : List (Go.Tm.T × Option Addr × Nat)} {x : Go.Tm.T × Option Addr × Nat} (h : RS w W b t v xs) (hx : TmV W (KidB W b v) x.1 x.2.1 x.2.2) (hg : W.grownBy W' v.ownBlock)
    (ho : W'.ownsRow (b + 1) 35 4 v' (xs.length + 1) (xs.flatMap tmC ++ tmC x)) (hat : v'.ownBlock = v.ownBlock ∨ v'.ownBlock = some W.heap.size) : RS w (W'.setCell ⟨b, 3, none⟩ v') b t v' (xs ++ [x]) := by
  have hsz : W.heap.size ≤ W'.heap.size := (h.grown hg).size
  have hk : ∀ y, TmV W (KidB W b v) y.1 y.2.1 y.2.2 → TmV (W'.setCell ⟨b, 3, none⟩ v') (KidB (W'.setCell ⟨b, 3, none⟩ v') b v') (y : Go.Tm.T × Option Addr × Nat).1 y.2.1 y.2.2 := fun y hy =>
    hy.kept (fun k hk => ⟨hk.1, by simp; exact Nat.lt_of_lt_of_le hk.2.1 hsz, hk.2.2.1, by
      rcases hat with e | e
      · rw [e]; exact hk.2.2.2
      · rw [e]; intro e2; injection e2 with e3; have := hk.2.1; omega⟩)
      (fun k hk => (Below.heap_setCell _ _ _ _ hk.2.2.1).trans (hg.block k hk.2.1 (Ne.symm hk.2.2.2)))
  refine ⟨(h.below.trans ((h.grown hg).mono (by have := h.lo; omega))).setCell (p := ⟨b, 3, none⟩) h.lo _, ?_, fun y hy => ?_, heap_setCell_same W' b 3 _ _ v' (h.boxed hg), h.lo⟩
  · rw [List.flatMap_append, List.length_append]
    exact ownsRow_setCell_below (by simpa using ho) (a := ⟨b, 3, none⟩) (Nat.lt_succ_self b) v'
  · rcases List.mem_append.1 hy with hy | hy
    · exact hk y (h.kids y hy)
    · obtain rfl := List.mem_singleton.1 hy
      exact hk y hx
theorem RS.last {w W : World} {b : Nat} {t : Go.Tm.T} {v : Value} {xs : List (Go.Tm.T × Option Addr × Nat)} (h : RS w W b t v xs) (hn : t.name.size ≤ 9223372036854775807) (hxs : xs.map (·.1) = t.kids) : ∃ A c, v = .slice A t.kids.length c ∧ TmV W (fun k => b < k ∧ k < W.heap.size) t A c := by
  have hl : xs.length = t.kids.length := by rw [← hxs, List.length_map]
  obtain ⟨h1, ⟨rfl, h2⟩ | ⟨g, cap, cur, rfl, hb, hg, r1, r2, r3, r4⟩⟩ := h.own
  · rw [← hl, h2]
    exact ⟨none, 0, rfl, hn, .inl (List.eq_nil_of_length_eq_zero (by rw [← hl, h2]))⟩
  · rw [← hl]
    refine ⟨_, _, rfl, hn, .inr ⟨g, 0, rfl, ?_⟩⟩
    have hr := row_new (W := W) (p := fun k => b < k ∧ k < W.heap.size) (b := g) ⟨by omega, World.lt_of_get hg⟩ xs 0 (fun x hx => (h.kids x hx).kept (fun k hk => ⟨hk.1, hk.2.1⟩) (fun _ _ => rfl)) (fun i u hu => by
      rw [Nat.zero_add, cell_of_row W g i _ _ _ hg]
      have h3 : (cur.toList.take (xs.length * 4))[i]? = some u := by rw [r4]; exact hu
      have h4 : i < (cur.toList.take (xs.length * 4)).length := (List.getElem?_eq_some_iff.1 h3).1
      rw [List.getElem?_take_of_lt (by rw [List.length_take] at h4; omega), Array.getElem?_toList] at h3
      exact h3)
    rw [hxs] at hr
    exact hr
end Go.Proofs.YthmchdpinobbgaaGreatDoor
namespace Go.Proofs.YthmchdpinobbgaaGreatDoor
open Go.RowKit Go.Shelf Go.Tm

set_option maxRecDepth 100000 in
set_option maxHeartbeats 4000000 in
theorem reftermS_any : ∀ (n : Nat) (t : Go.Tm.T) (A : Option Addr) (c : Nat) (w : World), t.size ≤ n → t.size ≤ 4194304 → TmV w (· < w.heap.size) t A c →
    Calls Tryz.prog 10 #[tmV t A c] w fun e w' => ∃ A' c', e = .returned (tmV t A' c') ∧ Below w.heap.size w w' ∧ TmV w' (fun k => w.heap.size ≤ k ∧ k < w'.heap.size) t A' c'
  | 0, t, _, _, _, h, _, _ => by have := kids_lt t; omega
  | n + 1, t, A, c, w, hn, hz, hT => by
    have IH := Lib.hid (reftermS_any n)
    have hks := kids_lt t
    have hLs := len_sizes t.kids
    have hnz := Lib.hid hT.nsz
    replace hT := Lib.hid hT
    unfold tmV
    obtain ⟨L, hL⟩ : ∃ L, t.kids.length = L := ⟨_, rfl⟩
    rw [hL] at hLs
    rw [hL]
    have hc := chain_below w [(.cells #[.int .i64 t.kind, .string t.name, .int .i64 t.num, .slice A L c] 24), (.cells #[.int .i64 0, .string ⟨#[]⟩, .int .i64 0, .slice none 0 0] 35), (.cells #[.int .i64 t.kind, .string t.name, .int .i64 t.num, .slice none 0 0] 35)]
    have hx1 := chain_get w [(.cells #[.int .i64 t.kind, .string t.name, .int .i64 t.num, .slice A L c] 24), (.cells #[.int .i64 0, .string ⟨#[]⟩, .int .i64 0, .slice none 0 0] 35), (.cells #[.int .i64 t.kind, .string t.name, .int .i64 t.num, .slice none 0 0] 35)] 0 _ rfl
    have hx3 := chain_get w [(.cells #[.int .i64 t.kind, .string t.name, .int .i64 t.num, .slice A L c] 24), (.cells #[.int .i64 0, .string ⟨#[]⟩, .int .i64 0, .slice none 0 0] 35), (.cells #[.int .i64 t.kind, .string t.name, .int .i64 t.num, .slice none 0 0] 35)] 2 _ rfl
    have hx2 := chain_get w [(.cells #[.int .i64 t.kind, .string t.name, .int .i64 t.num, .slice A L c] 24), (.cells #[.int .i64 0, .string ⟨#[]⟩, .int .i64 0, .slice none 0 0] 35), (.cells #[.int .i64 t.kind, .string t.name, .int .i64 t.num, .slice none 0 0] 35)] 1 _ rfl
    have hT2 := hT.out.later hc.1
    obtain ⟨V, hV⟩ : ∃ V, [(.cells #[.int .i64 t.kind, .string t.name, .int .i64 t.num, .slice A L c] 24), (.cells #[.int .i64 0, .string ⟨#[]⟩, .int .i64 0, .slice none 0 0] 35), (.cells #[.int .i64 t.kind, .string t.name, .int .i64 t.num, .slice none 0 0] 35)].foldl World.alloc w = V := ⟨_, rfl⟩
    rw [hV] at hc hx1 hx2 hx3 hT2
    obtain ⟨i0, hi, hi2⟩ := Option.map_eq_some_iff.1 info_ref3
    obtain ⟨hz0, hz1, hz2⟩ : i0.zero = some (.agg #[.int .i64 0, .string ⟨#[]⟩, .int .i64 0, .slice none 0 0]) ∧ i0.size = 4 ∧ i0.bytes = 56 := by
      injection hi2 with h1 h2; injection h2 with h2 h3; exact ⟨h1, h2, h3⟩
    replace hi := Lib.hid hi
    replace hz0 := Lib.hid hz0
    replace hz1 := Lib.hid hz1
    replace hz2 := Lib.hid hz2
    clear hi2
    have hR0 := Lib.hid (RS.first (t := t) hc.1 hx3 (by omega))
    have hVz := hc.2
    replace hc := Lib.hid hc
    replace hx1 := Lib.hid hx1
    replace hx2 := Lib.hid hx2
    replace hx3 := Lib.hid hx3
    replace hT2 := Lib.hid hT2
    replace hL := Lib.hid hL
    have hVz2 : V.heap.size = w.heap.size + 3 := by rw [hVz]; rfl
    replace hVz := Lib.hid hVz
    replace hV : Hid (((w.alloc (.cells #[.int .i64 t.kind, .string t.name, .int .i64 t.num, .slice A L c] 24)).alloc (.cells #[.int .i64 0, .string ⟨#[]⟩, .int .i64 0, .slice none 0 0] 35)).alloc (.cells #[.int .i64 t.kind, .string t.name, .int .i64 t.num, .slice none 0 0] 35) = V) := hV
    replace hVz2 := Lib.hid hVz2
    go_enter Tryz.func10, Tryz.ntmps10
    go_wp2_with fail
    rw [hV.out]
    go_loopw [4] (fun i wr => ∃ (k : Nat) (v : Value) (xs : List (Go.Tm.T × Option Addr × Nat)), k ≤ L ∧ i = .int .i64 k ∧ Hid (xs.map (·.1) = t.kids.take k) ∧ Hid (RS w wr (w.heap.size + 2) t v xs) ∧ Hid (Below (w.heap.size + 2) V wr) ∧ Hid (TmV wr (· < w.heap.size) t A c)) (fun i _ => L - (intOf i).toNat)
    case atStart => exact ⟨0, _, [], Nat.zero_le _, rfl, by show _ = _; rw [List.take_zero]; rfl, hR0.out, Below.refl _ _, hT.out.below hc.out.1⟩
    case round =>
      clear hR0 hT2 hx3
      obtain ⟨k, v, xs, hk, rfl, hM, hR, hB, hTr⟩ := hrel
      obtain ⟨b, hb⟩ : ∃ b, w.heap.size + 2 = b := ⟨_, rfl⟩
      have y1 : wr.heap[w.heap.size]? = some _ := (hB.out.block w.heap.size (by omega)).trans hx1.out
      have y2 : wr.heap[w.heap.size + 1]? = some _ := (hB.out.block (w.heap.size + 1) (by omega)).trans hx2.out
      have p3 := cell_of_row wr w.heap.size 3 _ _ _ y1
      have q3 := cell_of_row wr (w.heap.size + 2) 3 _ _ _ hR.out.box
      have hl1 := World.lt_of_get y1
      have hl2 := World.lt_of_get y2
      have hl3 := World.lt_of_get hR.out.box
      replace y2 := Lib.hid y2
      clear hb b
      by_cases hlt : k < L
      · have hk9 : k < t.kids.length := by rw [hL.out]; exact hlt
        obtain ⟨kb, ko, rfl, hrow⟩ := hTr.out.row.resolve_left (fun e => by rw [e] at hk9; exact absurd hk9 (Nat.not_lt_zero _))
        obtain ⟨A2, c2, hh, hv⟩ := node_tmv (hrow.get k hk9)
        have hsn := sizes_snoc t.kids k hk9
        have hle := sizes_take_le t.kids (k + 1)
        have htk : t.kids.take (k + 1) = t.kids.take k ++ [t.kids.getD k default] := by
          rw [List.take_succ_eq_append_getElem hk9, List.getD_eq_getElem?_getD, List.getElem?_eq_getElem hk9]; rfl
        obtain ⟨x, hx⟩ : ∃ x, t.kids.getD k default = x := ⟨_, rfl⟩
        rw [hx] at hh hv hsn htk
        clear hrow
        have hxn : x.size ≤ n := by omega
        have hxz : x.size ≤ 4194304 := by omega
        have hxl : xs.length = k := by have := congrArg List.length hM.out; rw [List.length_map, List.length_take] at this; omega
        clear hsn hle
        replace hx := Lib.hid hx
        replace htk := Lib.hid htk
        have c0 := hh.kind
        have c1 := hh.name
        have c2' := hh.num
        have c3 := hh.kids
        replace hh := Lib.hid hh
        have kk := Lib.hid (IH.out x A2 c2 wr.drew hxn hxz (hv.kept (fun k hk => by have := hB.out.size; show k < wr.heap.size; omega) (fun _ _ => rfl)))
        clear hv
        unfold tmV at kk
        have hkb : kb < wr.heap.size := by
          have h1 := hh.out.at_
          omega
        replace y1 := Lib.hid y1
        replace hxl := Lib.hid hxl
        go_wp2_with fail
        go_region_law (first
          | (refine step_append_at rfl (.tmp 20) (.tmp 27) 33 rfl (w.heap.size + 2 + 1) 35 i0 (.agg #[.int .i64 0, .string ⟨#[]⟩, .int .i64 0, .slice none 0 0]) 4 56 Tryz.underlying33 hi.out hz0.out hz1.out hz2.out rfl (by decide) _ _ _ (by simp [Act.eval]) hR10.out.own ⟨w9.heap.size, 0, none⟩ 1 1 (tmC (x, A9, c9)) (by simp [Act.eval]) rfl (row_cells (x := (x, A9, c9)) (World.alloc_heap_new w9 _)) (row_one _) (by unfold maxLen; rw [hxl.out]; omega) (by rw [hxl.out]; omega) (World.lt_of_get hR10.out.box) ?_
             intro v'' w10 hown hgrow hat
             obtain ⟨A8, n8, c8, rfl⟩ := own_slice hown
             have hb10 := hR10.out.boxed hgrow
             have z3 := cell_of_row w10 (w.heap.size + 2) 3 _ _ _ hb10
             have zf3 := frozen_of_row hb10 3
             have hl10 := World.lt_of_get hb10
             have hput := Lib.hid (hR10.out.put (x := (x, A9, c9)) hK9.out hgrow hown hat)
             have hB10 := Lib.hid ((hB9.out.trans ((hR10.out.grown hgrow).mono (by omega))).setCell (p := ⟨w.heap.size + 2, 3, none⟩) (Nat.le_refl _) (.slice A8 n8 c8))
             clear hown hgrow hb10 hat)
          | (go_simp; go_at_call 10; refine kk.out.mono ?_; rintro e9 w9 ⟨A9, c9, rfl, hb9, hT9⟩
             have hR9 := Lib.hid (hR.out.later ((Below.refl _ wr).drew.trans hb9))
             have hR10 := Lib.hid (hR9.out.later (later_alloc w9 (.cells #[.int .i64 x.kind, .string x.name, .int .i64 x.num, .slice A9 x.kids.length c9] 35)))
             have z0 := cell_of_row w9 (w.heap.size + 2) 3 _ _ _ hR9.out.box
             have hl9 := World.lt_of_get hR9.out.box
             have hK9 : Hid (TmV (w9.alloc (.cells #[.int .i64 x.kind, .string x.name, .int .i64 x.num, .slice A9 x.kids.length c9] 35)) (KidB (w9.alloc (.cells #[.int .i64 x.kind, .string x.name, .int .i64 x.num, .slice A9 x.kids.length c9] 35)) (w.heap.size + 2) v) x A9 c9) :=
               hT9.kept (fun g hg => ⟨Nat.lt_of_lt_of_le hl3 hg.1, by simp; exact Nat.lt_succ_of_lt hg.2, Nat.ne_of_gt (Nat.lt_of_lt_of_le hl3 hg.1), fun e => by
                 obtain ⟨cur, hc9, _⟩ := ownsRow_at hR.out.own e
                 have h8 := World.lt_of_get hc9
                 exact absurd (Nat.lt_of_lt_of_le h8 hg.1) (Nat.lt_irrefl _)⟩) (fun g hg => (later_alloc w9 _).block g hg.2)
             have hB9 := Lib.hid ((hB.out.trans (((Below.refl _ wr).drew.trans hb9).mono (Nat.le_of_lt hl3))).trans ((later_alloc w9 (.cells #[.int .i64 x.kind, .string x.name, .int .i64 x.num, .slice A9 x.kids.length c9] 35)).mono (Nat.le_of_lt hl9)))
             clear hb9 hT9))
        all_goals go_wp2_with fail
        all_goals go_roundw
        all_goals first
          | exact ⟨k + 1, _, _, by omega, by go_num, (by show _ = _; rw [List.map_append, hM.out, htk.out]; rfl), hput.out, hB10.out, hTr.out.kept (fun _ h => h) (fun g hg => (hB10.out.block g (by omega)).trans (hB.out.block g (by omega)).symm)⟩
          | (simp [intOf]; omega)
      · obtain rfl : k = L := by omega
        obtain ⟨A9, c9, rfl, hF⟩ := hR.out.last hnz.out (by rw [hM.out, ← hL.out, List.take_length])
        have hbx := hR.out.box
        have hbw := Lib.hid hR.out.below
        replace hF := Lib.hid hF
        clear hlt hR hM hTr hB q3 y1 hk
        have e0 := cell_of_row wr (w.heap.size + 2) 0 _ _ _ hbx
        have e1 := cell_of_row wr (w.heap.size + 2) 1 _ _ _ hbx
        have e2 := cell_of_row wr (w.heap.size + 2) 2 _ _ _ hbx
        have e3 := cell_of_row wr (w.heap.size + 2) 3 _ _ _ hbx
        have f0 := frozen_of_row y2.out 0
        have f1 := frozen_of_row y2.out 1
        have f2 := frozen_of_row y2.out 2
        have f3 := frozen_of_row y2.out 3
        have g0 := cell_of_row wr (w.heap.size + 1) 0 _ _ _ y2.out
        have g1 := cell_of_row wr (w.heap.size + 1) 1 _ _ _ y2.out
        have g2 := cell_of_row wr (w.heap.size + 1) 2 _ _ _ y2.out
        have g3 := cell_of_row wr (w.heap.size + 1) 3 _ _ _ y2.out
        have s9 := set4_same (v0 := .int .i64 t.kind) (v1 := .string t.name) (v2 := .int .i64 t.num) (v3 := .slice A9 t.kids.length c9) y2.out
        have s0 := cell_of_row _ (w.heap.size + 1) 0 _ _ _ s9
        have s1 := cell_of_row _ (w.heap.size + 1) 1 _ _ _ s9
        have s2 := cell_of_row _ (w.heap.size + 1) 2 _ _ _ s9
        have s3 := cell_of_row _ (w.heap.size + 1) 3 _ _ _ s9
        unfold set4 at s0 s1 s2 s3
        replace s9 := Lib.hid s9
        replace hbx := Lib.hid hbx
        have hend : Hid (Below w.heap.size w (set4 wr (w.heap.size + 1) (.int .i64 t.kind) (.string t.name) (.int .i64 t.num) (.slice A9 t.kids.length c9)) ∧ TmV (set4 wr (w.heap.size + 1) (.int .i64 t.kind) (.string t.name) (.int .i64 t.num) (.slice A9 t.kids.length c9)) (fun g => w.heap.size ≤ g ∧ g < (set4 wr (w.heap.size + 1) (.int .i64 t.kind) (.string t.name) (.int .i64 t.num) (.slice A9 t.kids.length c9)).heap.size) t A9 c9) :=
          ⟨set4_below hbw.out (by omega), hF.out.kept (fun g hg => ⟨by omega, by rw [set4_size]; exact hg.2⟩) (fun g hg => set4_other (by omega))⟩
        have hres : Tryz.f10.results = #[.cell 2 35] := by kernel_rfl
        replace hres := Lib.hid hres
        go_wp2_with fail
        refine bodyPost_ret (v := .agg #[.int .i64 t.kind, .string t.name, .int .i64 t.num, .slice A9 t.kids.length c9]) ?_ rfl ⟨A9, c9, by rw [hL.out], hend.out⟩
        simp only [results, hres.out]
        go_simp
end Go.Proofs.YthmchdpinobbgaaGreatDoor
namespace Go.Proofs.YthmchdpinobbgaaGreatDoor
open Go.RowKit Go.Shelf Go.Tm Go.Lx Go.Maps
attribute [local go_sem] Oper.semAt_some

theorem toks_snocS (ts : List Tok) (k : Nat) (hk : k < ts.length) : ts.take (k + 1) = ts.take k ++ [ts.getD k ⟨0, [], 0⟩] := by
  rw [List.take_succ_eq_append_getElem hk, List.getD_eq_getElem?_getD, List.getElem?_eq_getElem hk]; rfl
/-- an append to what was gathered, at a step of a region that draws its order -/
theorem step_append_heldS {P : Program} {ops : Array Oper} {o : Oper} {a : Act} {w : World} {K : Act → World → Prop} {Q : Exit → Act → World → Prop} {E : Prop}
    (hg : o.guard = none) (s x : Operand) (t : TypeId) (hop : o.op = Op.call { callee := Callee.builtin Builtin.append, args := #[s, x], argTypes := #[t, t] })
    (base : Nat) (e : TypeId) (i : TypeInfo) (z : Value) (size bytes : Nat) (h1 : P.underlying t = some (.slice e)) (h2 : P.info? e = some i) (h3 : i.zero = some z) (h4 : i.size = size) (h5 : i.bytes = bytes) (h6 : z.cells.size = size) (h7 : 0 < size)
    (v : Value) (n : Nat) (xs : List Value) (hs : a.eval s = v) (hown : w.ownsRow base e size v n xs)
    (ad : Addr) (m c : Nat) (news : List Value) (hx : a.eval x = .slice (some ad) m c) (hn : news.length = m * size) (hc : ∀ j u, news[j]? = some u → w.cell? (ad.add j) = some u) (h1c : ∀ u ∈ news, u.oneCell' = true)
    (b1 : n + m ≤ maxLen) (b2 : (n + m) * bytes ≤ 140737488355328) (hbase : base ≤ w.heap.size)
    (hK : ∀ v' w', w'.ownsRow base e size v' (n + m) (xs ++ news) → w.grownBy w' v.ownBlock → K (a.put o.dst v') w') :
    if Region.wanted o (yielded ops a.tmps) = true then Oper.wp P o a w K Q else E := by
  have hw : Region.wanted o (yielded ops a.tmps) = true := by simp [Region.wanted, hg]
  rw [if_pos hw]
  obtain ⟨v', w', hrun, r1, r2, _⟩ := run_append_own (P := P) w base t o.type e i z size bytes h1 h2 h3 h4 h5 h6 h7 v n xs hown ad m c news hn hc h1c b1 b2 hbase
  unfold Oper.wp
  simp [execOp, hop, resolve, invoke, builtin, hs, hx, hrun, Result.andThen]
  exact hK v' w' r1 r2

set_option maxRecDepth 100000 in
set_option maxHeartbeats 4000000 in
theorem reftoksS_any (A : Option Addr) (ts : List Tok) (c : Nat) (w : World) (hU : X.Toks w w.heap.size A ts) (hl : ts.length ≤ 1099511627776) :
    Calls Tryz.prog 7 #[.slice A ts.length c] w fun e w' => Below w.heap.size w w' ∧ ∃ A' c', e = .returned (.slice A' ts.length c') ∧ X.Toks w' w'.heap.size A' ts := by
  obtain ⟨i0, hi, hi2⟩ := Option.map_eq_some_iff.1 info_tok2
  obtain ⟨hz0, hz1, hz2⟩ : i0.zero = some (.agg #[.int .i64 0, .string ⟨#[]⟩, .int .i64 0]) ∧ i0.size = 3 ∧ i0.bytes = 32 := by
    injection hi2 with h1 h2; injection h2 with h2 h3; exact ⟨h1, h2, h3⟩
  replace hi := Lib.hid hi
  replace hz0 := Lib.hid hz0
  replace hz1 := Lib.hid hz1
  replace hz2 := Lib.hid hz2
  clear hi2
  go_enter Tryz.func7, Tryz.ntmps7
  go_wp2_with fail
  go_loopw [3, 4] (fun v i wr => ∃ (k : Nat) (v' : Value), k ≤ ts.length ∧ i = .int .i64 k ∧ v = v' ∧ Hid (wr.ownsRow w.heap.size 40 3 v' (ts.take k).length (toksC (ts.take k))) ∧ Hid (Below w.heap.size w wr)) (fun _ i _ => ts.length - (intOf i).toNat)
  case atStart => exact ⟨0, _, Nat.zero_le _, rfl, rfl, World.ownsRow_nil _ _ _ _, Below.refl _ _⟩
  case round =>
    obtain ⟨k, v', hk, rfl, rfl, hown, hB⟩ := hrel
    by_cases hlt : k < ts.length
    · obtain ⟨b, off, rfl, hb, hc⟩ := (hU.later hB.out) (by intro e; subst e; simp at hlt)
      obtain ⟨c0, c1, c2⟩ := hc k hlt
      clear hc
      have hlen : (ts.take k).length = k := by rw [List.length_take]; omega
      have htk := toks_snocS ts k hlt
      generalize ts.getD k ⟨0, [], 0⟩ = q at c0 c1 c2 htk
      obtain ⟨qk, qt, qn⟩ := q
      dsimp only at c0 c1 c2
      generalize hqs : X.strOf qt = qs at c1
      have hbd : Below wr.heap.size wr (wr.drew.alloc (.cells #[.int .i64 qk, .string qs, .int .i64 qn] 40)) := (Below.refl _ _).drew.alloc (Nat.le_refl _) _
      have hown1 := Lib.hid (own_below3 hown.out hbd)
      have hb9 : Hid (Below w.heap.size w (wr.drew.alloc (.cells #[.int .i64 qk, .string qs, .int .i64 qn] 40))) := hB.out.trans (hbd.mono hB.out.size)
      have hbx : Hid (∀ (j : Nat) (u : Value), ([.int .i64 qk, .string qs, .int .i64 qn] : List Value)[j]? = some u → (wr.drew.alloc (.cells #[.int .i64 qk, .string qs, .int .i64 qn] 40)).cell? ((⟨wr.heap.size, 0, none⟩ : Addr).add j) = some u) := fun j u hj => by
        rw [add_off, Nat.zero_add, cell_of_row _ wr.heap.size j _ _ _ (World.alloc_heap_new wr.drew (.cells #[.int .i64 qk, .string qs, .int .i64 qn] 40)), ← hj, ← List.getElem?_toArray]
      clear hbd hown
      go_wp2_with fail
      go_region_law (
        refine step_append_heldS rfl (.tmp 11) (.tmp 28) 28 rfl w.heap.size 40 i0 (.agg #[.int .i64 0, .string ⟨#[]⟩, .int .i64 0]) 3 32 Tryz.underlying28 hi.out hz0.out hz1.out hz2.out rfl (by decide) _ _ _ (by simp [Act.eval]) hown1.out ⟨wr.heap.size, 0, none⟩ 1 1 [.int .i64 qk, .string qs, .int .i64 qn] (by simp [Act.eval]) rfl hbx.out (by
            intro u hu
            simp at hu
            rcases hu with rfl | rfl | rfl <;> rfl) (by unfold maxLen; omega) (by omega) hb9.out.size ?_
        intro v'' w1 hown' hgrow
        have hown2 : Hid (w1.ownsRow w.heap.size 40 3 v'' (ts.take (k + 1)).length (toksC (ts.take (k + 1)))) := by
          show w1.ownsRow _ _ _ _ _ _
          rw [htk, toksC_app, List.length_append]
          show World.ownsRow _ _ _ _ _ _ (_ ++ [.int .i64 qk, .string (X.strOf qt), .int .i64 qn])
          rw [hqs]
          exact hown'
        have hb3 : Hid (Below w.heap.size w w1) := hb9.out.grown hgrow hb9.out.size (fun _ hg => (own_at hown1.out hg).choose_spec.2)
        clear hown' hgrow)
      all_goals go_wp2_with fail
      all_goals go_roundw
      all_goals first
        | exact ⟨k + 1, _, by omega, by go_num, rfl, hown2, hb3⟩
        | (simp [intOf]; omega)
    · obtain rfl : k = ts.length := by omega
      rw [List.take_length] at hown
      obtain ⟨A', c', hv9, hT, -⟩ := toks_ownR hown.out
      cases hv9
      replace hT := Lib.hid hT
      clear hown
      go_wp2_with fail
      go_ret
      exact ⟨hB.out, _, _, rfl, hT.out⟩
end Go.Proofs.YthmchdpinobbgaaGreatDoor
namespace Go.Proofs.YthmchdpinobbgaaGreatDoor
open Go.RowKit Go.Shelf Go.Tm Go.Lx Go.Maps
attribute [local go_sem] Oper.semAt_some

set_option maxRecDepth 100000 in
set_option maxHeartbeats 2000000 in
theorem reftoksR_any (t : Go.Tm.T) (A : Option Addr) (c : Nat) (w : World) (hz : t.size ≤ 4194304) (hT : TmV w (· < w.heap.size) t A c) :
    Calls Tryz.prog 9 #[tmV t A c] w fun e w' => ∃ B d, e = .returned (.slice B (showT t).length d) ∧ X.Toks w' w'.heap.size B (showT t) ∧ Below w.heap.size w w' := by
  have hbV : Below w.heap.size w (w.alloc (.cells #[.int .i64 t.kind, .string t.name, .int .i64 t.num, .slice A t.kids.length c] 35)) := later_alloc _ _
  have hbx : (w.alloc (.cells #[.int .i64 t.kind, .string t.name, .int .i64 t.num, .slice A t.kids.length c] 35)).heap[w.heap.size]? = some (.cells #[.int .i64 t.kind, .string t.name, .int .i64 t.num, .slice A t.kids.length c] 35 (0, 0)) := World.alloc_heap_new _ _
  have kr := refright_any t A c (w.alloc (.cells #[.int .i64 t.kind, .string t.name, .int .i64 t.num, .slice A t.kids.length c] 35)) (by omega) (hT.later hbV)
  unfold tmV at kr ⊢
  have i0 := cell_of_row _ w.heap.size 0 _ _ _ hbx
  have i1 := cell_of_row _ w.heap.size 1 _ _ _ hbx
  have i2 := cell_of_row _ w.heap.size 2 _ _ _ hbx
  have i3 := cell_of_row _ w.heap.size 3 _ _ _ hbx
  have hlv := World.lt_of_get hbx
  replace hbx := Lib.hid hbx
  replace hbV := Lib.hid hbV
  replace hT := Lib.hid hT
  cases hr : rightT t with
  | false =>
    have hs : Hid (showT t = []) := by show _ = _; unfold showT; rw [hr]; rfl
    rw [hr] at kr
    replace kr := Lib.hid kr
    rw [hs.out]
    clear hr
    go_enter Tryz.func9, Tryz.ntmps9
    go_wp2_with fail
    refine kr.out.mono ?_
    rintro e w1 ⟨rfl, hb1⟩
    have hb := Lib.hid (hbV.out.trans (hb1.mono hbV.out.size))
    clear hb1 kr
    go_wp2_with fail
    go_ret
    exact ⟨_, _, rfl, X.Toks.nil _ _ _, hb.out⟩
  | true =>
    have hs : Hid (showT t = toksT t) := by show _ = _; unfold showT; rw [hr]; rfl
    obtain ⟨hrt, hz2⟩ := right_rt hr
    rw [hr] at kr
    replace kr := Lib.hid kr
    rw [hs.out]
    clear hr
    replace hrt := Lib.hid hrt
    go_enter Tryz.func9, Tryz.ntmps9
    go_wp2_with fail
    refine kr.out.mono ?_
    rintro e w1 ⟨rfl, hb1⟩
    have hx1 := (hb1.block w.heap.size hlv).trans hbx.out
    have hb2 := hbV.out.trans (hb1.mono hbV.out.size)
    have kl := tokR_any hrt.out hz2 A c w1 ((hT.out.later hb2))
    unfold tmV at kl
    replace kl := Lib.hid kl
    replace i0 := cell_of_row w1 w.heap.size 0 _ _ _ hx1
    replace i1 := cell_of_row w1 w.heap.size 1 _ _ _ hx1
    replace i2 := cell_of_row w1 w.heap.size 2 _ _ _ hx1
    replace i3 := cell_of_row w1 w.heap.size 3 _ _ _ hx1
    replace hx1 := Lib.hid hx1
    replace hb2 := Lib.hid hb2
    clear hb1 kr
    go_wp2_with fail
    refine kl.out.mono ?_
    rintro e w2 ⟨b, o, d, rfl, hk, _, hb3⟩
    have hb := Lib.hid (hb2.out.trans (hb3.mono hb2.out.size))
    replace hk := Lib.hid hk
    clear hb3 kl
    go_wp2_with fail
    go_ret
    exact ⟨_, _, rfl, hk.out, hb.out⟩

set_option maxRecDepth 100000 in
set_option maxHeartbeats 2000000 in
theorem refshowR_any (t : Go.Tm.T) (A : Option Addr) (c : Nat) (w : World) (hz : t.size ≤ 4194304) (hT : TmV w (· < w.heap.size) t A c) :
    Calls Tryz.prog 12 #[tmV t A c] w fun e w' => e = .returned (.string (showS t)) ∧ Below w.heap.size w w' := by
  have hbV : Below w.heap.size w (w.alloc (.cells #[.int .i64 t.kind, .string t.name, .int .i64 t.num, .slice A t.kids.length c] 35)) := later_alloc _ _
  have hbx : (w.alloc (.cells #[.int .i64 t.kind, .string t.name, .int .i64 t.num, .slice A t.kids.length c] 35)).heap[w.heap.size]? = some (.cells #[.int .i64 t.kind, .string t.name, .int .i64 t.num, .slice A t.kids.length c] 35 (0, 0)) := World.alloc_heap_new _ _
  have kr := refright_any t A c (w.alloc (.cells #[.int .i64 t.kind, .string t.name, .int .i64 t.num, .slice A t.kids.length c] 35)) (by omega) (hT.later hbV)
  unfold tmV at kr ⊢
  have i0 := cell_of_row _ w.heap.size 0 _ _ _ hbx
  have i1 := cell_of_row _ w.heap.size 1 _ _ _ hbx
  have i2 := cell_of_row _ w.heap.size 2 _ _ _ hbx
  have i3 := cell_of_row _ w.heap.size 3 _ _ _ hbx
  have hlv := World.lt_of_get hbx
  replace hbx := Lib.hid hbx
  replace hbV := Lib.hid hbV
  replace hT := Lib.hid hT
  cases hr : rightT t with
  | false =>
    have hS : Hid (showS t = ⟨#[63]⟩) := by show _ = _; unfold showS; rw [hr]; rfl
    rw [hr] at kr
    replace kr := Lib.hid kr
    rw [hS.out]
    clear hr
    go_enter Tryz.func12, Tryz.ntmps12
    go_wp2_with fail
    refine kr.out.mono ?_
    rintro e w1 ⟨rfl, hb1⟩
    have hb := Lib.hid (hbV.out.trans (hb1.mono hbV.out.size))
    clear hb1 kr
    go_wp2_with fail
    go_ret
    exact ⟨rfl, hb.out⟩
  | true =>
    obtain ⟨hrt, hz2⟩ := right_rt hr
    have hS : Hid (showS t = X.strOf (Lib.join ((toksT t).map (·.text)) [32])) := by show _ = _; unfold showS; rw [hr]; rfl
    have h1 := (toks_len hrt).1
    have h3 := show_len hrt
    have kp := fun (B : Option Addr) (d : Nat) (W : World) (h : X.Toks W W.heap.size B (toksT t)) => X.refprint_any B (toksT t) d W h (by omega) (by unfold printL at h3; omega)
    rw [hr] at kr
    replace kr := Lib.hid kr
    rw [hS.out]
    clear hr
    replace hrt := Lib.hid hrt
    obtain ⟨L, hL⟩ : ∃ n, (toksT t).length = n := ⟨_, rfl⟩
    replace kp := Lib.hid kp
    clear h1 h3
    go_enter Tryz.func12, Tryz.ntmps12
    go_wp2_with fail
    refine kr.out.mono ?_
    rintro e w1 ⟨rfl, hb1⟩
    have hx1 := (hb1.block w.heap.size hlv).trans hbx.out
    have hb2 := hbV.out.trans (hb1.mono hbV.out.size)
    have kl := tokR_any hrt.out hz2 A c w1 ((hT.out.later hb2))
    unfold tmV at kl
    replace kl := Lib.hid kl
    replace i0 := cell_of_row w1 w.heap.size 0 _ _ _ hx1
    replace i1 := cell_of_row w1 w.heap.size 1 _ _ _ hx1
    replace i2 := cell_of_row w1 w.heap.size 2 _ _ _ hx1
    replace i3 := cell_of_row w1 w.heap.size 3 _ _ _ hx1
    replace hx1 := Lib.hid hx1
    replace hb2 := Lib.hid hb2
    replace hL := Lib.hid hL
    clear hb1 kr
    go_wp2_with fail
    refine kl.out.mono ?_
    rintro e w2 ⟨b, o, d, rfl, hk, _, hb3⟩
    have hb := Lib.hid (hb2.out.trans (hb3.mono hb2.out.size))
    have kp2 := Lib.hid (kp.out (some ⟨b, o, none⟩) d w2 hk)
    clear hb3 kl hk kp
    go_wp2_with fail
    refine kp2.out.mono ?_
    rintro e w3 ⟨rfl, rfl⟩
    go_wp2_with fail
    go_ret
    exact ⟨rfl, hb.out⟩
end Go.Proofs.YthmchdpinobbgaaGreatDoor
namespace Go.Proofs.YthmchdpinobbgaaGreatDoor
open Go.RowKit Go.Shelf Go.Tm Go.Lx Go.Maps
attribute [local go_sem] Oper.semAt_some

/-- the term that came in, and the bytes -/
structure TlO (w W : World) (t : Go.Tm.T) (A0 : Option Addr) (c0 : Nat) (A : Option Addr) (zs : List Int) : Prop where
  one : OneT w W t A0 c0 w.heap.size
  byt : BtsS W A zs
theorem TlO.later {w W W' : World} {t : Go.Tm.T} {A0 : Option Addr} {c0 : Nat} {A : Option Addr} {zs : List Int} (h : TlO w W t A0 c0 A zs) (hb : Below W.heap.size W W') : TlO w W' t A0 c0 A zs := ⟨h.one.later hb, h.byt.later hb⟩
theorem TlO.boxA {w W : World} {t : Go.Tm.T} {A0 : Option Addr} {c0 : Nat} {A : Option Addr} {zs : List Int} (h : TlO w W t A0 c0 A zs) (ob : Obj) : (W.alloc ob).cell? ⟨w.heap.size, 0, none⟩ = some (.int .i64 t.kind) ∧ (W.alloc ob).cell? ⟨w.heap.size, 1, none⟩ = some (.string t.name) ∧ (W.alloc ob).cell? ⟨w.heap.size, 2, none⟩ = some (.int .i64 t.num) ∧ (W.alloc ob).cell? ⟨w.heap.size, 3, none⟩ = some (.slice A0 t.kids.length c0) := by
  have hb := ((later_alloc W ob).block _ (World.lt_of_get h.one.box)).trans h.one.box
  exact ⟨cell_of_row _ _ 0 _ _ _ hb, cell_of_row _ _ 1 _ _ _ hb, cell_of_row _ _ 2 _ _ _ hb, cell_of_row _ _ 3 _ _ _ hb⟩
/-- both terms by value in a block -/
structure LsT (w W : World) (t x : Go.Tm.T) (A0 : Option Addr) (c0 : Nat) (B : Option Addr) (d g : Nat) : Prop where
  now : NowS w W
  tt : TmV W (· < W.heap.size) t A0 c0
  tx : TmV W (· < W.heap.size) x B d
  blk : W.heap[g]? = some (.cells #[.int .i64 t.kind, .string t.name, .int .i64 t.num, .slice A0 t.kids.length c0, .int .i64 x.kind, .string x.name, .int .i64 x.num, .slice B x.kids.length d] 24 (0, 0))
theorem LsT.later {w W W' : World} {t x : Go.Tm.T} {A0 : Option Addr} {c0 : Nat} {B : Option Addr} {d g : Nat} (h : LsT w W t x A0 c0 B d g) (hb : Below W.heap.size W W') : LsT w W' t x A0 c0 B d g :=
  ⟨h.now.later hb, h.tt.later hb, h.tx.later hb, (hb.block _ (World.lt_of_get h.blk)).trans h.blk⟩
/-- the k-th of them -/
theorem LsT.get {w W : World} {t x : Go.Tm.T} {A0 : Option Addr} {c0 : Nat} {B : Option Addr} {d g : Nat} (h : LsT w W t x A0 c0 B d g) (ht : t.size ≤ 1048576) (hx : x.size ≤ 1048576) (k : Nat) (hk : k < 2) :
    ∃ (y : Go.Tm.T) (Ay : Option Addr) (cy : Nat), y.size ≤ 1048576 ∧ (∀ W', LsT w W' t x A0 c0 B d g → TmV W' (· < W'.heap.size) y Ay cy) ∧ W.cell? ⟨g, k * 4, none⟩ = some (.int .i64 y.kind) ∧ W.cell? ⟨g, k * 4 + 1, none⟩ = some (.string y.name) ∧ W.cell? ⟨g, k * 4 + 2, none⟩ = some (.int .i64 y.num) ∧ W.cell? ⟨g, k * 4 + 3, none⟩ = some (.slice Ay y.kids.length cy) := by
  match k, hk with
  | 0, _ => exact ⟨t, A0, c0, ht, fun W' h' => h'.tt, cell_of_row _ _ 0 _ _ _ h.blk, cell_of_row _ _ 1 _ _ _ h.blk, cell_of_row _ _ 2 _ _ _ h.blk, cell_of_row _ _ 3 _ _ _ h.blk⟩
  | 1, _ => exact ⟨x, B, d, hx, fun W' h' => h'.tx, cell_of_row _ _ 4 _ _ _ h.blk, cell_of_row _ _ 5 _ _ _ h.blk, cell_of_row _ _ 6 _ _ _ h.blk, cell_of_row _ _ 7 _ _ _ h.blk⟩
/-- one of them in its box, and its tokens, told twice -/
structure InT (w W : World) (t x : Go.Tm.T) (A0 : Option Addr) (c0 : Nat) (B : Option Addr) (d g : Nat) (y : Go.Tm.T) (Ay : Option Addr) (cy b7 : Nat) (D2 D3 : Option Addr) (l2 l3 : List Tok) : Prop where
  ls : LsT w W t x A0 c0 B d g
  box : W.heap[b7]? = some (.cells #[.int .i64 y.kind, .string y.name, .int .i64 y.num, .slice Ay y.kids.length cy] 24 (0, 0))
  k2 : X.Toks W W.heap.size D2 l2
  k3 : X.Toks W W.heap.size D3 l3
theorem InT.later {w W W' : World} {t x : Go.Tm.T} {A0 : Option Addr} {c0 : Nat} {B : Option Addr} {d g : Nat} {y : Go.Tm.T} {Ay : Option Addr} {cy b7 : Nat} {D2 D3 : Option Addr} {l2 l3 : List Tok} (h : InT w W t x A0 c0 B d g y Ay cy b7 D2 D3 l2 l3) (hb : Below W.heap.size W W') : InT w W' t x A0 c0 B d g y Ay cy b7 D2 D3 l2 l3 :=
  ⟨h.ls.later hb, (hb.block _ (World.lt_of_get h.box)).trans h.box, h.k2.later hb, h.k3.later hb⟩

set_option maxRecDepth 100000 in
set_option maxHeartbeats 4000000 in
theorem showTells_any (t : Go.Tm.T) (A0 : Option Addr) (c0 : Nat) (A : Option Addr) (zs : List Int) (c : Nat) (w : World) (hE : EnvS w) (ht : t.size ≤ 1048576) (hT : TmV w (· < w.heap.size) t A0 c0) (hU : BtsS w A zs) (hz : ∀ z ∈ zs, 0 ≤ z ∧ z ≤ 255) (hl : zs.length ≤ 9223372036854775807) (hc : zs.length ≤ c) (hc2 : c ≤ 9223372036854775807) :
    Calls Tryz.prog 3 #[tmV t A0 c0, .slice A zs.length c] w fun e w' => e = .returned (.bool true) ∧ Below w.heap.size w w' := by
  unfold tmV
  have hO : Hid (TlO w (w.alloc (.cells #[.int .i64 t.kind, .string t.name, .int .i64 t.num, .slice A0 t.kids.length c0] 24)) t A0 c0 A zs) := ⟨OneT.new (NowS.new hE) hT, hU.later (later_alloc _ _)⟩
  have km : Hid (∀ W, TlO w W t A0 c0 A zs → Calls Tryz.prog 6 #[.slice A zs.length c] W fun e w' => ∃ x B d, e = .returned (.agg #[.int .i64 x.kind, .string x.name, .int .i64 x.num, .slice B x.kids.length d]) ∧ Hid (x.size ≤ 181) ∧ Hid (TlO w w' t A0 c0 A zs) ∧ Hid (LsT w (w'.alloc (.cells #[.int .i64 t.kind, .string t.name, .int .i64 t.num, .slice A0 t.kids.length c0, .int .i64 x.kind, .string x.name, .int .i64 x.num, .slice B x.kids.length d] 24)) t x A0 c0 B d w'.heap.size)) := fun W h =>
    (made_any A zs c W h.byt hz hl hc hc2).mono fun e w' ⟨x, B, d, h1, _, h3, _, h5, h6⟩ => ⟨x, B, d, h1, h3, h.later h5, (h.one.now.later h5).later (later_alloc _ _), (h.one.tm.later h5).later (later_alloc _ _), h6.wide.later (later_alloc _ _), World.alloc_heap_new _ _⟩
  clear hE hT hU hz hl hc hc2
  obtain ⟨N, hN⟩ : ∃ N, zs.length = N := ⟨_, rfl⟩
  rw [hN] at km ⊢
  replace hN := Lib.hid hN
  replace ht := Lib.hid ht
  go_enter Tryz.func3, Tryz.ntmps3
  go_wp2_with fail
  refine (examplesS_any _ hO.out.one.now.env).mono ?_
  rintro e w1 ⟨rfl, hb⟩
  replace hO := Lib.hid (hO.out.later hb)
  clear hb
  have q0 := cell_of_row w1 w.heap.size 0 _ _ _ hO.out.one.box
  have q1 := cell_of_row w1 w.heap.size 1 _ _ _ hO.out.one.box
  have q2 := cell_of_row w1 w.heap.size 2 _ _ _ hO.out.one.box
  have q3 := cell_of_row w1 w.heap.size 3 _ _ _ hO.out.one.box
  replace hO : Hid (TlO w w1.drew t A0 c0 A zs) := hO.out.later (Below.refl _ w1).drew
  go_wp2_with fail
  go_region_held3 (fun w' => w'.cell? ⟨w.heap.size, 0, none⟩ = some (.int .i64 t.kind) ∧ w'.cell? ⟨w.heap.size, 1, none⟩ = some (.string t.name) ∧ w'.cell? ⟨w.heap.size, 2, none⟩ = some (.int .i64 t.num) ∧ w'.cell? ⟨w.heap.size, 3, none⟩ = some (.slice A0 t.kids.length c0)) (first | exact ⟨q0, q1, q2, q3⟩ | exact hO.out.boxA _) (first | (go_at_call 6; have hP := hO; clear hO q0 q1 q2 q3; refine (km.out _ hP.out).mono ?_; clear hP; rintro e w9 ⟨x, B, d, rfl, hxs, hO, hLs⟩; have q0 := cell_of_row w9 w.heap.size 0 _ _ _ hO.out.one.box; have q1 := cell_of_row w9 w.heap.size 1 _ _ _ hO.out.one.box; have q2 := cell_of_row w9 w.heap.size 2 _ _ _ hO.out.one.box; have q3 := cell_of_row w9 w.heap.size 3 _ _ _ hO.out.one.box))
  clear hO q0 q1 q2 q3 km
  obtain ⟨g, hg⟩ : ∃ g, w9.heap.size = g := ⟨_, rfl⟩
  rw [hg] at hLs ⊢
  obtain ⟨V, hV⟩ : ∃ V, w9.alloc (.cells #[.int .i64 t.kind, .string t.name, .int .i64 t.num, .slice A0 t.kids.length c0, .int .i64 x.kind, .string x.name, .int .i64 x.num, .slice B x.kids.length d] 24) = V := ⟨_, rfl⟩
  rw [hV] at hLs ⊢
  clear hV hg
  go_wp2_with fail
  go_loopw [19] (fun i wr => ∃ k : Nat, k ≤ 2 ∧ i = .int .i64 k ∧ Hid (LsT w wr t x A0 c0 B d g)) (fun i _ => 2 - (intOf i).toNat)
  case atStart => exact ⟨0, Nat.zero_le _, rfl, hLs.out⟩
  case round =>
    clear hLs
    obtain ⟨k, hk, rfl, hLs⟩ := hrel
    by_cases hlt : k < 2
    · obtain ⟨y, Ay, cy, hys, hyT, c0', c1', c2', c3'⟩ := hLs.out.get ht.out (by have := hxs.out; omega) k hlt
      have hba : Below wr.heap.size wr (wr.alloc (.cells #[.int .i64 y.kind, .string y.name, .int .i64 y.num, .slice Ay y.kids.length cy] 24)) := later_alloc _ _
      have hL9 : LsT w (wr.alloc (.cells #[.int .i64 y.kind, .string y.name, .int .i64 y.num, .slice Ay y.kids.length cy] 24)) t x A0 c0 B d g := hLs.out.later hba
      have hbx : (wr.alloc (.cells #[.int .i64 y.kind, .string y.name, .int .i64 y.num, .slice Ay y.kids.length cy] 24)).heap[wr.heap.size]? = some (.cells #[.int .i64 y.kind, .string y.name, .int .i64 y.num, .slice Ay y.kids.length cy] 24 (0, 0)) := World.alloc_heap_new _ _
      have kt := toks_any y Ay cy (wr.alloc (.cells #[.int .i64 y.kind, .string y.name, .int .i64 y.num, .slice Ay y.kids.length cy] 24)) hL9.now.env (by omega) (hyT _ hL9)
      unfold tmV at kt
      have hlen : (showT y).length ≤ 60000 := by
        unfold showT
        split
        · rename_i h
          obtain ⟨h1, h2⟩ := right_rt h
          have := (toks_len h1).1
          omega
        · simp
      obtain ⟨ts, hts⟩ : ∃ l, showT y = l := ⟨_, rfl⟩
      rw [hts] at kt hlen
      obtain ⟨M, hM⟩ : ∃ n, ts.length = n := ⟨_, rfl⟩
      rw [hM] at kt hlen
      obtain ⟨sx, hsx⟩ : ∃ l, showS y = l := ⟨_, rfl⟩
      obtain ⟨b7, hb7⟩ : ∃ b, wr.heap.size = b := ⟨_, rfl⟩
      have hI0 : Hid (InT w (wr.alloc (.cells #[.int .i64 y.kind, .string y.name, .int .i64 y.num, .slice Ay y.kids.length cy] 24)) t x A0 c0 B d g y Ay cy b7 none none [] []) := ⟨hL9, by rw [← hb7]; exact hbx, X.Toks.nil _ _ _, X.Toks.nil _ _ _⟩
      replace kt := Lib.hid kt
      replace hyT := Lib.hid hyT
      replace hM := Lib.hid hM
      replace hts := Lib.hid hts
      replace hsx := Lib.hid hsx
      replace hys := Lib.hid hys
      clear hba hL9 hbx
      go_wp2_with fail
      try rw [hb7]
      clear hb7
      refine kt.out.mono ?_
      rintro e w3 ⟨D1, d1, rfl, hD1, hb3⟩
      have hI := Lib.hid (hI0.out.later hb3)
      have kf := reftoksS_any D1 ts d1 w3 hD1 (by rw [hM.out]; omega)
      rw [hM.out] at kf
      replace kf := Lib.hid kf
      clear kt hb3 hI0 hD1 c0' c1' c2' c3'
      go_wp2_with fail
      refine kf.out.mono ?_
      rintro e w4 ⟨hb4, D2, d2, rfl, hD2⟩
      have hI1 : Hid (InT w w4 t x A0 c0 B d g y Ay cy b7 D2 none ts []) := ⟨hI.out.ls.later hb4, (hb4.block _ (World.lt_of_get hI.out.box)).trans hI.out.box, hD2, X.Toks.nil _ _ _⟩
      clear kf hb4 hI hD2
      have q0 := cell_of_row w4 b7 0 _ _ _ hI1.out.box
      have q1 := cell_of_row w4 b7 1 _ _ _ hI1.out.box
      have q2 := cell_of_row w4 b7 2 _ _ _ hI1.out.box
      have q3 := cell_of_row w4 b7 3 _ _ _ hI1.out.box
      have kf : Hid (Calls Tryz.prog 10 #[.agg #[.int .i64 y.kind, .string y.name, .int .i64 y.num, .slice Ay y.kids.length cy]] w4 fun e w' => ∃ A' c', e = .returned (.agg #[.int .i64 y.kind, .string y.name, .int .i64 y.num, .slice A' y.kids.length c']) ∧ Below w4.heap.size w4 w' ∧ TmV w' (fun k => w4.heap.size ≤ k ∧ k < w'.heap.size) y A' c') := reftermS_any y.size y Ay cy w4 (Nat.le_refl _) (by have := hys.out; omega) (hyT.out _ hI1.out.ls)
      go_wp2_with fail
      refine kf.out.mono ?_
      rintro e w5 ⟨A5, c5, rfl, hb5, hT5⟩
      have hI2 := Lib.hid (hI1.out.later hb5)
      have kg := reftoksR_any y A5 c5 w5 (by have := hys.out; omega) hT5.wide
      rw [hts.out, hM.out] at kg
      unfold tmV at kg
      replace kg := Lib.hid kg
      clear kf hb5 hI1 hT5 q0 q1 q2 q3
      go_wp2_with fail
      refine kg.out.mono ?_
      rintro e w6 ⟨D3, d3, rfl, hD3, hb6⟩
      have hI : Hid (InT w w6 t x A0 c0 B d g y Ay cy b7 D2 D3 ts ts) := ⟨hI2.out.ls.later hb6, (hb6.block _ (World.lt_of_get hI2.out.box)).trans hI2.out.box, hI2.out.k2.later hb6, hD3⟩
      clear kg hb6 hI2 hD3
      have ks : Hid (∀ W, InT w W t x A0 c0 B d g y Ay cy b7 D2 D3 ts ts → Calls Tryz.prog 11 #[.agg #[.int .i64 y.kind, .string y.name, .int .i64 y.num, .slice Ay y.kids.length cy]] W fun e w' => e = .returned (.string sx) ∧ Hid (InT w w' t x A0 c0 B d g y Ay cy b7 D2 D3 ts ts)) := fun W h =>
        (show_any y Ay cy W h.ls.now.env (by have := hys.out; omega) (hyT.out _ h.ls)).mono fun e w' h9 => ⟨by rw [h9.1, hsx.out], h.later h9.2⟩
      have kf : Hid (∀ W, InT w W t x A0 c0 B d g y Ay cy b7 D2 D3 ts ts → Calls Tryz.prog 10 #[.agg #[.int .i64 y.kind, .string y.name, .int .i64 y.num, .slice Ay y.kids.length cy]] W fun e w' => ∃ A' c', e = .returned (.agg #[.int .i64 y.kind, .string y.name, .int .i64 y.num, .slice A' y.kids.length c']) ∧ Hid (InT w w' t x A0 c0 B d g y Ay cy b7 D2 D3 ts ts) ∧ Hid (TmV w' (· < w'.heap.size) y A' c')) := fun W h =>
        (reftermS_any y.size y Ay cy W (Nat.le_refl _) (by have := hys.out; omega) (hyT.out _ h.ls)).mono fun e w' ⟨A', c', h1, h2, h3⟩ => ⟨A', c', h1, h.later h2, h3.wide⟩
      have kg : Hid (∀ W A' c', InT w W t x A0 c0 B d g y Ay cy b7 D2 D3 ts ts → TmV W (· < W.heap.size) y A' c' → Calls Tryz.prog 12 #[.agg #[.int .i64 y.kind, .string y.name, .int .i64 y.num, .slice A' y.kids.length c']] W fun e w' => e = .returned (.string sx) ∧ Hid (InT w w' t x A0 c0 B d g y Ay cy b7 D2 D3 ts ts)) := fun W A' c' h h2 =>
        (refshowR_any y A' c' W (by have := hys.out; omega) h2).mono fun e w' h9 => ⟨by rw [h9.1, hsx.out], h.later h9.2⟩
      have q0 := cell_of_row w6 b7 0 _ _ _ hI.out.box
      have q1 := cell_of_row w6 b7 1 _ _ _ hI.out.box
      have q2 := cell_of_row w6 b7 2 _ _ _ hI.out.box
      have q3 := cell_of_row w6 b7 3 _ _ _ hI.out.box
      go_wp2_with fail
      replace hI := Lib.hid (hI.out.later (Below.refl _ _).drew)
      go_region_held3 (fun w' => w'.cell? ⟨b7, 0, none⟩ = some (.int .i64 y.kind) ∧ w'.cell? ⟨b7, 1, none⟩ = some (.string y.name) ∧ w'.cell? ⟨b7, 2, none⟩ = some (.int .i64 y.num) ∧ w'.cell? ⟨b7, 3, none⟩ = some (.slice Ay y.kids.length cy)) (exact ⟨q0, q1, q2, q3⟩) (first | (go_at_call 11; have hP := hI; clear hI q0 q1 q2 q3; refine (ks.out _ hP.out).mono ?_; clear hP; rintro e w9 ⟨rfl, hI⟩; have q0 := cell_of_row w9 b7 0 _ _ _ hI.out.box; have q1 := cell_of_row w9 b7 1 _ _ _ hI.out.box; have q2 := cell_of_row w9 b7 2 _ _ _ hI.out.box; have q3 := cell_of_row w9 b7 3 _ _ _ hI.out.box) | (go_at_call 10; have hP := hI; clear hI q0 q1 q2 q3; refine (kf.out _ hP.out).mono ?_; clear hP; rintro e w9 ⟨A9, c9, rfl, hI, hR9⟩; have q0 := cell_of_row w9 b7 0 _ _ _ hI.out.box; have q1 := cell_of_row w9 b7 1 _ _ _ hI.out.box; have q2 := cell_of_row w9 b7 2 _ _ _ hI.out.box; have q3 := cell_of_row w9 b7 3 _ _ _ hI.out.box) | (go_at_call 12; have hP := hI; clear hI q0 q1 q2 q3; refine (kg.out _ _ _ hP.out hR9.out).mono ?_; clear hP; rintro e w9 ⟨rfl, hI⟩; have q0 := cell_of_row w9 b7 0 _ _ _ hI.out.box; have q1 := cell_of_row w9 b7 1 _ _ _ hI.out.box; have q2 := cell_of_row w9 b7 2 _ _ _ hI.out.box; have q3 := cell_of_row w9 b7 3 _ _ _ hI.out.box))
      clear q0 q1 q2 q3 ks kf kg
      go_wp2_with fail
      go_loopw [10] (fun i wr => ∃ k2 : Nat, k2 ≤ M ∧ i = .int .i64 k2 ∧ Hid (InT w wr t x A0 c0 B d g y Ay cy b7 D2 D3 ts ts)) (fun i _ => M - (intOf i).toNat)
      case atStart => exact ⟨0, Nat.zero_le _, rfl, hI.out⟩
      case round =>
        clear hI
        obtain ⟨k2, hk2, rfl, hI⟩ := hrel
        by_cases hlt2 : k2 < M
        · have hk9 : k2 < ts.length := by rw [hM.out]; exact hlt2
          obtain ⟨b1, o1, rfl, hb1, hc1⟩ := hI.out.k2 (by intro e; subst e; simp at hk9)
          obtain ⟨b2, o2, rfl, hb2, hc2⟩ := hI.out.k3 (by intro e; subst e; simp at hk9)
          obtain ⟨c0', c1', c2'⟩ := hc1 k2 hk9
          obtain ⟨d0', d1', d2'⟩ := hc2 k2 hk9
          clear hc1 hc2
          obtain ⟨z, hz⟩ : ∃ x, ts.getD k2 ⟨0, [], 0⟩ = x := ⟨_, rfl⟩
          rw [hz] at c0' c1' c2' d0' d1' d2'
          obtain ⟨S, hS⟩ : ∃ S, X.strOf z.text = S := ⟨_, rfl⟩
          rw [hS] at c1' d1'
          replace hz := Lib.hid hz
          replace hS := Lib.hid hS
          have hI9 := Lib.hid (fun n => hI.out.later (belowN (Below.refl _ wr) n))
          go_wp2_with fail
          go_quiet (fail)
          go_wp2_with fail
          go_roundw
          case rel => exact ⟨k2 + 1, by omega, by go_num, hI9.out _⟩
          case measure => simp [intOf]; omega
        · obtain rfl : k2 = M := by omega
          have hfin := Lib.hid hI.out.ls
          go_wp2_with fail
          go_roundw
          case rel => exact ⟨k + 1, by omega, by go_num, hfin.out⟩
          case measure => simp [intOf]; omega
    · obtain rfl : k = 2 := by omega
      go_wp2_with fail
      go_ret
      exact ⟨rfl, hLs.out.now.below⟩
end Go.Proofs.YthmchdpinobbgaaGreatDoor
