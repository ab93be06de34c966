/-
  The reference's Size and Depth of a term. Conditions: the term can be read; its size is below 2^62.
-/
import Derived.Test.YthmchdpinobbgaaGreatDoorTmEx0
namespace Go.Proofs.YthmchdpinobbgaaGreatDoor
open Go.RowKit Go.Shelf Go.Tm

/-- a node's header, and itself by value -/
theorem node_tmv {W : World} {p : Nat → Prop} {b o : Nat} : ∀ {t : Go.Tm.T}, NodeAt W p b o t → ∃ A c, Hdr W p b o t A c ∧ TmV W p t A c
  | .node k s n ks, h => by
    have h' := h
    rw [NodeAt] at h'
    obtain ⟨hb, hz, h0, h1, h2, A, c, h3, h4⟩ := h'
    refine ⟨A, c, ⟨hb, hz, h0, h1, h2, h3, fun i hi => ?_⟩, hz, h4⟩
    rcases h4 with rfl | ⟨kb, ko, rfl, h5⟩
    · exact absurd hi (Nat.not_lt_zero i)
    · exact ⟨kb, ko, rfl, RowAt.get i h5 hi⟩
theorem sizes_snoc : ∀ (ks : List Go.Tm.T) (k : Nat), k < ks.length → sizes (ks.take (k + 1)) = sizes (ks.take k) + (ks.getD k default).size
  | [], _, h => absurd h (Nat.not_lt_zero _)
  | t :: ts, 0, _ => by
    rw [List.take_succ_cons, List.take_zero, List.take_zero, sizes, sizes]
    show t.size + 0 = 0 + t.size
    omega
  | t :: ts, k + 1, h => by
    rw [List.take_succ_cons, List.take_succ_cons, sizes, sizes, sizes_snoc ts k (by simpa using h)]
    show _ = _ + (ts.getD k default).size
    omega
theorem sizes_take_le : ∀ (ks : List Go.Tm.T) (k : Nat), sizes (ks.take k) ≤ sizes ks
  | [], k => by rw [List.take_nil]; exact Nat.le_refl _
  | t :: ts, 0 => by rw [List.take_zero, sizes]; exact Nat.zero_le _
  | t :: ts, k + 1 => by rw [List.take_succ_cons, sizes, sizes]; have := sizes_take_le ts k; omega
theorem kids_lt (t : Go.Tm.T) : sizes t.kids + 1 = t.size := by
  cases t with
  | node k s n ks => rw [T.size]; show sizes ks + 1 = _; omega
theorem len_sizes : ∀ ks : List Go.Tm.T, ks.length ≤ sizes ks
  | [] => by rw [sizes]; exact Nat.le_refl _
  | t :: ts => by rw [sizes, List.length_cons]; have := len_sizes ts; have := kids_lt t; omega
theorem depths_snoc : ∀ (ks : List Go.Tm.T) (k : Nat), k < ks.length → depths (ks.take (k + 1)) = max (depths (ks.take k)) (ks.getD k default).depth
  | [], _, h => absurd h (Nat.not_lt_zero _)
  | t :: ts, 0, _ => by
    rw [List.take_succ_cons, List.take_zero, List.take_zero, depths, depths]
    show max t.depth 0 = max 0 t.depth
    omega
  | t :: ts, k + 1, h => by
    rw [List.take_succ_cons, List.take_succ_cons, depths, depths, depths_snoc ts k (by simpa using h)]
    show _ = max _ (ts.getD k default).depth
    omega
theorem kids_depth (t : Go.Tm.T) : depths t.kids + 1 = t.depth := by
  cases t with
  | node k s n ks => rw [T.depth]; show depths ks + 1 = _; omega

set_option maxRecDepth 100000 in
set_option maxHeartbeats 2000000 in
theorem refsize_any : ∀ (n : Nat) (t : Go.Tm.T) (A : Option Addr) (c : Nat) (w : World), t.size ≤ n → t.size ≤ 4611686018427387904 → TmV w (· < w.heap.size) t A c →
    Calls Tryz.prog 33 #[tmV t A c] w fun e w' => e = .returned (.int .i64 (t.size : Nat)) ∧ Below w.heap.size w w'
  | 0, t, _, _, _, h, _, _ => by have := kids_lt t; omega
  | n + 1, t, A, c, w, hn, hz, hT => by
    have IH := Lib.hid (refsize_any n)
    have hks := kids_lt t
    replace hT := Lib.hid hT
    unfold tmV
    obtain ⟨L, hL⟩ : ∃ L, t.kids.length = L := ⟨_, rfl⟩
    rw [hL]
    have hLs : L ≤ sizes t.kids := by rw [← hL]; exact len_sizes _
    obtain ⟨V, hV⟩ : ∃ V, w.alloc (.cells #[.int .i64 t.kind, .string t.name, .int .i64 t.num, .slice A L c] 35) = V := ⟨_, rfl⟩
    have hbx : Hid (V.heap[w.heap.size]? = some (.cells #[.int .i64 t.kind, .string t.name, .int .i64 t.num, .slice A L c] 35 (0, 0))) := by show _ = _; rw [← hV]; exact World.alloc_heap_new _ _
    have hbV : Below w.heap.size w V := by rw [← hV]; exact later_alloc _ _
    have hTV := Lib.hid (hT.out.later hbV)
    have hVz : w.heap.size < V.heap.size := World.lt_of_get hbx.out
    replace hbV := Lib.hid hbV
    replace hL := Lib.hid hL
    replace hV := Lib.hid hV
    go_enter Tryz.func33, Tryz.ntmps33
    go_wp2_with fail
    try rw [hV.out]
    go_loopw [3, 4] (fun s i wr => ∃ k : Nat, k ≤ L ∧ i = .int .i64 k ∧ s = .int .i64 ((1 + sizes (t.kids.take k) : Nat)) ∧ Hid (Below V.heap.size V wr)) (fun _ i _ => L - (intOf i).toNat)
    case atStart => exact ⟨0, Nat.zero_le _, rfl, by rw [List.take_zero, sizes]; rfl, Below.refl _ _⟩
    case round =>
      obtain ⟨k, hk, rfl, rfl, hB⟩ := hrel
      have hb2 := (hB.out.block w.heap.size hVz).trans hbx.out
      have p3 := cell_of_row wr w.heap.size 3 _ _ _ hb2
      have hl := World.lt_of_get hb2
      replace hb2 := Lib.hid hb2
      by_cases hlt : k < L
      · have hk9 : k < t.kids.length := by rw [hL.out]; exact hlt
        obtain ⟨kb, ko, rfl, hrow⟩ := (hTV.out.later hB.out).row.resolve_left (fun e => by rw [e] at hk9; exact absurd hk9 (Nat.not_lt_zero _))
        obtain ⟨A2, c2, hh, hv⟩ := node_tmv (hrow.get k hk9)
        have hsn := sizes_snoc t.kids k hk9
        have hle := sizes_take_le t.kids (k + 1)
        obtain ⟨u, hu⟩ : ∃ u, t.kids.getD k default = u := ⟨_, rfl⟩
        rw [hu] at hh hv hsn
        replace hu := Lib.hid hu
        clear hrow
        obtain ⟨z1, hz1⟩ : ∃ z, sizes (t.kids.take k) = z := ⟨_, rfl⟩
        obtain ⟨z2, hz2⟩ : ∃ z, sizes (t.kids.take (k + 1)) = z := ⟨_, rfl⟩
        rw [hz1] at hsn ⊢
        rw [hz2] at hsn hle
        replace hz1 := Lib.hid hz1
        have c0 := hh.kind
        have c1 := hh.name
        have c2' := hh.num
        have c3 := hh.kids
        replace hh := Lib.hid hh
        have kk := Lib.hid (IH.out u A2 c2 wr (by omega) (by omega) hv)
        clear hv
        unfold tmV at kk
        go_wp2_with fail
        refine kk.out.mono ?_
        rintro e w4 ⟨rfl, hb9⟩
        have hB2 := Lib.hid (hB.out.trans (hb9.mono hB.out.size))
        clear hb9 kk
        go_wp2_with fail
        go_roundw
        case rel => exact ⟨k + 1, by omega, by go_num, by rw [hz2, hsn]; congr 1; push_cast; omega, hB2.out⟩
        case measure => simp [intOf]; omega
      · obtain rfl : k = L := by omega
        have hfin : (1 + sizes (t.kids.take k)) = t.size := by rw [← hL.out, List.take_length]; omega
        rw [hfin]
        have hlast := Lib.hid (hbV.out.trans (hB.out.mono (by omega)))
        go_wp2_with fail
        go_ret
        exact ⟨rfl, hlast.out⟩

set_option maxRecDepth 100000 in
set_option maxHeartbeats 2000000 in
theorem refdepth_any : ∀ (n : Nat) (t : Go.Tm.T) (A : Option Addr) (c : Nat) (w : World), t.size ≤ n → t.size ≤ 4611686018427387904 → TmV w (· < w.heap.size) t A c →
    Calls Tryz.prog 32 #[tmV t A c] w fun e w' => e = .returned (.int .i64 (t.depth : Nat)) ∧ Below w.heap.size w w'
  | 0, t, _, _, _, h, _, _ => by have := kids_lt t; omega
  | n + 1, t, A, c, w, hn, hz, hT => by
    have IH := Lib.hid (refdepth_any n)
    have hks := kids_lt t
    replace hT := Lib.hid hT
    unfold tmV
    obtain ⟨L, hL⟩ : ∃ L, t.kids.length = L := ⟨_, rfl⟩
    rw [hL]
    have hLs : L ≤ sizes t.kids := by rw [← hL]; exact len_sizes _
    obtain ⟨V, hV⟩ : ∃ V, w.alloc (.cells #[.int .i64 t.kind, .string t.name, .int .i64 t.num, .slice A L c] 35) = V := ⟨_, rfl⟩
    have hbx : Hid (V.heap[w.heap.size]? = some (.cells #[.int .i64 t.kind, .string t.name, .int .i64 t.num, .slice A L c] 35 (0, 0))) := by show _ = _; rw [← hV]; exact World.alloc_heap_new _ _
    have hbV : Below w.heap.size w V := by rw [← hV]; exact later_alloc _ _
    have hTV := Lib.hid (hT.out.later hbV)
    have hVz : w.heap.size < V.heap.size := World.lt_of_get hbx.out
    replace hbV := Lib.hid hbV
    replace hL := Lib.hid hL
    replace hV := Lib.hid hV
    go_enter Tryz.func32, Tryz.ntmps32
    go_wp2_with fail
    try rw [hV.out]
    go_loopw [3, 4] (fun s i wr => ∃ k : Nat, k ≤ L ∧ i = .int .i64 k ∧ s = .int .i64 ((depths (t.kids.take k) : Nat)) ∧ Hid (Below V.heap.size V wr)) (fun _ i _ => L - (intOf i).toNat)
    case atStart => exact ⟨0, Nat.zero_le _, rfl, by rw [List.take_zero, depths]; rfl, Below.refl _ _⟩
    case round =>
      obtain ⟨k, hk, rfl, rfl, hB⟩ := hrel
      have hb2 := (hB.out.block w.heap.size hVz).trans hbx.out
      have p3 := cell_of_row wr w.heap.size 3 _ _ _ hb2
      have hl := World.lt_of_get hb2
      replace hb2 := Lib.hid hb2
      by_cases hlt : k < L
      · have hk9 : k < t.kids.length := by rw [hL.out]; exact hlt
        obtain ⟨kb, ko, rfl, hrow⟩ := (hTV.out.later hB.out).row.resolve_left (fun e => by rw [e] at hk9; exact absurd hk9 (Nat.not_lt_zero _))
        obtain ⟨A2, c2, hh, hv⟩ := node_tmv (hrow.get k hk9)
        have hsn := depths_snoc t.kids k hk9
        have hss := sizes_snoc t.kids k hk9
        have hle := sizes_take_le t.kids (k + 1)
        obtain ⟨u, hu⟩ : ∃ u, t.kids.getD k default = u := ⟨_, rfl⟩
        rw [hu] at hh hv hsn hss
        replace hu := Lib.hid hu
        clear hrow
        obtain ⟨z1, hz1⟩ : ∃ z, depths (t.kids.take k) = z := ⟨_, rfl⟩
        obtain ⟨z2, hz2⟩ : ∃ z, depths (t.kids.take (k + 1)) = z := ⟨_, rfl⟩
        rw [hz1] at hsn ⊢
        rw [hz2] at hsn
        replace hz1 := Lib.hid hz1
        have c0 := hh.kind
        have c1 := hh.name
        have c2' := hh.num
        have c3 := hh.kids
        replace hh := Lib.hid hh
        have kk := Lib.hid (IH.out u A2 c2 wr (by omega) (by omega) hv)
        clear hv
        unfold tmV at kk
        go_wp2_with fail
        refine kk.out.mono ?_
        rintro e w4 ⟨rfl, hb9⟩
        have hB2 := Lib.hid (hB.out.trans (hb9.mono hB.out.size))
        clear hb9 kk
        go_wp2_with fail
        go_roundw
        case rel => exact ⟨k + 1, by omega, by go_num, by rw [hz2, hsn]; congr 1; push_cast; omega, hB2.out⟩
        case measure => simp [intOf]; omega
      · obtain rfl : k = L := by omega
        have hfin : depths (t.kids.take k) + 1 = t.depth := by rw [← hL.out, List.take_length]; exact kids_depth t
        have hdz := depth_le t
        obtain ⟨z, hz9⟩ : ∃ z, depths (t.kids.take k) = z := ⟨_, rfl⟩
        rw [hz9] at hfin ⊢
        rw [← hfin] at hdz
        replace hz9 := Lib.hid hz9
        replace hfin := Lib.hid hfin
        have hlast := Lib.hid (hbV.out.trans (hB.out.mono (by omega)))
        go_wp2_with fail
        go_ret
        exact ⟨ret_int (by rw [← hfin.out]; push_cast; rfl), hlast.out⟩
end Go.Proofs.YthmchdpinobbgaaGreatDoor
