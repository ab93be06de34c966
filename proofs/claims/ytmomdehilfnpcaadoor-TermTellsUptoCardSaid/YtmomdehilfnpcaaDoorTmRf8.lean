/-
  The reference's right of all nodes, and Right. Conditions: the term can be read; its size is below 2^62.
-/
import Derived.Test.YtmomdehilfnpcaaDoorTmRf7
import Derived.StillTailTactics
namespace Go.Proofs.YtmomdehilfnpcaaDoor
open Go.RowKit Go.Shelf Go.Tm Go.Lx
attribute [local go_sem] Oper.semAt_some

theorem nodesTs_false : ∀ (ts : List Go.Tm.T) (k : Nat), k < ts.length → nodesT (ts.getD k default) = false → nodesTs ts = false
  | [], _, h, _ => absurd h (Nat.not_lt_zero _)
  | t :: ts, 0, _, h => by rw [nodesTs, show nodesT t = false from h, Bool.false_and]
  | t :: ts, k + 1, hk, h => by rw [nodesTs, nodesTs_false ts k (by simpa using hk) h, Bool.and_false]
theorem nodesTs_true : ∀ (ts : List Go.Tm.T), (∀ k, k < ts.length → nodesT (ts.getD k default) = true) → nodesTs ts = true
  | [], _ => by rw [nodesTs]
  | t :: ts, h => by rw [nodesTs, show nodesT t = true from h 0 (by simp), nodesTs_true ts (fun k hk => h (k + 1) (by simpa using hk)), Bool.and_true]
theorem nodesT_unfold (t : Go.Tm.T) : nodesT t = (nodeB t && nodesTs t.kids) := by cases t; rw [nodesT]; rfl

set_option maxRecDepth 100000 in
set_option maxHeartbeats 4000000 in
theorem refnodes_any : ∀ (n : Nat) (t : Go.Tm.T) (A : Option Addr) (c : Nat) (w : World), t.size ≤ n → t.size ≤ 4611686018427387904 → TmV w (· < w.heap.size) t A c →
    Calls Tryd.prog 37 #[tmV t A c] w fun e w' => e = .returned (.bool (nodesT t)) ∧ Below w.heap.size w w'
  | 0, t, _, _, _, h, _, _ => by have := kids_lt t; omega
  | n + 1, t, A, c, w, hn, hz, hT => by
    have IH := Lib.hid (refnodes_any n)
    have hks := kids_lt t
    have hLs := len_sizes t.kids
    have hbV : Below w.heap.size w (w.alloc (.cells #[.int .i64 t.kind, .string t.name, .int .i64 t.num, .slice A t.kids.length c] 28)) := later_alloc _ _
    have kn := refnode_any t A c _ (hT.later hbV)
    replace hT := Lib.hid hT
    unfold tmV at kn ⊢
    obtain ⟨L, hL⟩ : ∃ L, t.kids.length = L := ⟨_, rfl⟩
    rw [hL] at hLs hbV kn
    rw [hL]
    obtain ⟨V, hV⟩ : ∃ V, w.alloc (.cells #[.int .i64 t.kind, .string t.name, .int .i64 t.num, .slice A L c] 28) = V := ⟨_, rfl⟩
    have hbx : V.heap[w.heap.size]? = some (.cells #[.int .i64 t.kind, .string t.name, .int .i64 t.num, .slice A L c] 28 (0, 0)) := by rw [← hV]; exact World.alloc_heap_new _ _
    rw [hV] at hbV kn
    have hVz := World.lt_of_get hbx
    have i0 := cell_of_row V w.heap.size 0 _ _ _ hbx
    have i1 := cell_of_row V w.heap.size 1 _ _ _ hbx
    have i2 := cell_of_row V w.heap.size 2 _ _ _ hbx
    have i3 := cell_of_row V w.heap.size 3 _ _ _ hbx
    replace hbx := Lib.hid hbx
    replace hV := Lib.hid hV
    replace hL := Lib.hid hL
    have hU := Lib.hid (nodesT_unfold t)
    cases hnb : nodeB t with
    | false =>
      rw [hnb] at kn
      have hF : Hid (nodesT t = false) := by show _ = _; rw [hU.out, hnb]; rfl
      replace hnb := Lib.hid hnb
      replace kn := Lib.hid kn
      replace hbV := Lib.hid hbV
      go_enter Tryd.func37, Tryd.ntmps37
      go_wp2_with fail
      try rw [hV.out]
      go_wp2_with fail
      refine kn.out.mono ?_
      rintro e w1 ⟨rfl, hb1⟩
      have hlast := Lib.hid (hbV.out.trans (hb1.mono (by omega)))
      clear hb1
      go_wp2_with fail
      go_ret
      exact ⟨ret_bool hF.out.symm, hlast.out⟩
    | true =>
      rw [hnb] at kn
      have hE : Hid (nodesT t = nodesTs t.kids) := by show _ = _; rw [hU.out, hnb]; rfl
      replace hnb := Lib.hid hnb
      replace kn := Lib.hid kn
      replace hbV := Lib.hid hbV
      go_enter Tryd.func37, Tryd.ntmps37
      go_wp2_with fail
      try rw [hV.out]
      go_wp2_with fail
      refine kn.out.mono ?_
      rintro e w1 ⟨rfl, hb1⟩
      have hx1 := (hb1.block w.heap.size hVz).trans hbx.out
      have hbW : Below w.heap.size w w1 := hbV.out.trans (hb1.mono (by omega))
      have hT1 := Lib.hid (hT.out.later hbW)
      have hz1 := World.lt_of_get hx1
      replace hx1 := Lib.hid hx1
      replace hbW := Lib.hid hbW
      clear hb1 kn i0 i1 i2 i3 hbx hbV hVz hV
      go_wp2_with fail
      go_loopw [3] (fun i wr => ∃ k : Nat, k ≤ L ∧ i = .int .i64 k ∧ Hid (∀ j, j < k → nodesT (t.kids.getD j default) = true) ∧ Hid (Below w1.heap.size w1 wr)) (fun i _ => L - (intOf i).toNat)
      case atStart => exact ⟨0, Nat.zero_le _, rfl, fun j hj => absurd hj (Nat.not_lt_zero j), Below.refl _ _⟩
      case round =>
        obtain ⟨k, hk, rfl, hP, hB⟩ := hrel
        have hb2 := (hB.out.block w.heap.size hz1).trans hx1.out
        have p3 := cell_of_row wr w.heap.size 3 _ _ _ hb2
        have hl := World.lt_of_get hb2
        replace hb2 := Lib.hid hb2
        by_cases hlt : k < L
        · have hk9 : k < t.kids.length := by rw [hL.out]; exact hlt
          obtain ⟨kb, ko, rfl, hrow⟩ := (hT1.out.later hB.out).row.resolve_left (fun e => by rw [e] at hk9; exact absurd hk9 (Nat.not_lt_zero _))
          obtain ⟨A2, c2, hh, hv⟩ := node_tmv (hrow.get k hk9)
          have hsn := sizes_snoc t.kids k hk9
          have hle := sizes_take_le t.kids (k + 1)
          obtain ⟨u, hu⟩ : ∃ u, t.kids.getD k default = u := ⟨_, rfl⟩
          rw [hu] at hh hv hsn
          have hun : u.size ≤ n := by omega
          have huz : u.size ≤ 4611686018427387904 := by omega
          clear hrow hsn hle
          replace hu := Lib.hid hu
          have c0 := hh.kind
          have c1 := hh.name
          have c2' := hh.num
          have c3 := hh.kids
          replace hh := Lib.hid hh
          have kk := IH.out u A2 c2 wr hun huz hv
          clear hv
          unfold tmV at kk
          cases hr : nodesT u with
          | true =>
            rw [hr] at kk
            have hP2 : Hid (∀ j, j < k + 1 → nodesT (t.kids.getD j default) = true) := fun j hj => by
              by_cases e : j = k
              · subst e; rw [hu.out]; exact hr
              · exact hP.out j (by omega)
            replace hr := Lib.hid hr
            replace kk := Lib.hid kk
            go_wp2_with fail
            refine kk.out.mono ?_
            rintro e w4 ⟨rfl, hb9⟩
            have hB2 := Lib.hid (hB.out.trans (hb9.mono hB.out.size))
            clear hb9 kk
            go_wp2_with fail
            go_roundw
            case rel => exact ⟨k + 1, by omega, by go_num, hP2.out, hB2.out⟩
            case measure => simp [intOf]; omega
          | false =>
            rw [hr] at kk
            have hF : Hid (nodesT t = false) := by
              show _ = _
              rw [hE.out]
              exact nodesTs_false t.kids k hk9 (by rw [hu.out]; exact hr)
            replace hr := Lib.hid hr
            replace kk := Lib.hid kk
            go_wp2_with fail
            refine kk.out.mono ?_
            rintro e w4 ⟨rfl, hb9⟩
            have hlast := Lib.hid (hbW.out.trans ((hB.out.trans (hb9.mono hB.out.size)).mono (by omega)))
            clear hb9 kk
            go_wp2_with fail
            go_ret
            exact ⟨ret_bool hF.out.symm, hlast.out⟩
        · obtain rfl : k = L := by omega
          have hF : Hid (nodesT t = true) := by
            show _ = _
            rw [hE.out]
            exact nodesTs_true t.kids (fun j hj => hP.out j (by rw [← hL.out]; exact hj))
          have hlast := Lib.hid (hbW.out.trans (hB.out.mono (by omega)))
          go_wp2_with fail
          go_ret
          exact ⟨ret_bool hF.out.symm, hlast.out⟩

set_option maxRecDepth 100000 in
set_option maxHeartbeats 4000000 in
theorem refright_any (t : Go.Tm.T) (A : Option Addr) (c : Nat) (w : World) (hz : t.size ≤ 4611686018427387904) (hT : TmV w (· < w.heap.size) t A c) :
    Calls Tryd.prog 15 #[tmV t A c] w fun e w' => e = .returned (.bool (rightT t)) ∧ Below w.heap.size w w' := by
  have hR := Lib.hid (right_iff t)
  have hbV : Below w.heap.size w (w.alloc (.cells #[.int .i64 t.kind, .string t.name, .int .i64 t.num, .slice A t.kids.length c] 28)) := later_alloc _ _
  have hbx : (w.alloc (.cells #[.int .i64 t.kind, .string t.name, .int .i64 t.num, .slice A t.kids.length c] 28)).heap[w.heap.size]? = some (.cells #[.int .i64 t.kind, .string t.name, .int .i64 t.num, .slice A t.kids.length c] 28 (0, 0)) := World.alloc_heap_new _ _
  have kd := Lib.hid (fun (W : World) (h : Below w.heap.size w W) => refdepth_any t.size t A c W (Nat.le_refl _) hz (hT.later h))
  have ks := Lib.hid (fun (W : World) (h : Below w.heap.size w W) => refsize_any t.size t A c W (Nat.le_refl _) hz (hT.later h))
  have kn := Lib.hid (fun (W : World) (h : Below w.heap.size w W) => refnodes_any t.size t A c W (Nat.le_refl _) hz (hT.later h))
  clear hT
  unfold tmV at kd ks kn ⊢
  obtain ⟨V, hV⟩ : ∃ V, w.alloc (.cells #[.int .i64 t.kind, .string t.name, .int .i64 t.num, .slice A t.kids.length c] 28) = V := ⟨_, rfl⟩
  rw [hV] at hbx hbV
  obtain ⟨L, hL⟩ : ∃ L, t.kids.length = L := ⟨_, rfl⟩
  rw [hL] at kd ks kn hbx hV ⊢
  obtain ⟨z, hzz⟩ : ∃ z, t.size = z := ⟨_, rfl⟩
  obtain ⟨d, hd⟩ : ∃ z, t.depth = z := ⟨_, rfl⟩
  obtain ⟨r, hr⟩ : ∃ z, nodesT t = z := ⟨_, rfl⟩
  obtain ⟨R, hRR⟩ : ∃ z, rightT t = z := ⟨_, rfl⟩
  rw [hzz] at ks
  rw [hd] at kd
  rw [hr] at kn
  rw [hRR]
  have hE : Hid (R = (decide (z ≤ 10000) && (decide (d ≤ 200) && r))) := by show _ = _; rw [← hRR, hR.out, hzz, hd, hr]
  clear hR
  have i0 := cell_of_row V w.heap.size 0 _ _ _ hbx
  have i1 := cell_of_row V w.heap.size 1 _ _ _ hbx
  have i2 := cell_of_row V w.heap.size 2 _ _ _ hbx
  have i3 := cell_of_row V w.heap.size 3 _ _ _ hbx
  have hVz := World.lt_of_get hbx
  replace hbx := Lib.hid hbx
  replace hV := Lib.hid hV
  replace hL := Lib.hid hL
  replace hzz := Lib.hid hzz
  replace hd := Lib.hid hd
  replace hr := Lib.hid hr
  replace hRR := Lib.hid hRR
  replace hbV := Lib.hid hbV
  go_enter Tryd.func15, Tryd.ntmps15
  go_wp2_with fail
  try rw [hV.out]
  go_wp2_with fail
  refine (kd.out V hbV.out).mono ?_
  rintro e w1 ⟨rfl, hb1⟩
  have hx1 := (hb1.block w.heap.size hVz).trans hbx.out
  replace hb1 := Lib.hid (hbV.out.trans (hb1.mono (by omega)))
  clear i0 i1 i2 i3 kd
  by_cases hd2 : d ≤ 200
  case neg =>
    have hF : Hid (R = false) := by show _ = _; rw [hE.out, decide_eq_false hd2]; simp
    replace hx1 := Lib.hid hx1
    have q : decide ((d : Int) ≤ 200) = false := decide_eq_false (by omega)
    go_wp2_with fail
    go_ret
    exact ⟨ret_bool hF.out.symm, hb1.out⟩
  have i0 := cell_of_row w1 w.heap.size 0 _ _ _ hx1
  have i1 := cell_of_row w1 w.heap.size 1 _ _ _ hx1
  have i2 := cell_of_row w1 w.heap.size 2 _ _ _ hx1
  have i3 := cell_of_row w1 w.heap.size 3 _ _ _ hx1
  have hz1 := World.lt_of_get hx1
  replace hx1 := Lib.hid hx1
  have q : decide ((d : Int) ≤ 200) = true := decide_eq_true (by omega)
  go_wp2_with fail
  refine (ks.out w1 hb1.out).mono ?_
  rintro e w2 ⟨rfl, hb2⟩
  have hx2 := (hb2.block w.heap.size hz1).trans hx1.out
  replace hb2 := Lib.hid (hb1.out.trans (hb2.mono (by omega)))
  clear i0 i1 i2 i3 ks
  by_cases hz2 : z ≤ 10000
  case neg =>
    have hF : Hid (R = false) := by show _ = _; rw [hE.out, decide_eq_false hz2]; rfl
    replace hx2 := Lib.hid hx2
    have q2 : decide ((z : Int) ≤ 10000) = false := decide_eq_false (by omega)
    go_wp2_with fail
    go_ret
    exact ⟨ret_bool hF.out.symm, hb2.out⟩
  have i0 := cell_of_row w2 w.heap.size 0 _ _ _ hx2
  have i1 := cell_of_row w2 w.heap.size 1 _ _ _ hx2
  have i2 := cell_of_row w2 w.heap.size 2 _ _ _ hx2
  have i3 := cell_of_row w2 w.heap.size 3 _ _ _ hx2
  have hz3 := World.lt_of_get hx2
  replace hx2 := Lib.hid hx2
  have q2 : decide ((z : Int) ≤ 10000) = true := decide_eq_true (by omega)
  have hF : Hid (R = r) := by show _ = _; rw [hE.out, decide_eq_true hz2, decide_eq_true hd2]; rfl
  go_wp2_with fail
  refine (kn.out w2 hb2.out).mono ?_
  rintro e w3 ⟨rfl, hb3⟩
  replace hb3 := Lib.hid (hb2.out.trans (hb3.mono (by omega)))
  go_wp2_with fail
  go_ret
  exact ⟨ret_bool hF.out.symm, hb3.out⟩
end Go.Proofs.YtmomdehilfnpcaaDoor
