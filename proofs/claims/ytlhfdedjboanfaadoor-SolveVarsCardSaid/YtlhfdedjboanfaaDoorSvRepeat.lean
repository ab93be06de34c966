/-
  Index and Repeat of words. Condition: the words can be read; at most 2^40 of them.
-/
import Derived.Test.YtlhfdedjboanfaaDoorSvSolves
import Derived.Laws.CopyOwn
import Derived.Laws.OwnMore
import Derived.Deep.OwnRows
namespace Go.At
/-- the first place of a word -/
def idxU (us : List Nat) (r : Nat) : Int := match us.findIdx? (fun x => x == r) with | some i => (i : Int) | none => -1
theorem idxU_hit (us : List Nat) (r k : Nat) (hk : k < us.length) (h0 : (us.take k).all (fun x => !(x == r)) = true) (h : us.getD k 0 = r) : idxU us r = (k : Int) := by
  have : us.findIdx? (fun x => x == r) = some k := by
    rw [List.findIdx?_eq_some_iff_getElem]
    refine ⟨hk, ?_, fun j hj => ?_⟩
    · rw [List.getD_eq_getElem?_getD, List.getElem?_eq_getElem hk] at h
      exact beq_iff_eq.2 h
    · rw [List.all_eq_true] at h0
      have := h0 us[j] (List.mem_take_iff_getElem.2 ⟨j, by omega, rfl⟩)
      simpa using this
  unfold idxU
  rw [this]
theorem idxU_none (us : List Nat) (r : Nat) (h0 : us.all (fun x => !(x == r)) = true) : idxU us r = -1 := by
  have : us.findIdx? (fun x => x == r) = none := by
    rw [List.findIdx?_eq_none_iff]
    intro x hx
    have := List.all_eq_true.1 h0 x hx
    simpa using this
  unfold idxU
  rw [this]
theorem idxU_row (us : List Nat) (x : Nat) (hx : x < us.length) (hinj : ∀ j, j < us.length → us.getD j 0 = us.getD x 0 → j = x) : idxU us (us.getD x 0) = (x : Int) := by
  refine idxU_hit us _ x hx ?_ rfl
  rw [List.all_eq_true]
  intro y hy
  obtain ⟨j, hj, rfl⟩ := List.mem_take_iff_getElem.1 hy
  have hj2 : j < us.length := by omega
  rw [Bool.not_eq_true', beq_eq_false_iff_ne]
  intro e
  have := hinj j hj2 (by rw [List.getD_eq_getElem?_getD, List.getElem?_eq_getElem hj2]; exact e)
  omega
/-- words, filled up to m -/
def fillU (x n m : Nat) : List Value := List.replicate m (.int .u64 (x : Nat)) ++ List.replicate (n - m) (.int .u64 0)
theorem fillU_len {x n m : Nat} (h : m ≤ n) : (fillU x n m).length = n := by
  unfold fillU
  rw [List.length_append, List.length_replicate, List.length_replicate]
  omega
theorem fillU_splice {x n m j : Nat} (h : m + j ≤ n) : splice (fillU x n m) m (List.replicate j (.int .u64 (x : Nat))) = fillU x n (m + j) := by
  unfold splice fillU
  rw [List.take_append_of_le_length (by rw [List.length_replicate]; exact Nat.le_refl _), List.take_of_length_le (by rw [List.length_replicate]; exact Nat.le_refl _), List.length_replicate, List.drop_append, List.length_replicate, List.drop_of_length_le (by rw [List.length_replicate]; omega), List.nil_append, List.drop_replicate, ← List.append_assoc, List.replicate_append_replicate]
  congr 2
  omega
theorem fillU_all (x n : Nat) : fillU x n n = List.replicate n (.int .u64 (x : Nat)) := by unfold fillU; simp
theorem fillU_get {x n m j : Nat} (h : j < m) : (fillU x n m)[j]? = some (.int .u64 (x : Nat)) := by
  unfold fillU
  rw [List.getElem?_append_left (by rw [List.length_replicate]; exact h), List.getElem?_replicate_of_lt h]
end Go.At
namespace Go.Proofs.YtlhfdedjboanfaaDoor
open Go.RowKit Go.Shelf Go.At Go.Sv
attribute [local go_sem] Oper.semAt_some

set_option maxRecDepth 100000 in
set_option maxHeartbeats 1000000 in
theorem indexU_any (A : Option Addr) (us : List Nat) (c r : Nat) (w : World) (hU : L.Words w w.heap.size A us) (hl : us.length ≤ 8796093022208) :
    Calls Tryd.prog 33 #[.slice A us.length c, .int .u64 (r : Nat)] w fun e w' => e = .returned (.int .i64 (idxU us r)) ∧ w = w' := by
  replace hU := Lib.hid hU
  obtain ⟨Q, hQ⟩ : ∃ Q, us.length = Q := ⟨_, rfl⟩
  obtain ⟨R, hR⟩ : ∃ R, idxU us r = R := ⟨_, rfl⟩
  rw [hR]
  rw [hQ] at hl ⊢
  replace hQ := Lib.hid hQ
  replace hR := Lib.hid hR
  go_enter Tryd.func33, Tryd.ntmps33
  go_wp2_with fail
  go_loop [8] (fun i => ∃ k : Nat, k ≤ Q ∧ i = .int .i64 k ∧ Hid ((us.take k).all (fun x => !(x == r)) = true)) (fun i => Q - (intOf i).toNat)
  case atStart => exact ⟨0, Nat.zero_le _, rfl, rfl⟩
  case round =>
    obtain ⟨k, hk, rfl, hall⟩ := hrel
    by_cases hlt : k < Q
    · have hkl : k < us.length := by rw [hQ.out]; exact hlt
      obtain ⟨b, off, rfl, hbk, hc⟩ := hU.out (by intro e; subst e; simp at hkl)
      have c0 := hc k hkl
      clear hc
      replace c0 : w.cell? ⟨b, off + k, none⟩ = some (.int .u64 (us.getD k 0 : Nat)) := c0
      have ht := all_take us 0 (fun x => !(x == r)) k hkl
      have hhit := fun h => idxU_hit us r k hkl hall.out h
      generalize us.getD k 0 = x at c0 ht hhit
      by_cases hx : x = r
      · subst hx
        have hh := hhit rfl
        replace hh := Lib.hid hh
        clear hhit ht
        go_wp2_with fail
        go_ret
        exact ⟨ret_int (by rw [← hR.out]; exact hh.out.symm), rfl⟩
      · have hne : (((r : Nat) : Int) == ((x : Nat) : Int)) = false := by rw [beq_eq_false_iff_ne]; omega
        have hne2 : ¬ ((r : Int) = (x : Int)) := by omega
        have ht2 : Hid ((us.take (k + 1)).all (fun x => !(x == r)) = true) := by
          show _ = _
          have hb : (x == r) = false := by rw [beq_eq_false_iff_ne]; exact hx
          rw [ht, hall.out, hb]; rfl
        clear hhit ht hx
        go_wp2_with fail
        go_round
        case rel => exact ⟨k + 1, by omega, by go_num, ht2⟩
        case measure => simp [intOf]; omega
    · obtain rfl : k = Q := by omega
      have h1 := hall.out
      rw [List.take_of_length_le (by rw [hQ.out]; exact Nat.le_refl _)] at h1
      have hR2 : Hid (R = -1) := by show R = -1; rw [← hR.out]; exact idxU_none us r h1
      replace h1 := Lib.hid h1
      go_wp2_with fail
      go_ret
      exact ⟨ret_int hR2.out.symm, rfl⟩
theorem sz_u64 : (Tryd.prog.info? 72).map (·.size) = some 1 := by kernel_rfl
/-- the first word copied -/
theorem copy_first {W : World} {g b x n : Nat} (hg : W.heap[g]? = some (.cells (fillU x n 0).toArray 72 (0, 0))) (h1 : W.cell? ⟨b, 0, none⟩ = some (.int .u64 (x : Nat))) :
    ∃ W', (Builtin.copy_ #[23, 23] 3 #[.slice (some ⟨g, 0, none⟩) n n, .slice (some ⟨b, 0, none⟩) 1 1]).run Tryd.prog W = .ok (.int .i64 (Nat.min 1 n : Nat)) W' ∧ W'.heap[g]? = some (.cells (fillU x n (Nat.min 1 n)).toArray 72 (0, 0)) ∧ (∀ B, B ≤ g → B ≤ W.heap.size → Below B W W') := by
  by_cases hn : n = 0
  · subst hn
    refine ⟨W, run_copy_none W _ _ _ 72 _ _ 0 0 1 1 Tryd.underlying23 sz_u64 rfl, ?_, fun B _ _ => Below.refl _ _⟩
    exact hg
  · have hm : Nat.min 1 n = 1 := Nat.min_eq_left (by omega)
    rw [hm]
    refine ⟨_, run_copy_row Tryd.prog W _ _ _ 72 g 0 n n ⟨b, 0, none⟩ 1 1 _ 72 [.int .u64 (x : Nat)] Tryd.underlying23 sz_u64 hg (by rw [hm]; rfl) (fun j v hj => ?_) (by show 0 + 1 ≤ (fillU x n 0).length; rw [fillU_len (Nat.zero_le _)]; omega) (fun v hv => by simp at hv; subst hv; rfl), ?_, fun B hB hs => below_setRow (Below.refl _ _) hB _⟩
    · match j, hj with
      | 0, hj => cases hj; exact h1
      | j + 1, hj => simp at hj
    · have := fillU_splice (x := x) (n := n) (m := 0) (j := 1) (by omega)
      unfold splice at this
      rw [setRow_heap W g _ _ 72 _ hg]
      rw [show [Value.int .u64 (x : Nat)] = List.replicate 1 (Value.int .u64 (x : Nat)) from rfl, List.append_assoc]
      simp only at this ⊢
      rw [this, Nat.zero_add]
set_option maxRecDepth 100000 in
set_option maxHeartbeats 4000000 in
theorem repeat_any (b x n : Nat) (hn : n ≤ 1099511627776) (w : World) (h1 : w.cell? ⟨b, 0, none⟩ = some (.int .u64 (x : Nat))) :
    Calls Tryd.prog 57 #[.slice (some ⟨b, 0, none⟩) 1 1, .int .i64 n] w fun e w' => (∃ g, e = .returned (.slice (some ⟨g, 0, none⟩) n n) ∧ w.heap.size ≤ g ∧ w'.heap[g]? = some (.cells (List.replicate n (.int .u64 (x : Nat))).toArray 72 (0, 0))) ∧ Below w.heap.size w w' := by
  have kM := Lib.hid (fun W => (Tryd.bits_Mul 1 n (by omega) (by omega) W).mono fun e w' h => (And.intro h.1 h.2.symm : _ ∧ W = w'))
  rw [show (1 * n / 18446744073709551616 : Nat) = 0 by omega, show (1 * n % 18446744073709551616 : Nat) = n by omega] at kM
  have hmk := run_make_row' (P := Tryd.prog) 23 72 (.int .u64 0) 8 Tryd.underlying23 L.info_u64 rfl .i64 .i64 n (by omega) (by omega) w
  have hbl := World.block_lt_of_cell? w _ h1
  obtain ⟨W1, hW1⟩ : ∃ W, w.alloc (.cells (madeCells #[.int .u64 0] n) 72) = W := ⟨_, rfl⟩
  have hx1 := World.alloc_heap_new w (.cells (madeCells #[.int .u64 0] n) 72)
  have hb1 := later_alloc w (.cells (madeCells #[.int .u64 0] n) 72)
  rw [hW1] at hx1 hb1 hmk
  have e0 : madeCells #[.int .u64 0] n = (fillU x n 0).toArray := by
    have := toList_madeCells_one (.int .u64 0) n
    rw [show fillU x n 0 = List.replicate n (.int .u64 0) from by unfold fillU; simp, ← this]
  rw [e0] at hx1
  clear e0 hW1
  have h2 := (hb1.cell (p := ⟨b, 0, none⟩) hbl).trans h1
  have w0 : IntKind.u64.wrap (n : Int) = (n : Int) := by simp [IntKind.wrap, IntKind.bits, IntKind.signed]; omega
  have w1 : IntKind.i64.wrap (n : Int) = (n : Int) := by simp [IntKind.wrap, IntKind.bits, IntKind.signed]; omega
  obtain ⟨G, hG⟩ : ∃ G, w.heap.size = G := ⟨_, rfl⟩
  rw [hG] at hx1 hmk hb1 ⊢
  obtain ⟨W2, hrun, hx2, hb2⟩ := copy_first hx1 h2
  have hsz1 := hb1.size
  have hB2 := Lib.hid (hb1.trans (hb2 G (Nat.le_refl _) (by omega)))
  have hml : Nat.min 1 n ≤ n := Nat.min_le_right _ _
  have hm0 : n ≠ 0 → Nat.min 1 n ≠ 0 := by
    intro h
    have h9 : Nat.min 1 n = 1 := Nat.min_eq_left (by omega)
    rw [h9]; omega
  generalize Nat.min 1 n = m0 at hrun hx2 hml hm0
  replace hx1 := Lib.hid hx1
  replace hx2 := Lib.hid hx2
  replace hb1 := Lib.hid hb1
  replace hG := Lib.hid hG
  replace hm0 := Lib.hid hm0
  clear h1 hbl hb2 h2 hsz1
  go_enter Tryd.func57, Tryd.ntmps57
  go_wp2_with (go_at_call 76; refine (kM.out _).mono ?_; rintro e w' ⟨rfl, rfl⟩)
  clear hrun hmk
  go_loopw [8] (fun i W => ∃ m : Nat, m ≤ n ∧ i = .int .i64 m ∧ Hid (n ≠ 0 → m ≠ 0) ∧ Hid (W.heap[G]? = some (.cells (fillU x n m).toArray 72 (0, 0))) ∧ Hid (Below G w W)) (fun i _ => n - (intOf i).toNat)
  case atStart => exact ⟨m0, hml, rfl, hm0, hx2, hB2⟩
  case round =>
    obtain ⟨m, hm, rfl, hne, hg, hB⟩ := hrel
    by_cases hlt : m < n
    · obtain ⟨j, hj⟩ : ∃ j, Nat.min m (n - m) = j := ⟨_, rfl⟩
      have hjm : j ≤ m := by rw [← hj]; exact Nat.min_le_left _ _
      have hjn : j ≤ n - m := by rw [← hj]; exact Nat.min_le_right _ _
      have hj0 : 0 < j := by
        have h1 := hne.out (by omega)
        rw [← hj]
        exact Nat.lt_min.2 ⟨by omega, by omega⟩
      replace hj := Lib.hid hj
      have hnm : ¬ n = m := by omega
      have hwm : IntKind.i64.wrap ((m : Int) + (j : Int)) = ((m + j : Nat) : Int) := by
        rw [show ((m : Int) + (j : Int)) = ((m + j : Nat) : Int) by omega]
        simp [IntKind.wrap, IntKind.bits, IntKind.signed]; omega
      have hsrc : ∀ i v, (List.replicate j (Value.int .u64 (x : Nat)))[i]? = some v → wr.drew.cell? ((⟨G, 0, none⟩ : Addr).add i) = some v := fun i v hi => by
        have hij : i < j := by
          have := (List.getElem?_eq_some_iff.1 hi).1
          simpa using this
        rw [List.getElem?_replicate_of_lt hij] at hi
        rw [Addr.add_lit, Nat.zero_add]
        show wr.cell? ⟨G, i, none⟩ = _
        rw [cell_of_row wr G i _ _ _ hg.out, List.getElem?_toArray, fillU_get (by omega)]
        exact hi
      replace hsrc := Lib.hid hsrc
      go_wp2_with fail
      go_region_law (refine step_copy_splice rfl (.tmp 41) (.tmp 44) 23 23 rfl 72 Tryd.underlying23 sz_u64 (some ⟨G, m, none⟩) (some ⟨G, 0, none⟩) (n - m) (n - m) m n (by go_simp) (by go_simp) G m (fillU x n m) 72 hg.out (List.replicate j (.int .u64 (x : Nat))) (by rw [List.length_replicate]; exact hj.out.symm) (fun _ => ⟨rfl, _, rfl, fun i v hi => hsrc.out i v hi⟩) (by rw [List.length_replicate, fillU_len hm]; omega) (fun v hv => by rw [(List.mem_replicate.1 hv).2]; rfl) G w hB.out.drew (Nat.le_refl _) ?_
                     intro w4 hg4 hb4)
      all_goals
        have hg5 : Hid (w4.heap[G]? = some (.cells (fillU x n (m + j)).toArray 72 (0, 0))) := by
          have := hg4.out
          rw [fillU_splice (by omega)] at this
          exact this
        replace hb4 := Lib.hid hb4
        clear hg4
        try go_simp
        go_wp2_with fail
        go_roundw
        case rel => exact ⟨m + j, by omega, by first | rfl | go_num, fun _ => by omega, hg5, hb4⟩
        case measure => simp [intOf]; omega
    · obtain rfl : m = n := by omega
      have hgn := hg.out
      rw [fillU_all] at hgn
      replace hgn := Lib.hid hgn
      go_wp2_with fail
      go_ret
      exact ⟨⟨G, rfl, Nat.le_refl _, hgn.out⟩, hB.out⟩
end Go.Proofs.YtlhfdedjboanfaaDoor
