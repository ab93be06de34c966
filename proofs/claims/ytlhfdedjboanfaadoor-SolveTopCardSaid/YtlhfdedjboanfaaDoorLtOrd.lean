/-
  lat.ordered: whether rows are those of an order. Conditions: at most 64 rows, words of 64 bits within the rows; the library's table lies as laid.
-/
import Derived.Test.YtlhfdedjboanfaaDoorLtLeast
import Derived.Test.YtlhfdedjboanfaaDoorLtMarks
namespace Go.Proofs.YtlhfdedjboanfaaDoor.L
open Go.RowKit Go.Shelf Go.Lt
attribute [local go_sem] Oper.semAt_some

theorem ordRow_true {us : List Nat} {k : Nat} {ys : List (PAt (row us k))} (hb : (row us k).testBit k = true) (hy : ys.map (·.1) = places (row us k)) (h : ∀ y ∈ ys, ordPlace us k y.1 = true) : ordRow us k = true := by
  unfold ordRow
  rw [hb, ← hy]
  simp only [Bool.true_and, List.all_eq_true, List.mem_map]
  rintro _ ⟨y, hm, rfl⟩
  exact h y hm
theorem ordered_false {us : List Nat} {k : Nat} (hk : k < us.length) (h : ordRow us k = false) : ordered us = false := by
  unfold ordered
  rw [List.all_eq_false]
  exact ⟨k, List.mem_range.2 hk, by simp [h]⟩
theorem ordered_false_place {us : List Nat} {k x : Nat} (hk : k < us.length) (hx : x ∈ places (row us k)) (h : ordPlace us k x = false) : ordered us = false := by
  refine ordered_false hk ?_
  unfold ordRow
  have : (places (row us k)).all (ordPlace us k) = false := by
    rw [List.all_eq_false]
    exact ⟨x, hx, by simp [h]⟩
  rw [this]; simp
theorem ordered_false_bit {us : List Nat} {k : Nat} (hk : k < us.length) (h : (row us k).testBit k = false) : ordered us = false :=
  ordered_false hk (by unfold ordRow; rw [h]; simp)

set_option maxRecDepth 100000 in
set_option maxHeartbeats 4000000 in
theorem ordered_any (A : Option Addr) (us : List Nat) (c : Nat) (w : World) (hE : Env w) (hU : Words w w.heap.size A us) (h64 : W64 us) (hl : us.length ≤ 64) (hin : ∀ a, a < us.length → row us a < 2 ^ us.length) :
    Calls Tryd.prog 65 #[.slice A us.length c] w fun e w' => e = .returned (.bool (ordered us)) ∧ Below w.heap.size w w' := by
  refine (callsIn_wide (n := 6)).1 ?_
  refine callsIn_of_wp_marks Tryd.func65 rfl trivial ?_ rfl
  simp only [Tryd.ntmps65, List.size_toArray, List.length_cons, List.length_nil, Nat.reduceAdd, Nat.reduceSub, Array.replicate_succ, Array.replicate_zero, List.push_toArray, List.append_toArray, List.nil_append, List.cons_append]
  gi_wp2
  generalize hn0 : w.heap.size = n0 at *
  obtain ⟨W2, hW2⟩ : ∃ W2, (w.alloc (.cells #[.slice A us.length c] 23)).alloc (.cells #[.bool false] 4) = W2 := ⟨_, rfl⟩
  have hB2 : Below n0 w W2 := by
    subst hn0
    rw [← hW2]
    exact ((Below.refl _ w).alloc (Nat.le_refl _) _).alloc (by simp) _
  have hsz : W2.heap.size = n0 + 2 := by rw [← hW2, ← hn0]; simp
  have b0 : Boxed W2 n0 23 (.slice A us.length c) := by
    rw [← hW2, ← hn0]; exact (Boxed.new w _ _).alloc _
  have b1 : Boxed W2 (n0 + 1) 4 (.bool false) := by
    rw [← hW2, ← hn0]
    have := Boxed.new (w.alloc (.cells #[.slice A us.length c] 23)) 4 (.bool false)
    rw [World.size_alloc] at this
    exact this
  have h4 : 1 ≤ n0 := by rw [← hn0]; exact hE.four
  have hle : n0 ≤ w.heap.size := by omega
  have HN : Hid (w.heap.size = n0) := hn0
  rw [hW2]
  clear hW2 hn0
  refine wpIn_loop (fun a wr => ∃ (k : Nat) (Ds : List Nat) (u3 u4 u5 u9 u10 u11 u12 u13 u14 u15 u16 u17 u18 u19 u20 u21 u22 u23 u24 u25 u26 u27 u28 u29 u30 u31 u32 u33 u34 u35 u36 u37 u38 u39 u40 u41 u42 u43 : Value), k ≤ us.length ∧ Hid (∀ j, j < k → ordRow us j = true) ∧ Boxed wr n0 23 (.slice A us.length c) ∧ Boxed wr (n0 + 1) 4 (.bool false) ∧ Marks n0 Ds wr ∧ Below n0 w wr ∧ n0 + 2 ≤ wr.heap.size ∧
      a = { tmps := #[.slice A us.length c, .pointer (some ⟨n0, 0, none⟩), .pointer (some ⟨n0 + 1, 0, none⟩), u3, u4, u5, .slice A us.length c, .int .i64 us.length, .int .i64 (k : Nat), u9, u10, u11, u12, u13, u14, u15, u16, u17, u18, u19, u20, u21, u22, u23, u24, u25, u26, u27, u28, u29, u30, u31, u32, u33, u34, u35, u36, u37, u38, u39, u40, u41, u42, u43], defers := Ds.map rmark }) (fun a _ => us.length - (intOf (a.tmps.getD 8 undef)).toNat) ?atStart ?round
  case atStart =>
    refine ⟨0, [], undef, undef, undef, undef, undef, undef, undef, undef, undef, undef, undef, undef, undef, undef, undef, undef, undef, undef, undef, undef, undef, undef, undef, undef, undef, undef, undef, undef, undef, undef, undef, undef, undef, undef, undef, undef, undef, undef, Nat.zero_le _, fun j hj => by omega, b0, b1, Marks.nil _ _, hB2, by omega, rfl⟩
  case round =>
    rintro _ wr ⟨k, Ds, u3, u4, u5, u9, u10, u11, u12, u13, u14, u15, u16, u17, u18, u19, u20, u21, u22, u23, u24, u25, u26, u27, u28, u29, u30, u31, u32, u33, u34, u35, u36, u37, u38, u39, u40, u41, u42, u43, hk, hok, c0, c1, hM, hB, hszr, rfl⟩
    have v0 := c0.cell
    have v1 := c1.cell
    have f1 := c1.frozen
    by_cases hlt : k < us.length
    · obtain ⟨b, off, rfl, hb, hc⟩ := hU (by intro e; subst e; simp at hlt)
      have hck := (hB.cell (p := ⟨b, off + k, none⟩) hb).trans (hc k hlt)
      have hr := h64 k
      have hHC := Lib.hid hc
      clear hc
      by_cases hbit : (row us k).testBit k = true
      · have hz : (bits BinOp.and IntKind.u64 ((row us k : Nat) / 2 ^ k) 1 == 0) = false := by rw [shr0 _ _ hr (by omega), hbit]; rfl
        gi_wp2_with (refine ⟨trivial, ?_⟩; gi_at_call 75; refine (callsIn_wide.2 (places_any (row us k) _)).mono ?_; rintro e w' ⟨rfl, rfl⟩)
        generalize hm : wr.heap.size = m at *
        obtain ⟨W5, hW5⟩ : ∃ W5, ((wr.alloc (.cells #[.int .i64 (k : Nat)] 3)).alloc (.cells #[.int .u64 (row us k : Nat)] 72)).alloc (.cells #[.int .u64 (row us k : Nat)] 72) = W5 := ⟨_, rfl⟩
        have hB5 : Below n0 w W5 := by
          rw [← hW5]
          exact ((hB.alloc (by omega) _).alloc (by simp; omega) _).alloc (by simp; omega) _
        have hsz5 : W5.heap.size = m + 3 := by rw [← hW5, ← hm]; simp
        have d0 : Boxed W5 n0 23 (.slice (some ⟨b, off, none⟩) us.length c) := by rw [← hW5]; exact ((c0.alloc _).alloc _).alloc _
        have d1 : Boxed W5 (n0 + 1) 4 (.bool false) := by rw [← hW5]; exact ((c1.alloc _).alloc _).alloc _
        have d2 : Boxed W5 m 3 (.int .i64 (k : Nat)) := by rw [← hW5, ← hm]; exact ((Boxed.new wr _ _).alloc _).alloc _
        have d3 : Boxed W5 (m + 1) 72 (.int .u64 (row us k : Nat)) := by
          rw [← hW5, ← hm]
          have := Boxed.new (wr.alloc (.cells #[.int .i64 (k : Nat)] 3)) 72 (.int .u64 (row us k : Nat))
          rw [World.size_alloc] at this
          exact this.alloc _
        have d4 : Boxed W5 (m + 2) 72 (.int .u64 (row us k : Nat)) := by
          rw [← hW5, ← hm]
          have := Boxed.new ((wr.alloc (.cells #[.int .i64 (k : Nat)] 3)).alloc (.cells #[.int .u64 (row us k : Nat)] 72)) 72 (.int .u64 (row us k : Nat))
          simp only [World.size_alloc] at this
          exact this
        have hM5 : Marks n0 Ds W5 := by rw [← hW5]; exact ((hM.others (KeepsOthers.alloc _ _)).others (KeepsOthers.alloc _ _)).others (KeepsOthers.alloc _ _)
        have hMlt : ∀ D ∈ Ds, D < m := by rw [← hm]; exact hM.lt
        have hE5 : Env W5 := hE.below h4 hB5
        have hrin := hin k hlt
        rw [hW5]
        clear hW5 v0 v1 f1
        refine wpIn_rangeFunc_ownF rfl (by omega) (gf := 83) (lb := #[.pointer (some ⟨m + 1 + 1, 0, none⟩)]) rfl trivial (enters_of Tryd.func83 (by kernel_rfl) rfl)
          (it_stops 5 (m + 2) n0 (by omega) (row us k) hr W5 (by omega) d4.cell hE5 h4) belowK_t (belowK_b (by omega)) (Below.refl _ _) (fun _ => rfl)
          (fun pre W => ((Boxed W n0 23 (.slice (some ⟨b, off, none⟩) us.length c) ∧ Boxed W (n0 + 1) 4 (.bool false) ∧ Boxed W m 3 (.int .i64 (k : Nat)) ∧ Boxed W (m + 1) 72 (.int .u64 (row us k : Nat))) ∧ Hid (∀ y ∈ pre, ordPlace us k y.1 = true)) ∧ (Marks n0 Ds W ∧ Below n0 w W))
          (fun c pre W => ((c = .ret ∧ ∃ x ∈ pre, ordPlace us k x.1 = false) ∧ Boxed W (n0 + 1) 4 (.bool false)) ∧ (Marks n0 Ds W ∧ Below n0 w W))
          (OwnFrom.and (Own.from (fun s X Y row hs hg hr => ⟨⟨hs.1.1.turn hg hr, hs.1.2.1.turn hg hr, hs.1.2.2.1.turn hg hr, hs.1.2.2.2.turn hg hr⟩, hs.2⟩) _) (OwnFrom.and (Marks.own (fun D hD => by have := hMlt D hD; omega)) (ownFrom_below (by omega) (by omega))))
          (fun c => OwnFrom.and (Own.from (fun s X Y row hs hg hr => ⟨hs.1, hs.2.turn hg hr⟩) _) (OwnFrom.and (Marks.own (fun D hD => by have := hMlt D hD; omega)) (ownFrom_below (by omega) (by omega))))
          ⟨⟨⟨d0, d1, d2, d3⟩, fun y hy => by cases hy⟩, hM5, hB5⟩
          (fun x => { tmps := #[.slice (some ⟨b, off, none⟩) us.length c, .pointer (some ⟨n0, 0, none⟩), .pointer (some ⟨n0 + 1, 0, none⟩), .pointer (some ⟨m, 0, none⟩), .pointer (some ⟨m + 1, 0, none⟩), .int .i64 ((x.1 : Nat) : Int), .slice (some ⟨b, off, none⟩) us.length c, .int .i64 us.length, .int .i64 (k : Nat), .bool true, .int .i64 (k : Nat), .pointer (some ⟨b, off + k, none⟩), .int .u64 (row us k : Nat), .int .u64 (row us k : Nat), .int .i64 (k : Nat), .int .u64 ((row us k : Nat) / 2 ^ k), .int .u64 (bits BinOp.and IntKind.u64 ((row us k : Nat) / 2 ^ k) 1), .bool false, .int .u64 (row us k : Nat), .func (.func 83) #[] #[.pointer (some ⟨m + 1 + 1, 0, none⟩)], .int .i64 ((x.1 : Nat) : Int), u21, u22, u23, u24, u25, u26, u27, u28, u29, u30, u31, u32, u33, u34, u35, u36, u37, u38, u39, u40, u41, u42, u43], defers := [] }) ?assign ?body ?done ?stop
        case assign =>
          intro l x W K hK
          gi_wp2
          exact hK
        case body =>
          rintro l pre ⟨x, hx⟩ W ⟨⟨⟨c0, c1, c2, c3⟩, hp⟩, hM', hB'⟩ _
          have hxn : x < us.length := testBit_lt hrin hx
          have hxk := (hB'.cell (p := ⟨b, off + x, none⟩) hb).trans (hHC.out x hxn)
          have hrx := h64 x
          have v0 := c0.cell
          have v1 := c1.cell
          have f1 := c1.frozen
          have v2 := c2.cell
          have v3 := c3.cell
          have hbits := u64_andNot_nat (row us x) (row us k) hrx hr
          have hstep : ordPlace us k x = true → Hid (∀ y ∈ pre ++ [(⟨x, hx⟩ : PAt (row us k))], ordPlace us k y.1 = true) := fun h y hy => by
            rcases List.mem_append.1 hy with g | g
            · exact hp.out y g
            · obtain rfl := List.mem_singleton.1 g
              exact h
          have HST := Lib.hid hstep
          clear hstep
          by_cases hs : sub (row us x) (row us k) = true
          · have hz1 : (bits BinOp.andNot IntKind.u64 (row us x : Nat) (row us k : Nat) != 0) = false := by
              rw [hbits]; unfold sub at hs; have := beq_iff_eq.1 hs; simp only [bne_eq_false_iff_eq]; omega
            have HS := Lib.hid hs
            clear hbits hs
            by_cases he : k = x
            · subst he
              have hz2 : ((k : Int) != (k : Int)) = false := by simp
              have ho : Hid (ordPlace us k k = true) := by
                show ordPlace us k k = true
                unfold ordPlace; rw [HS.out]; simp
              gi_wp2
              refine wpIn_round_quiet (by kernel_rfl) (by kernel_rfl) (by kernel_rfl) ?_
              repeat (gi_big_quiet_step (fail))
              refine wpQuietIn_nil ?_
              rintro _ ⟨nq, rfl⟩
              gi_wp2
              exact ⟨keeps_drewN _ _, belowN (Below.refl _ _) _, ⟨⟨c0, c1, c2, c3⟩, HST.out ho.out⟩, hM'.others (keeps_drewN _ _), belowN hB' _⟩
            · have hz2 : ((k : Int) != (x : Int)) = true := by rw [bne_iff_ne]; omega
              have hz4 := shr1 (row us x) k hrx (by omega)
              by_cases hbx : (row us x).testBit k = true
              · rw [hbx] at hz4
                have ho : Hid (ordPlace us k x = false) := by
                  show ordPlace us k x = false
                  unfold ordPlace; rw [hbx]; simp [he]
                clear hbx he
                gi_wp2
                refine wpIn_round_quiet (by kernel_rfl) (by kernel_rfl) (by kernel_rfl) ?_
                repeat (gi_big_quiet_step (fail))
                refine wpQuietIn_nil ?_
                rintro _ ⟨nq, rfl⟩
                gi_wp2
                exact ⟨(keeps_drewN W nq).trans (KeepsOthers.setCell _ _ _), ⟨⟨rfl, ⟨x, hx⟩, by simp, ho.out⟩, (c1.drewN nq).set _⟩, (hM'.others (keeps_drewN W nq)).others (KeepsOthers.setCell _ _ _), (belowN hB' nq).setCell (p := ⟨n0 + 1, 0, none⟩) (by simp) _⟩
              · have hbx : (row us x).testBit k = false := by simpa using hbx
                rw [hbx] at hz4
                have ho : Hid (ordPlace us k x = true) := by
                  show ordPlace us k x = true
                  unfold ordPlace; rw [HS.out, hbx]; simp
                clear hbx he
                gi_wp2
                refine wpIn_round_quiet (by kernel_rfl) (by kernel_rfl) (by kernel_rfl) ?_
                repeat (gi_big_quiet_step (fail))
                refine wpQuietIn_nil ?_
                rintro _ ⟨nq, rfl⟩
                gi_wp2
                exact ⟨keeps_drewN _ _, belowN (Below.refl _ _) _, ⟨⟨c0, c1, c2, c3⟩, HST.out ho.out⟩, hM'.others (keeps_drewN _ _), belowN hB' _⟩
          · have hz1 : (bits BinOp.andNot IntKind.u64 (row us x : Nat) (row us k : Nat) != 0) = true := by
              rw [hbits]; unfold sub at hs; rw [bne_iff_ne]; intro e; exact hs (beq_iff_eq.2 (by omega))
            have ho : Hid (ordPlace us k x = false) := by
              show ordPlace us k x = false
              have : sub (row us x) (row us k) = false := by simpa using hs
              unfold ordPlace; rw [this]; simp
            clear hbits hs
            gi_wp2
            refine wpIn_round_quiet (by kernel_rfl) (by kernel_rfl) (by kernel_rfl) ?_
            repeat (gi_big_quiet_step (fail))
            refine wpQuietIn_nil ?_
            rintro _ ⟨nq, rfl⟩
            gi_wp2
            exact ⟨(keeps_drewN W nq).trans (KeepsOthers.setCell _ _ _), ⟨⟨rfl, ⟨x, hx⟩, by simp, ho.out⟩, (c1.drewN nq).set _⟩, (hM'.others (keeps_drewN W nq)).others (KeepsOthers.setCell _ _ _), (belowN hB' nq).setCell (p := ⟨n0 + 1, 0, none⟩) (by simp) _⟩
        case done =>
          rintro D ys W hD hys ⟨⟨⟨c0, c1, _, _⟩, hp⟩, hM', hB'⟩ hK
          have hrow : Hid (ordRow us k = true) := ordRow_true hbit hys hp.out
          have hok2 : Hid (∀ j, j < k + 1 → ordRow us j = true) := fun j hj => by
            by_cases e : j < k
            · exact hok.out j e
            · obtain rfl : j = k := by omega
              exact hrow.out
          have hM2 : Marks n0 (D :: Ds) W := hM'.cons (by omega) (fun E hE => by have := hMlt E hE; omega) hK
          have hszW : n0 + 2 ≤ W.heap.size := by have := (Array.getElem?_eq_some_iff.1 hK).1; omega
          gi_wp2
          rw [show ((k : Int) + 1) = ((k + 1 : Nat) : Int) from by omega]
          refine ⟨⟨k + 1, D :: Ds, _, _, _, _, _, _, _, _, _, _, _, _, _, _, _, _, _, _, _, _, _, _, _, _, _, _, _, _, _, _, _, _, _, _, _, _, _, _, by omega, hok2, c0, c1, hM2, hB', hszW, rfl⟩, ?_⟩
          simp [intOf]; omega
        case stop =>
          rintro D cc pre W hD hpre ⟨⟨⟨rfl, x, hxp, hxo⟩, c1⟩, hM', hB'⟩ hK
          have hE9 : Hid (ordered us = false) := ordered_false_place hlt (hpre.subset (List.mem_map_of_mem hxp)) hxo
          have hM2 : Marks n0 (D :: Ds) W := hM'.cons (by omega) (fun E hE => by have := hMlt E hE; omega) hK
          have hszW : n0 ≤ W.heap.size := by have := (Array.getElem?_eq_some_iff.1 hK).1; omega
          gi_wp2
          refine leaves_marks (D :: Ds) (base := n0) hM2 ?_
          have hr1 := (takeAll_box _ hM2 c1).cell
          have hr2 := takeAll_below _ (Nat.le_refl _) hszW hM2 hB'
          generalize takeAll W (D :: Ds) = W9 at hr1 hr2 ⊢
          refine ⟨.bool false, ?_, ret_bool hE9.out.symm, by rw [HN.out]; exact hr2⟩
          simp [results, Tryd.f65, go_sem, hr1]
      · have hbit : (row us k).testBit k = false := by simpa using hbit
        have hz : (bits BinOp.and IntKind.u64 ((row us k : Nat) / 2 ^ k) 1 == 0) = true := by rw [shr0 _ _ hr (by omega), hbit]; rfl
        have hE9 : Hid (ordered us = false) := ordered_false_bit hlt hbit
        have hx1 : n0 + 1 < wr.heap.size := by omega
        have hx2 : n0 + 1 < wr.heap.size + 1 := by omega
        gi_wp2
        obtain ⟨W5, hW5⟩ : ∃ W5, ((wr.setCell ⟨n0 + 1, 0, none⟩ (.bool false)).alloc (.cells #[.int .i64 (k : Nat)] 3)).alloc (.cells #[.int .u64 (row us k : Nat)] 72) = W5 := ⟨_, rfl⟩
        have hB5 : Below n0 w W5 := by rw [← hW5]; exact ((hB.setCell (p := ⟨n0 + 1, 0, none⟩) (by simp) _).alloc (by simp; omega) _).alloc (by simp; omega) _
        have hsz5 : n0 ≤ W5.heap.size := by rw [← hW5]; simp; omega
        have d1 : Boxed W5 (n0 + 1) 4 (.bool false) := by rw [← hW5]; exact ((c1.set _).alloc _).alloc _
        have hM5 : Marks n0 Ds W5 := by rw [← hW5]; exact ((hM.others (KeepsOthers.setCell _ _ _)).others (KeepsOthers.alloc _ _)).others (KeepsOthers.alloc _ _)
        rw [hW5]
        clear hW5
        refine leaves_marks Ds (base := n0) hM5 ?_
        have hr1 := (takeAll_box _ hM5 d1).cell
        have hr2 := takeAll_below Ds (n₀ := n0) (Nat.le_refl _) hsz5 hM5 hB5
        generalize takeAll W5 Ds = W9 at hr1 hr2 ⊢
        refine ⟨.bool false, ?_, ret_bool hE9.out.symm, by rw [HN.out]; exact hr2⟩
        simp [results, Tryd.f65, go_sem, hr1]
    · have hE9 : Hid (ordered us = true) := by
        show ordered us = true
        unfold ordered
        rw [List.all_eq_true]
        intro j hj
        exact hok.out j (by have := List.mem_range.1 hj; omega)
      gi_wp2
      have hM2 := hM.others (KeepsOthers.setCell wr ⟨n0 + 1, 0, none⟩ (.bool true))
      refine leaves_marks Ds (base := n0) hM2 ?_
      have hr1 := (takeAll_box _ hM2 (c1.set (.bool true))).cell
      have hr2 := takeAll_below Ds (n₀ := n0) (Nat.le_refl _) (by simp; omega) hM2 (hB.setCell (p := ⟨n0 + 1, 0, none⟩) (by simp) (.bool true))
      generalize takeAll (wr.setCell ⟨n0 + 1, 0, none⟩ (.bool true)) Ds = W9 at hr1 hr2 ⊢
      refine ⟨.bool true, ?_, ret_bool hE9.out.symm, by rw [HN.out]; exact hr2⟩
      simp [results, Tryd.f65, go_sem, hr1]
end Go.Proofs.YtlhfdedjboanfaaDoor.L
