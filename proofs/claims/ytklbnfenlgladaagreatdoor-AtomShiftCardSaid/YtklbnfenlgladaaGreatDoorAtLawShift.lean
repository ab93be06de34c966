/-
  AtomShift. Condition: the pairs can be read, at most 2^43; the library's table lies as laid.
-/
import Derived.Test.YtklbnfenlgladaaGreatDoorAtEx
import Derived.Test.YtklbnfenlgladaaGreatDoorAtSame
import Derived.Test.YtklbnfenlgladaaGreatDoorAtLaws
namespace Go.Proofs.YtklbnfenlgladaaGreatDoor
open Go.RowKit Go.Shelf Go.At
attribute [local go_sem] Oper.semAt_some

set_option maxRecDepth 100000 in
set_option maxHeartbeats 4000000 in
theorem atomShift_any (A : Option Addr) (l : List Pr) (c : Nat) (n : Int) (w : World) (hE : Env w) (hP : Prs w A l) (h6 : ∀ p ∈ l, I64 p.1 ∧ I64 p.2) (_ok : OkS A l.length c) (hl : l.length ≤ 8796093022208) (hn : 0 ≤ n ∧ n < 65536) :
    Calls Tryz.prog 7 #[.slice A l.length c, .int .u16 n] w fun e w' => e = .returned (.bool true) ∧ Below w.heap.size w w' := by
  obtain ⟨i0, hi, hi2⟩ := Option.map_eq_some_iff.1 infoPr
  obtain ⟨hz0, hz1, hz2⟩ : i0.zero = some (.agg #[.int .i64 0, .int .i64 0]) ∧ i0.size = 2 ∧ i0.bytes = 16 := by
    injection hi2 with h1 h2; injection h2 with h2 h3; exact ⟨h1, h2, h3⟩
  replace hi := Lib.hid hi
  replace hz0 := Lib.hid hz0
  replace hz1 := Lib.hid hz1
  replace hz2 := Lib.hid hz2
  clear hi2
  have kx := Lib.hid (examples_any w hE)
  obtain ⟨L, hL⟩ : ∃ L, Hid (l.length = L) := ⟨_, rfl⟩
  have hLl := hL.out
  rw [hLl] at hl ⊢
  clear hLl
  replace h6 := Lib.hid h6
  have hw1 : IntKind.i64.wrap n = n := wrap_i ⟨by omega, by omega⟩
  have hw2 : IntKind.i64.wrap (-n) = -n := wrap_i ⟨by omega, by omega⟩
  obtain ⟨hn1, hn2⟩ := hn
  go_enter Tryz.func7, Tryz.ntmps7
  go_wp2_with (go_at_call 9; refine kx.out.mono ?_; rintro e w1 ⟨rfl, hb1⟩; replace hb1 := Lib.hid hb1)
  have hP1 := hP.later hb1.out
  clear hP kx
  go_loopw [6, 7] (fun v i wr => ∃ (k : Nat) (v' : Value) (m : List Pr), k ≤ L ∧ i = .int .i64 k ∧ v = v' ∧ Hid (m = (l.take k).filter smallP) ∧ Hid (wr.ownsRow w1.heap.size 53 2 v' m.length (cellsP m)) ∧ Hid (Below w1.heap.size w1 wr)) (fun _ i _ => L - (intOf i).toNat)
  case atStart => exact ⟨0, _, [], Nat.zero_le _, rfl, rfl, rfl, World.ownsRow_nil _ _ _ _, Below.refl _ _⟩
  case round =>
    obtain ⟨k, v', m, hk, rfl, rfl, hm, hown, hB⟩ := hrel
    by_cases hlt : k < L
    · have hkl : k < l.length := by rw [hL.out]; exact hlt
      obtain ⟨b, off, rfl, hb, hc⟩ := (hP1.later hB.out) (by intro e; subst e; simp at hkl)
      obtain ⟨c0, c1⟩ := hc k hkl
      clear hc
      have htk := take_snoc l (0, 0) k hkl
      have hml : m.length ≤ k := by
        have h8 := List.length_filter_le smallP (l.take k)
        rw [← hm.out, List.length_take] at h8
        omega
      generalize l.getD k (0, 0) = q at c0 c1 htk
      obtain ⟨x, y⟩ := q
      dsimp only at c0 c1
      have hstep : Hid ((l.take (k + 1)).filter smallP = m ++ if smallA x && smallA y then [(x, y)] else []) := by
        show _ = _
        rw [htk, List.filter_append, ← hm.out]
        congr 1
        show [(x, y)].filter smallP = _
        cases h : (smallA x && smallA y) with
        | true =>
          have : smallP (x, y) = true := h
          simp [this]
        | false =>
          have : smallP (x, y) = false := h
          simp [this]
      clear htk
      cases hx : smallA x with
      | false =>
        have hd : decide (x < 1099511627776) = false := hx
        have hm2 : Hid (m = (l.take (k + 1)).filter smallP) := by
          show m = _
          rw [hstep.out, hx]; simp
        replace hx := Lib.hid hx
        clear hstep hm
        go_wp2_with fail
        go_roundw
        case rel => exact ⟨k + 1, _, m, by omega, by go_num, rfl, hm2.out, hown.out, hB.out⟩
        case measure => simp [intOf]; omega
      | true =>
        have hd : decide (x < 1099511627776) = true := hx
        have hx9 : x < 1099511627776 := of_decide_eq_true hx
        cases hy : smallA y with
        | false =>
          have hd : decide (y < 1099511627776) = false := hy
          have hm2 : Hid (m = (l.take (k + 1)).filter smallP) := by
            show m = _
            rw [hstep.out, hy]; simp
          replace hx := Lib.hid hx
          replace hy := Lib.hid hy
          clear hstep hm
          go_wp2_with fail
          go_roundw
          case rel => exact ⟨k + 1, _, m, by omega, by go_num, rfl, hm2.out, hown.out, hB.out⟩
          case measure => simp [intOf]; omega
        | true =>
          have hd : decide (y < 1099511627776) = true := hy
          have hm2 : Hid (m ++ [(x, y)] = (l.take (k + 1)).filter smallP) := by
            show _ = _
            rw [hstep.out, hx, hy]; simp
          replace hx := Lib.hid hx
          replace hy := Lib.hid hy
          clear hstep hm
          have hbA : Hid (Below w1.heap.size w1 (wr.alloc (.cells #[.int .i64 x, .int .i64 y] 53))) := hB.out.alloc hB.out.size _
          have hb0 := Lib.hid (own_later hown.out (later_alloc wr (.cells #[.int .i64 x, .int .i64 y] 53)))
          have hcc0 : Hid ((wr.alloc (.cells #[.int .i64 x, .int .i64 y] 53)).cell? ⟨wr.heap.size, 0, none⟩ = some (.int .i64 x)) := cell_of_row _ _ 0 _ _ _ (World.alloc_heap_new wr _)
          have hcc1 : Hid ((wr.alloc (.cells #[.int .i64 x, .int .i64 y] 53)).cell? ⟨wr.heap.size, 1, none⟩ = some (.int .i64 y)) := cell_of_row _ _ 1 _ _ _ (World.alloc_heap_new wr _)
          go_wp2_with (at_builtin; refine wpList_append_own _ rfl _ _ 22 rfl w1.heap.size 53 i0 (.agg #[.int .i64 0, .int .i64 0]) 2 16 Tryz.underlying22 hi.out hz0.out hz1.out hz2.out rfl (by decide) _ _ _ rfl hb0.out ⟨wr.heap.size, 0, none⟩ 1 1 [.int .i64 x, .int .i64 y] rfl rfl ?c1 ?c2 ?c3 ?c4 ?c5 ?_)
          case c1 =>
            intro j u hj
            match j, hj with
            | 0, hj => cases hj; exact hcc0.out
            | 1, hj => cases hj; exact hcc1.out
            | j + 2, hj => simp at hj
          case c2 =>
            intro u hu
            simp at hu
            rcases hu with rfl | rfl <;> rfl
          case c3 => unfold maxLen; omega
          case c4 => omega
          case c5 => exact hbA.out.size
          · intro v2 w2 ho2 hg2 _
            have ho3 : Hid (w2.ownsRow w1.heap.size 53 2 v2 (m ++ [(x, y)]).length (cellsP (m ++ [(x, y)]))) := by
              show w2.ownsRow _ _ _ _ _ _
              rw [cellsP_append, List.length_append]
              exact ho2
            have hb3 : Hid (Below w1.heap.size w1 w2) := hbA.out.grown hg2 hbA.out.size (own_block hb0.out)
            clear ho2 hg2
            go_wp2_with fail
            go_roundw
            case rel => exact ⟨k + 1, v2, _, by omega, by go_num, rfl, hm2.out, ho3.out, hb3.out⟩
            case measure => simp [intOf]; omega
    · obtain rfl : k = L := by omega
      have hm1 : m = l.filter smallP := by
        have h := hm.out
        rwa [List.take_of_length_le (by rw [hL.out]; exact Nat.le_refl _)] at h
      obtain ⟨Am, cm, rfl, hPm, -⟩ := prs_own hown.out
      have hm6 : Hid (∀ p ∈ m, I64 p.1 ∧ I64 p.2) := fun p hp => by
        rw [hm1] at hp
        exact h6.out p (List.mem_filter.1 hp).1
      have hms : Hid (∀ p ∈ m, smallP p = true) := fun p hp => by
        rw [hm1] at hp
        exact (List.mem_filter.1 hp).2
      have hml : m.length ≤ 8796093022208 := by
        have h8 := List.length_filter_le smallP l
        rw [← hm1, hL.out] at h8
        omega
      have ks := Lib.hid (shift_any Am m cm n wr hPm hm6.out hml)
      have hlen : (mapL (shiftT n) m).length = m.length := by simp [mapL]
      rw [hlen] at ks
      replace hlen := Lib.hid hlen
      replace hPm := Lib.hid hPm
      clear hm hm1 hown
      obtain ⟨M, hM⟩ : ∃ M, Hid (m.length = M) := ⟨_, rfl⟩
      have hMm := hM.out
      rw [hMm] at ks hml ⊢
      clear hMm
      go_wp2_with (go_at_call 19; refine ks.out.mono ?_; rintro e w2 ⟨⟨As, cs, rfl, hPs⟩, hb2⟩)
      have hPm2 := Lib.hid (hPm.out.later hb2)
      have hB2 := Lib.hid (hB.out.trans (hb2.mono hB.out.size))
      replace hPs := Lib.hid hPs
      clear ks hPm hB hb2
      go_wp2_with fail
      go_loopw [9] (fun i V => ∃ k : Nat, k ≤ M ∧ i = .int .i64 k ∧ Hid (Below w2.heap.size w2 V)) (fun i _ => M - (intOf i).toNat)
      case atStart => exact ⟨0, Nat.zero_le _, rfl, Below.refl _ _⟩
      case round =>
        obtain ⟨j, hj, rfl, hb3⟩ := hrel
        by_cases hlt2 : j < M
        · have hjm : j < m.length := by rw [hM.out]; exact hlt2
          have hjs : j < (mapL (shiftT n) m).length := by rw [hlen.out, hM.out]; exact hlt2
          obtain ⟨bm, om, rfl, -, rm⟩ := (hPm2.out.later hb3.out) (by intro e; subst e; simp at hjm)
          obtain ⟨bs, os, rfl, -, rs⟩ := (hPs.out.later hb3.out) (by intro e; rw [e] at hjs; simp at hjs)
          obtain ⟨c0, -⟩ := rm j hjm
          obtain ⟨e0, -⟩ := rs j hjs
          have hq := hm6.out (m.getD j (0, 0)) (by rw [List.getD_eq_getElem?_getD, List.getElem?_eq_getElem hjm]; exact List.getElem_mem _)
          have hs1 := hms.out (m.getD j (0, 0)) (by rw [List.getD_eq_getElem?_getD, List.getElem?_eq_getElem hjm]; exact List.getElem_mem _)
          have eg : ((mapL (shiftT n) m).getD j (0, 0)).1 = shiftT n (m.getD j (0, 0)).1 := by
            rw [List.getD_eq_getElem?_getD, List.getD_eq_getElem?_getD, List.getElem?_eq_getElem hjs, List.getElem?_eq_getElem hjm]
            simp [mapL]
          rw [eg] at e0
          clear rm rs eg
          generalize (m.getD j (0, 0)) = q at c0 e0 hq hs1
          obtain ⟨x, y⟩ := q
          dsimp only at c0 e0 hq
          have hsx : smallA x = true := by
            unfold smallP at hs1
            rw [Bool.and_eq_true] at hs1
            exact hs1.1
          have hx9 : x < 1099511627776 := of_decide_eq_true hsx
          rw [shift_up ⟨hn1, hn2⟩ hsx] at e0
          have hq1 := hq.1
          replace hq1 : -9223372036854775808 ≤ x := hq1.1
          clear hq hs1
          replace hsx := Lib.hid hsx
          have hjM : (j : Int) < (M : Int) := by omega
          have ki := fun W => isPoint_any x W
          by_cases h0 : x < 0
          · rw [if_pos h0] at e0
            rw [show isP x = true from decide_eq_true h0] at ki
            have hxx : (x != x) = false := by simp
            have kq : Hid (∀ k, Calls Tryz.prog 27 #[.int .i64 x] (wr.drewN k) fun e w' => e = .returned (.bool true) ∧ ∃ m, w' = wr.drewN m) := fun k => (ki (wr.drewN k)).mono fun e w' h => ⟨h.1, k, h.2⟩
            clear ki
            go_wp2_with fail
            go_quiet (exact kq.out _)
            all_goals
              go_wp2_with fail
              go_roundw
              case rel => exact ⟨j + 1, by omega, by go_num, belowN hb3.out nq⟩
              case measure => simp [intOf]; omega
          · rw [if_neg h0] at e0
            rw [show isP x = false from decide_eq_false h0] at ki
            have hwx : IntKind.i64.wrap (x + n) = x + n := wrap_i ⟨by omega, by omega⟩
            have hxx : (x + n != x + n) = false := by simp
            have kq : Hid (∀ k, Calls Tryz.prog 27 #[.int .i64 x] (wr.drewN k) fun e w' => e = .returned (.bool false) ∧ ∃ m, w' = wr.drewN m) := fun k => (ki (wr.drewN k)).mono fun e w' h => ⟨h.1, k, h.2⟩
            clear ki
            go_wp2_with fail
            go_quiet (exact kq.out _)
            all_goals
              go_wp2_with fail
              go_roundw
              case rel => exact ⟨j + 1, by omega, by go_num, belowN hb3.out nq⟩
              case measure => simp [intOf]; omega
        · obtain rfl : j = M := by omega
          have hS0 := hPs.out.later hb3.out
          have hm0 := hPm2.out.later hb3.out
          have hB0 := Lib.hid (hB2.out.trans (hb3.out.mono hB2.out.size))
          have hm6s : ∀ p ∈ mapL (shiftT n) m, I64 p.1 ∧ I64 p.2 := map_i64 (fun a ha => shift_i64 ha) hm6.out
          have hlm : m.length ≤ 8796093022208 := by rw [hM.out]; exact hml
          have hls : (mapL (shiftT n) m).length ≤ 8796093022208 := by rw [hlen.out]; exact hlm
          have eback := map_back ⟨hn1, hn2⟩ m hm6.out hms.out
          have enorm := norm_shift ⟨hn1, hn2⟩ hms.out
          have k1 := shift_any As (mapL (shiftT n) m) cs (-n) wr hS0 hm6s hls
          rw [eback, hlen.out, hM.out] at k1
          replace k1 := Lib.hid k1
          have hS := Lib.hid hS0
          have hSm := Lib.hid hm0
          clear hS0 hm0 hPs hPm2 hB2 hb3
          go_wp2_with fail
          refine k1.out.mono ?_
          rintro e w3 ⟨⟨A3, c3, rfl, h3⟩, hb3⟩
          have hB1 := Lib.hid (hB0.out.trans (hb3.mono hB0.out.size))
          have k2 := same_any A3 Am m m c3 cm w3 h3 (hSm.out.later hb3) hlm
          rw [show decide (m = m) = true from decide_eq_true rfl, hM.out] at k2
          replace k2 := Lib.hid k2
          have hS' := Lib.hid (hS.out.later hb3)
          have hSm' := Lib.hid (hSm.out.later hb3)
          clear k1 h3 hb3 hB0 hS hSm
          go_wp2_with fail
          refine k2.out.mono ?_
          rintro e w4 ⟨rfl, hb4⟩
          have hB2 := Lib.hid (hB1.out.trans (hb4.mono hB1.out.size))
          have k3 := norm_any As (mapL (shiftT n) m) cs w4 (hS'.out.later hb4) hls
          rw [enorm, hlen.out, hM.out] at k3
          replace k3 := Lib.hid k3
          have hSm := Lib.hid (hSm'.out.later hb4)
          clear k2 hb4 hB1 hS' hSm'
          go_wp2_with fail
          refine k3.out.mono ?_
          rintro e w5 ⟨⟨A5, c5, rfl, h5⟩, hb5⟩
          have hB3 := Lib.hid (hB2.out.trans (hb5.mono hB2.out.size))
          have k4 := norm_any Am m cm w5 (hSm.out.later hb5) hlm
          rw [hM.out] at k4
          replace k4 := Lib.hid k4
          replace h5 := Lib.hid h5
          clear k3 hb5 hB2 hSm
          go_wp2_with fail
          refine k4.out.mono ?_
          rintro e w6 ⟨⟨A6, c6, rfl, h6'⟩, hb6⟩
          have hB4 := Lib.hid (hB3.out.trans (hb6.mono hB3.out.size))
          have hnl : (normL m).length ≤ 8796093022208 := Nat.le_trans (norm_len m) hlm
          have k5 := shift_any A6 (normL m) c6 n w6 h6' (norm_i64 hm6.out) hnl
          replace k5 := Lib.hid k5
          have h5' := Lib.hid (h5.out.later hb6)
          clear k4 hb6 hB3 h6' h5
          go_wp2_with fail
          refine k5.out.mono ?_
          rintro e w7 ⟨⟨A7, c7, rfl, h7⟩, hb7⟩
          have hB5 := Lib.hid (hB4.out.trans (hb7.mono hB4.out.size))
          have k6 := same_any A5 A7 (mapL (shiftT n) (normL m)) (mapL (shiftT n) (normL m)) c5 c7 w7 (h5'.out.later hb7) h7 (by simpa [mapL] using hnl)
          rw [show decide (mapL (shiftT n) (normL m) = mapL (shiftT n) (normL m)) = true from decide_eq_true rfl] at k6
          replace k6 := Lib.hid k6
          clear k5 h7 hb7 hB4 h5'
          go_wp2_with fail
          refine k6.out.mono ?_
          rintro e w8 ⟨rfl, hb8⟩
          have hB6 := Lib.hid (hB5.out.trans (hb8.mono hB5.out.size))
          clear k6 hb8 hB5
          go_wp2_with fail
          go_ret
          exact ⟨rfl, hb1.out.trans (hB6.out.mono hb1.out.size)⟩
end Go.Proofs.YtklbnfenlgladaaGreatDoor
