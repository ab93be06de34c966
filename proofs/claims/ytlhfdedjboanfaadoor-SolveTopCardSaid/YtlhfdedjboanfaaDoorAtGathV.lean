/-
  Vars: the loops of gathered. Condition: the pairs can be read, at most 2^43.
-/
import Derived.Test.YtlhfdedjboanfaaDoorAtW1
import Derived.Test.YtlhfdedjboanfaaDoorAtLib
namespace Go.Proofs.YtlhfdedjboanfaaDoor
open Go.RowKit Go.Shelf Go.At
attribute [local go_sem] Oper.semAt_some

theorem idxA_0 (x y : Value) (w : World) : (Instr.index 108 (.agg #[x, y]) (.int .i64 0)).run Tryd.prog w = .ok x w := by
  have h := Tryd.underlying108
  have h9 := Tryd.sizeOf28
  simp [Instr.index, run_underlying h, asIntOf, go_sem, h9]
theorem idxA_1 (x y : Value) (w : World) : (Instr.index 108 (.agg #[x, y]) (.int .i64 1)).run Tryd.prog w = .ok y w := by
  have h := Tryd.underlying108
  have h9 := Tryd.sizeOf28
  simp [Instr.index, run_underlying h, asIntOf, go_sem, h9]
attribute [local go_sem] idxA_0 idxA_1
theorem fnA (args : Array Value) (W : World) : (callFunc 53 args).run Tryd.prog W = .ok (.enter 53 args) W := by
  rw [Tryd.call53]
theorem infoA : (Tryd.prog.info? 28).map (fun i => (i.zero, i.size, i.bytes)) = some (some (.int .i64 0), 1, 8) := by kernel_rfl

set_option maxRecDepth 100000 in
set_option maxHeartbeats 4000000 in
theorem gathA_any (A : Option Addr) (l : List Pr) (c : Nat) (w : World) (hP : Prs w A l) (h6 : ∀ p ∈ l, I64 p.1 ∧ I64 p.2) (hl : l.length ≤ 8796093022208) :
    Calls Tryd.prog 52 #[.slice A l.length c, .func (.func 53) #[] #[]] w fun e w' => (∃ A c, e = .returned (.slice A (varsL l).length c) ∧ Nms w' A (varsL l) ∧ OkS A (varsL l).length c) ∧ Below w.heap.size w w' := by
  obtain ⟨i0, hi, hi2⟩ := Option.map_eq_some_iff.1 infoA
  obtain ⟨hz0, hz1, hz2⟩ : i0.zero = some (.int .i64 0) ∧ i0.size = 1 ∧ i0.bytes = 8 := by
    injection hi2 with h1 h2; injection h2 with h2 h3; exact ⟨h1, h2, h3⟩
  replace hi := Lib.hid hi
  replace hz0 := Lib.hid hz0
  replace hz1 := Lib.hid hz1
  replace hz2 := Lib.hid hz2
  clear hi2
  obtain ⟨L, hL⟩ : ∃ L, Hid (l.length = L) := ⟨_, rfl⟩
  have hLl := hL.out
  rw [hLl] at hl ⊢
  clear hLl
  replace h6 := Lib.hid h6
  go_enter Tryd.func52, Tryd.ntmps52
  go_wp2_with fail
  go_loopw [5, 14] (fun v i wr => ∃ (k : Nat) (v' : Value) (m : List Int), k ≤ L ∧ i = .int .i64 k ∧ v = v' ∧ Hid (m = (atomsL (l.take k)).flatMap pickV) ∧ Hid (wr.ownsRow w.heap.size 28 1 v' m.length (m.map (Value.int .i64))) ∧ Hid (Below w.heap.size w wr)) (fun _ i _ => L - (intOf i).toNat)
  case atStart => exact ⟨0, _, [], Nat.zero_le _, rfl, rfl, rfl, World.ownsRow_nil _ _ _ _, Below.refl _ _⟩
  case round =>
    obtain ⟨k, v', m, hk, rfl, rfl, hm, hown, hB⟩ := hrel
    by_cases hlt : k < L
    · have hkl : k < l.length := by rw [hL.out]; exact hlt
      obtain ⟨b, off, rfl, hb, hc⟩ := (hP.later hB.out) (by intro e; subst e; simp at hkl)
      obtain ⟨c0, c1⟩ := hc k hkl
      clear hc
      have htk := take_snoc l (0, 0) k hkl
      have h7 := h6.out (l.getD k (0, 0)) (by rw [List.getD_eq_getElem?_getD, List.getElem?_eq_getElem hkl]; exact List.getElem_mem _)
      have hml : m.length ≤ 2 * k := by
        have h8 := pick_len pickV_len (atomsL (l.take k))
        rw [← hm.out, atoms_len, List.length_take] at h8
        omega
      generalize l.getD k (0, 0) = q at c0 c1 htk h7
      obtain ⟨x, y⟩ := q
      dsimp only at c0 c1 h7
      replace htk := Lib.hid htk
      have hown0 := Lib.hid (own_later hown.out (later_alloc wr (.cells #[.int .i64 x, .int .i64 y] 58)))
      have hB0 : Hid (Below w.heap.size w (wr.alloc (.cells #[.int .i64 x, .int .i64 y] 58))) := hB.out.alloc hB.out.size _
      clear hown
      have hm0 : Hid (m = (atomsL (l.take k) ++ [x, y].take 0).flatMap pickV) := by show m = _; rw [List.take_zero, List.append_nil]; exact hm.out
      clear hm
      go_wp2_with fail
      go_loopw [5, 23] (fun v i wr => ∃ (j : Nat) (v' : Value) (m : List Int), j ≤ 2 ∧ i = .int .i64 j ∧ v = v' ∧ m.length ≤ 2 * k + j ∧ Hid (m = (atomsL (l.take k) ++ [x, y].take j).flatMap pickV) ∧ Hid (wr.ownsRow w.heap.size 28 1 v' m.length (m.map (Value.int .i64))) ∧ Hid (Below w.heap.size w wr)) (fun _ i _ => 2 - (intOf i).toNat)
      case atStart => exact ⟨0, _, m, by omega, rfl, rfl, hml, hm0.out, hown0.out, hB0.out⟩
      case round =>
        clear hown0 hB0 hm0 hml hB c0 c1
        obtain ⟨j, v', m, hj, rfl, rfl, hml, hm, hown, hB⟩ := hrel
        have step : ∀ a, Hid (m = (atomsL (l.take k) ++ [x, y].take j).flatMap pickV) → [x, y].take (j + 1) = [x, y].take j ++ [a] → Hid (m ++ pickV a = (atomsL (l.take k) ++ [x, y].take (j + 1)).flatMap pickV) := fun a h1 h2 => by
          show _ = _
          rw [h2, ← List.append_assoc, List.flatMap_append, ← h1.out]
          simp
        rcases (show j = 0 ∨ j = 1 ∨ j = 2 by omega) with rfl | rfl | rfl
        · have hm1 := step x hm rfl
          clear step hm
          have kt := Lib.hid (takeV_any x)
          have hd : isV x = true ∨ isV x = false := by cases isV x <;> simp
          rcases hd with hd | hd
          · have ev : takeV x = .tuple #[.int .i64 x, .bool true] := by unfold takeV; rw [hd]
            have ep : pickV x = [x] := by unfold pickV; rw [hd]; rfl
            rw [ep] at hm1
            rw [ev] at kt
            have hown1 := fun W (hb : Below wr.heap.size wr W) => Lib.hid (own_later hown.out hb)
            have hbA : Hid (Below w.heap.size w (wr.alloc (.cells #[.int .i64 x] 28))) := hB.out.alloc hB.out.size _
            have hb0 := Lib.hid (own_later hown.out (later_alloc wr (.cells #[.int .i64 x] 28)))
            have hc0 : Hid ((wr.alloc (.cells #[.int .i64 x] 28)).cell? ⟨wr.heap.size, 0, none⟩ = some (.int .i64 x)) := cell_of_row _ _ 0 _ _ _ (World.alloc_heap_new wr _)
            clear ev ep hd hown1
            go_wp2_with (first | (go_at_call 53; refine (kt.out _).mono ?_; rintro e w' ⟨rfl, rfl⟩) | (at_builtin; refine wpList_append_own _ rfl _ _ 62 rfl w.heap.size 28 i0 (.int .i64 0) 1 8 Tryd.underlying62 hi.out hz0.out hz1.out hz2.out rfl (by decide) _ _ _ rfl hb0.out ⟨wr.heap.size, 0, none⟩ 1 1 [.int .i64 x] rfl rfl ?c1 ?c2 ?c3 ?c4 ?c5 ?_))
            case c1 =>
              intro j u hj
              match j, hj with
              | 0, hj => cases hj; exact hc0.out
              | j + 1, hj => simp at hj
            case c2 =>
              intro u hu
              simp at hu
              rw [hu]; rfl
            case c3 => unfold maxLen; omega
            case c4 => omega
            case c5 => exact hbA.out.size
            · intro v2 w2 ho2 hg2 _
              have ho3 : Hid (w2.ownsRow w.heap.size 28 1 v2 (m ++ [x]).length ((m ++ [x]).map (Value.int .i64))) := by
                show w2.ownsRow _ _ _ _ _ _
                rw [List.map_append, List.length_append]
                exact ho2
              have hb3 : Hid (Below w.heap.size w w2) := hbA.out.grown hg2 hbA.out.size (own_block hb0.out)
              clear ho2 hg2
              go_wp2_with fail
              go_roundw
              case rel => exact ⟨_, v2, _, by omega, by go_num, rfl, by rw [List.length_append]; simp; omega, hm1.out, ho3.out, hb3.out⟩
              case measure => simp [intOf]
          · have ev : takeV x = .tuple #[.int .i64 x, .bool false] := by unfold takeV; rw [hd]
            have ep : pickV x = [] := by unfold pickV; rw [hd]; rfl
            rw [ep, List.append_nil] at hm1
            rw [ev] at kt
            clear ev ep hd
            go_wp2_with (go_at_call 53; refine (kt.out _).mono ?_; rintro e w' ⟨rfl, rfl⟩)
            go_roundw
            case rel => exact ⟨_, _, m, by omega, by go_num, rfl, by omega, hm1.out, hown.out, hB.out⟩
            case measure => simp [intOf]
        · have hm1 := step y hm rfl
          clear step hm
          have kt := Lib.hid (takeV_any y)
          have hd : isV y = true ∨ isV y = false := by cases isV y <;> simp
          rcases hd with hd | hd
          · have ev : takeV y = .tuple #[.int .i64 y, .bool true] := by unfold takeV; rw [hd]
            have ep : pickV y = [y] := by unfold pickV; rw [hd]; rfl
            rw [ep] at hm1
            rw [ev] at kt
            have hown1 := fun W (hb : Below wr.heap.size wr W) => Lib.hid (own_later hown.out hb)
            have hbA : Hid (Below w.heap.size w (wr.alloc (.cells #[.int .i64 y] 28))) := hB.out.alloc hB.out.size _
            have hb0 := Lib.hid (own_later hown.out (later_alloc wr (.cells #[.int .i64 y] 28)))
            have hc0 : Hid ((wr.alloc (.cells #[.int .i64 y] 28)).cell? ⟨wr.heap.size, 0, none⟩ = some (.int .i64 y)) := cell_of_row _ _ 0 _ _ _ (World.alloc_heap_new wr _)
            clear ev ep hd hown1
            go_wp2_with (first | (go_at_call 53; refine (kt.out _).mono ?_; rintro e w' ⟨rfl, rfl⟩) | (at_builtin; refine wpList_append_own _ rfl _ _ 62 rfl w.heap.size 28 i0 (.int .i64 0) 1 8 Tryd.underlying62 hi.out hz0.out hz1.out hz2.out rfl (by decide) _ _ _ rfl hb0.out ⟨wr.heap.size, 0, none⟩ 1 1 [.int .i64 y] rfl rfl ?c1 ?c2 ?c3 ?c4 ?c5 ?_))
            case c1 =>
              intro j u hj
              match j, hj with
              | 0, hj => cases hj; exact hc0.out
              | j + 1, hj => simp at hj
            case c2 =>
              intro u hu
              simp at hu
              rw [hu]; rfl
            case c3 => unfold maxLen; omega
            case c4 => omega
            case c5 => exact hbA.out.size
            · intro v2 w2 ho2 hg2 _
              have ho3 : Hid (w2.ownsRow w.heap.size 28 1 v2 (m ++ [y]).length ((m ++ [y]).map (Value.int .i64))) := by
                show w2.ownsRow _ _ _ _ _ _
                rw [List.map_append, List.length_append]
                exact ho2
              have hb3 : Hid (Below w.heap.size w w2) := hbA.out.grown hg2 hbA.out.size (own_block hb0.out)
              clear ho2 hg2
              go_wp2_with fail
              go_roundw
              case rel => exact ⟨_, v2, _, by omega, by go_num, rfl, by rw [List.length_append]; simp; omega, hm1.out, ho3.out, hb3.out⟩
              case measure => simp [intOf]
          · have ev : takeV y = .tuple #[.int .i64 y, .bool false] := by unfold takeV; rw [hd]
            have ep : pickV y = [] := by unfold pickV; rw [hd]; rfl
            rw [ep, List.append_nil] at hm1
            rw [ev] at kt
            clear ev ep hd
            go_wp2_with (go_at_call 53; refine (kt.out _).mono ?_; rintro e w' ⟨rfl, rfl⟩)
            go_roundw
            case rel => exact ⟨_, _, m, by omega, by go_num, rfl, by omega, hm1.out, hown.out, hB.out⟩
            case measure => simp [intOf]
        · have hm1 : Hid (m = (atomsL (l.take (k + 1))).flatMap pickV) := by
            show m = _
            rw [htk.out, atoms_snoc]
            exact hm.out
          clear hm step
          go_wp2_with fail
          go_roundw
          case rel => exact ⟨k + 1, _, m, by omega, by go_num, rfl, hm1.out, hown.out, hB.out⟩
          case measure => simp [intOf]; omega
    · obtain rfl : k = L := by omega
      have hm1 : m = (atomsL l).flatMap pickV := by
        have h := hm.out
        rwa [List.take_of_length_le (by rw [hL.out]; exact Nat.le_refl _)] at h
      have hml : m.length < 4611686018427387904 := by
        have h8 := pick_len pickV_len (atomsL l)
        rw [← hm1, atoms_len, hL.out] at h8
        omega
      have ks := Lib.hid (sortA_own hown.out hB.out.size hml)
      have e0 : Lib.compact (sortI m) = varsL l := by rw [sorted_compact, hm1]; rfl
      replace e0 := Lib.hid e0
      clear hm hm1
      go_wp2_with (first | (go_at_call 73; refine ks.out.mono ?_; rintro e w1 ⟨rfl, ho1, hb1⟩; have kc := compA_own (zs := sortI m) (by rw [sortI_len]; exact ho1) (by rw [sortI_len]; exact hml); rw [e0.out] at kc; replace kc := Lib.hid kc; replace hb1 := Lib.hid hb1; clear ho1) | (go_at_call 74; refine kc.out.mono ?_; rintro e w2 ⟨⟨A2, c2, rfl, hn2, ho2⟩, hb2⟩; replace hn2 := Lib.hid hn2; replace ho2 := Lib.hid ho2; replace hb2 := Lib.hid hb2))
      go_ret
      exact ⟨⟨A2, c2, rfl, hn2.out, ho2.out⟩, hB.out.trans (hb1.out.trans hb2.out)⟩

set_option maxRecDepth 100000 in
theorem vars_any (A : Option Addr) (l : List Pr) (c : Nat) (w : World) (hP : Prs w A l) (h6 : ∀ p ∈ l, I64 p.1 ∧ I64 p.2) (hl : l.length ≤ 8796093022208) :
    Calls Tryd.prog 26 #[.slice A l.length c] w fun e w' => (∃ A c, e = .returned (.slice A (varsL l).length c) ∧ Nms w' A (varsL l) ∧ OkS A (varsL l).length c) ∧ Below w.heap.size w w' := by
  have k := Lib.hid (gathA_any A l c w hP h6 hl)
  clear hP h6 hl
  generalize l.length = L at k ⊢
  generalize varsL l = r at k ⊢
  go_enter Tryd.func26, Tryd.ntmps26
  go_wp2_with (go_at_call 52; refine k.out.mono ?_; rintro e w1 ⟨⟨A1, c1, rfl, hn, ho⟩, hb⟩; replace hn := Lib.hid hn; replace ho := Lib.hid ho; replace hb := Lib.hid hb)
  go_ret
  exact ⟨⟨A1, c1, rfl, hn.out, ho.out⟩, hb.out⟩
end Go.Proofs.YtlhfdedjboanfaaDoor
