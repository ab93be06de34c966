/-
  AtomRenames. Condition: the pairs can be read, at most 2^43; the library's table lies as laid.
-/
import Derived.Test.YtklbnfenlgladaaGreatDoorAtEx
import Derived.Test.YtklbnfenlgladaaGreatDoorAtSame
import Derived.Test.YtklbnfenlgladaaGreatDoorAtRenM
namespace Go.Proofs.YtklbnfenlgladaaGreatDoor
open Go.RowKit Go.Shelf Go.At
attribute [local go_sem] Oper.semAt_some

theorem nms_own_ok {W : World} {base : Nat} {v : Value} {l : List Int} {ty : TypeId} (h : W.ownsRow base ty 1 v l.length (l.map (Value.int .i64))) : ∃ A c, v = .slice A l.length c ∧ Nms W A l ∧ OkS A l.length c := by
  obtain ⟨A, c, rfl, h1, -⟩ := nms_own h
  exact ⟨A, c, rfl, h1, own_ok h⟩
theorem vars_i64 {l : List Pr} (h6 : ∀ p ∈ l, I64 p.1 ∧ I64 p.2) : ∀ x ∈ varsL l, I64 x := by
  intro x hx
  obtain ⟨p, hp, e⟩ := (atoms_mem l x).1 ((vars_mem l x).1 hx).1
  rcases e with rfl | rfl
  · exact (h6 p hp).1
  · exact (h6 p hp).2
set_option maxRecDepth 100000 in
set_option maxHeartbeats 4000000 in
theorem atomRenames_any (A : Option Addr) (l : List Pr) (c : Nat) (n : Int) (w : World) (hE : Env w) (hP : Prs w A l) (h6 : ∀ p ∈ l, I64 p.1 ∧ I64 p.2) (_ok : OkS A l.length c) (hl : l.length ≤ 8796093022208) (hn : 0 ≤ n ∧ n < 256) :
    Calls Tryz.prog 8 #[.slice A l.length c, .int .u8 n] w fun e w' => e = .returned (.bool true) ∧ Below w.heap.size w w' := by
  obtain ⟨i0, hi, hi2⟩ := Option.map_eq_some_iff.1 infoA
  obtain ⟨hz0, hz1, hz2⟩ : i0.zero = some (.int .i64 0) ∧ i0.size = 1 ∧ i0.bytes = 8 := by
    injection hi2 with h1 h2; injection h2 with h2 h3; exact ⟨h1, h2, h3⟩
  replace hi := Lib.hid hi
  replace hz0 := Lib.hid hz0
  replace hz1 := Lib.hid hz1
  replace hz2 := Lib.hid hz2
  clear hi2
  have kx := Lib.hid (examples_any w hE)
  have hll := Lib.hid hl
  obtain ⟨L, hL⟩ : ∃ L, Hid (l.length = L) := ⟨_, rfl⟩
  have hLl := hL.out
  rw [hLl] at hl ⊢
  clear hLl
  replace h6 := Lib.hid h6
  have hw1 : IntKind.i64.wrap n = n := wrap_i ⟨by omega, by omega⟩
  have hw2 : IntKind.i64.wrap (1000000 + n) = 1000000 + n := wrap_i ⟨by omega, by omega⟩
  obtain ⟨hn1, hn2⟩ := hn
  go_enter Tryz.func8, Tryz.ntmps8
  go_wp2_with fail
  refine kx.out.mono ?_
  rintro e w1 ⟨rfl, hb1⟩
  replace hb1 := Lib.hid hb1
  have hP1 := hP.later hb1.out
  have kv := vars_any A l c w1 hP1 h6.out hll.out
  have hvl : (varsL l).length ≤ 17592186044416 := by
    have h1 := ord_len (lt := ltI) ((atomsL l).flatMap pickV)
    have h2 := pick_len pickV_len (atomsL l)
    rw [atoms_len] at h2
    have := hll.out
    unfold varsL
    omega
  obtain ⟨v, hv⟩ : ∃ v, Hid (varsL l = v) := ⟨_, rfl⟩
  have hvv := hv.out
  rw [hvv] at kv hvl
  rw [hL.out] at kv
  clear hvv
  replace kv := Lib.hid kv
  replace hP1 := Lib.hid hP1
  clear hP kx
  go_wp2_with fail
  refine kv.out.mono ?_
  rintro e w2 ⟨⟨Av, cv, rfl, hNv, hok⟩, hb2⟩
  have hP2 := Lib.hid (hP1.out.later hb2)
  have hB2 := Lib.hid (hb1.out.trans (hb2.mono hb1.out.size))
  replace hNv := Lib.hid hNv
  replace hok := Lib.hid hok
  obtain ⟨M, hM⟩ : ∃ M, Hid (v.length = M) := ⟨_, rfl⟩
  have hMm := hM.out
  rw [hMm] at hvl ⊢
  clear hMm kv hb2 hP1 hb1
  go_wp2_with fail
  go_loopw [7, 8] (fun x i wr => ∃ (k : Nat) (v' : Value), k ≤ M ∧ i = .int .i64 k ∧ x = v' ∧ Hid (wr.ownsRow w2.heap.size 24 1 v' (newL n k).length ((newL n k).map (Value.int .i64))) ∧ Hid (Below w2.heap.size w2 wr)) (fun _ i _ => M - (intOf i).toNat)
  case atStart => exact ⟨0, _, Nat.zero_le _, rfl, rfl, World.ownsRow_nil _ _ _ _, Below.refl _ _⟩
  case round =>
    obtain ⟨k, v', hk, rfl, rfl, hown, hB⟩ := hrel
    by_cases hlt : k < M
    · have hlk := newL_len n k
      have hsn := newL_succ n k
      have kp := fun W => point_any (1000000 + n + k) W ⟨by omega, by omega⟩
      rw [show pointT (1000000 + n + (k : Int)) = -1 - (1000000 + n + (k : Int)) from if_neg (by omega)] at kp
      generalize hav : -1 - (1000000 + n + (k : Int)) = a at kp hsn
      replace kp := Lib.hid kp
      replace hav := Lib.hid hav
      replace hsn := Lib.hid hsn
      have hwk : IntKind.i64.wrap (1000000 + n + (k : Int)) = 1000000 + n + (k : Int) := wrap_i ⟨by omega, by omega⟩
      obtain ⟨m, hm⟩ : ∃ m, newL n k = m := ⟨_, rfl⟩
      rw [hm] at hown hsn hlk
      replace hm := Lib.hid hm
      have hbA : Hid (Below w2.heap.size w2 (wr.alloc (.cells #[.int .i64 a] 24))) := hB.out.alloc hB.out.size _
      have hb0 := Lib.hid (own_later hown.out (later_alloc wr (.cells #[.int .i64 a] 24)))
      have hc0 : Hid ((wr.alloc (.cells #[.int .i64 a] 24)).cell? ⟨wr.heap.size, 0, none⟩ = some (.int .i64 a)) := cell_of_row _ _ 0 _ _ _ (World.alloc_heap_new wr _)
      go_wp2_with (first | (go_at_call 23; refine (kp.out _).mono ?_; rintro e w' ⟨rfl, hw⟩; cases hw) | (at_builtin; refine wpList_append_own _ rfl _ _ 23 rfl w2.heap.size 24 i0 (.int .i64 0) 1 8 Tryz.underlying23 hi.out hz0.out hz1.out hz2.out rfl (by decide) _ _ _ rfl hb0.out ⟨wr.heap.size, 0, none⟩ 1 1 [.int .i64 a] rfl rfl ?c1 ?c2 ?c3 ?c4 ?c5 ?_))
      case c1 =>
        intro j u hj
        match j, hj with
        | 0, hj => cases hj; exact hc0.out
        | j + 1, hj => simp at hj
      case c2 =>
        intro u hu
        simp at hu
        rw [hu]; rfl
      case c3 => unfold maxLen; omega
      case c4 => omega
      case c5 => exact hbA.out.size
      · intro v2 w3 ho2 hg2 _
        have ho3 : Hid (w3.ownsRow w2.heap.size 24 1 v2 (newL n (k + 1)).length ((newL n (k + 1)).map (Value.int .i64))) := by
          show w3.ownsRow _ _ _ _ _ _
          rw [hsn.out, List.map_append, List.length_append, hlk]
          exact ho2
        have hb3 : Hid (Below w2.heap.size w2 w3) := hbA.out.grown hg2 hbA.out.size (own_block hb0.out)
        clear ho2 hg2
        go_wp2_with fail
        go_roundw
        case rel => exact ⟨k + 1, v2, by omega, by go_num, rfl, ho3.out, hb3.out⟩
        case measure => simp [intOf]; omega
    · obtain rfl : k = M := by omega
      obtain ⟨At, ct, rfl, hNt, hot⟩ := nms_own_ok hown.out
      have hB3 := Lib.hid (hB2.out.trans (hB.out.mono hB2.out.size))
      have hP3 := Lib.hid (hP2.out.later hB.out)
      have hNv3 := Lib.hid (hNv.out.later hB.out)
      have htl := newL_len n k
      replace hNt := Lib.hid hNt
      replace hot := Lib.hid hot
      clear hown hB hP2 hNv hB2
      rw [htl]
      replace htl := Lib.hid htl
      go_wp2_with fail
      rename World => W3
      go_loopw [9] (fun i W => ∃ j : Nat, j ≤ L ∧ i = .int .i64 j ∧ Hid (∀ p ∈ l.take j, -1000000 ≤ p.1 ∧ -1000000 ≤ p.2) ∧ Hid (Below W3.heap.size W3 W)) (fun i _ => L - (intOf i).toNat)
      case atStart => exact ⟨0, Nat.zero_le _, rfl, by intro p hp; simp at hp, Below.refl _ _⟩
      case round =>
        obtain ⟨j, hj, rfl, hlow, hB⟩ := hrel
        by_cases hlt2 : j < L
        · have hjl : j < l.length := by rw [hL.out]; exact hlt2
          obtain ⟨b, off, rfl, -, hc⟩ := (hP3.out.later hB.out) (by intro e; subst e; simp at hjl)
          obtain ⟨c0, c1⟩ := hc j hjl
          clear hc
          have htk := take_snoc l (0, 0) j hjl
          generalize l.getD j (0, 0) = q at c0 c1 htk
          obtain ⟨x, y⟩ := q
          dsimp only at c0 c1
          by_cases hx : x < -1000000
          · have hd : decide (x < -1000000) = true := decide_eq_true hx
            go_wp2_with fail
            go_ret
            exact ⟨rfl, hB3.out.trans (hB.out.mono hB3.out.size)⟩
          · have hd : decide (x < -1000000) = false := decide_eq_false hx
            by_cases hy : y < -1000000
            · have hd : decide (y < -1000000) = true := decide_eq_true hy
              go_wp2_with fail
              go_ret
              exact ⟨rfl, hB3.out.trans (hB.out.mono hB3.out.size)⟩
            · have hd : decide (y < -1000000) = false := decide_eq_false hy
              have hl2 : Hid (∀ p ∈ l.take (j + 1), -1000000 ≤ p.1 ∧ -1000000 ≤ p.2) := fun p hp => by
                rw [htk, List.mem_append, List.mem_singleton] at hp
                rcases hp with hp | rfl
                · exact hlow.out p hp
                · exact ⟨by dsimp only; omega, by dsimp only; omega⟩
              clear htk
              go_wp2_with fail
              go_roundw
              case rel => exact ⟨j + 1, by omega, by go_num, hl2.out, hB.out⟩
              case measure => simp [intOf]; omega
        · obtain rfl : j = L := by omega
          have hlow2 : ∀ a ∈ atomsL l, -1000000 ≤ a := fun a ha => by
            obtain ⟨p, hp, e⟩ := (atoms_mem l a).1 ha
            have h9 := hlow.out p (by rwa [List.take_of_length_le (by rw [hL.out]; exact Nat.le_refl _)])
            rcases e with rfl | rfl
            · exact h9.1
            · exact h9.2
          have hll' := hll.out
          have hv6 : ∀ x ∈ v, I64 x := by rw [← hv.out]; exact vars_i64 h6.out
          have ht6 : ∀ x ∈ newL n k, I64 x := fun x hx => by
            obtain ⟨i, hi, rfl⟩ := newL_mem hx
            exact ⟨by omega, by omega⟩
          have hkv : (varsL l).length = k := by rw [hv.out]; exact hM.out
          have e1 := map_renback (n := n) hn1 hlow2
          have e2 := map_renstay (n := n) hn1 hlow2
          have e3 := vars_none (n := n) (l := l) hn1
          rw [hkv, hv.out] at e1 e2 e3
          have hmx : v.length ≤ maxLen := by rw [hM.out]; unfold maxLen; omega
          have hmt : (newL n k).length ≤ maxLen := by rw [htl.out]; unfold maxLen; omega
          have hlm : ∀ f : Int → Int, (mapL f l).length = l.length := fun f => by simp [mapL]
          have hB4 := Lib.hid (hB3.out.trans (hB.out.mono hB3.out.size))
          have hP4 := Lib.hid (hP3.out.later hB.out)
          have hNv4 := Lib.hid (hNv3.out.later hB.out)
          have hNt4 := Lib.hid (hNt.out.later hB.out)
          have k1 := rename_any A Av At l v (newL n k) c cv ct wr hP4.out h6.out hll' hNv4.out hNt4.out hok.out hv6 ht6 hmt
          rw [hlm, hL.out, hM.out, htl.out] at k1
          replace k1 := Lib.hid k1
          clear hB hB3 hP3 hNv3 hNt hlow
          go_wp2_with fail
          refine k1.out.mono ?_
          rintro e w5 ⟨⟨A5, c5, rfl, h5⟩, hb5⟩
          have hB5 := Lib.hid (hB4.out.trans (hb5.mono hB4.out.size))
          have hP5 := Lib.hid (hP4.out.later hb5)
          have hNv5 := Lib.hid (hNv4.out.later hb5)
          have hNt5 := Lib.hid (hNt4.out.later hb5)
          have hm6 : ∀ p ∈ mapL (renL v (newL n k)) l, I64 p.1 ∧ I64 p.2 := map_i64 (fun a ha => ren_i64 ht6 ha) h6.out
          have k2 := vars_any A5 (mapL (renL v (newL n k)) l) c5 w5 h5 hm6 (by rw [hlm]; exact hll')
          rw [e3, hlm, hL.out, show ([] : List Int).length = 0 from rfl] at k2
          replace k2 := Lib.hid k2
          replace h5 := Lib.hid h5
          clear k1 hb5 hB4 hP4 hNv4 hNt4
          go_wp2_with fail
          refine k2.out.mono ?_
          rintro e w6 ⟨⟨A6, c6, rfl, -, -⟩, hb6⟩
          have hB6 := Lib.hid (hB5.out.trans (hb6.mono hB5.out.size))
          have hP6 := Lib.hid (hP5.out.later hb6)
          have hNv6 := Lib.hid (hNv5.out.later hb6)
          have hNt6 := Lib.hid (hNt5.out.later hb6)
          have k3 := rename_any A5 At Av (mapL (renL v (newL n k)) l) (newL n k) v c5 ct cv w6 (h5.out.later hb6) hm6 (by rw [hlm]; exact hll') hNt6.out hNv6.out hot.out ht6 hv6 hmx
          rw [e1, hlm, hL.out, hM.out, htl.out] at k3
          replace k3 := Lib.hid k3
          clear k2 hb6 hB5 hP5 hNv5 hNt5 h5
          go_wp2_with fail
          refine k3.out.mono ?_
          rintro e w7 ⟨⟨A7, c7, rfl, h7⟩, hb7⟩
          have hB7 := Lib.hid (hB6.out.trans (hb7.mono hB6.out.size))
          have hP7 := Lib.hid (hP6.out.later hb7)
          have hNv7 := Lib.hid (hNv6.out.later hb7)
          have hNt7 := Lib.hid (hNt6.out.later hb7)
          have k4 := same_any A7 A l l c7 c w7 h7 hP7.out hll'
          rw [show decide (l = l) = true from decide_eq_true rfl, hL.out] at k4
          replace k4 := Lib.hid k4
          clear k3 hb7 hB6 hP6 hNv6 hNt6 h7
          go_wp2_with fail
          refine k4.out.mono ?_
          rintro e w8 ⟨rfl, hb8⟩
          have hB8 := Lib.hid (hB7.out.trans (hb8.mono hB7.out.size))
          have hP8 := Lib.hid (hP7.out.later hb8)
          have k5 := rename_any A At Av l (newL n k) v c ct cv w8 hP8.out h6.out hll' (hNt7.out.later hb8) (hNv7.out.later hb8) hot.out ht6 hv6 hmx
          rw [e2, hL.out, hM.out, htl.out] at k5
          replace k5 := Lib.hid k5
          clear k4 hb8 hB7 hP7 hNv7 hNt7
          go_wp2_with fail
          refine k5.out.mono ?_
          rintro e w9 ⟨⟨A9, c9, rfl, h9⟩, hb9⟩
          have hB9 := Lib.hid (hB8.out.trans (hb9.mono hB8.out.size))
          have hP9 := Lib.hid (hP8.out.later hb9)
          have k6 := same_any A9 A l l c9 c w9 h9 hP9.out hll'
          rw [show decide (l = l) = true from decide_eq_true rfl, hL.out] at k6
          replace k6 := Lib.hid k6
          clear k5 hb9 hB8 hP8 h9
          go_wp2_with fail
          refine k6.out.mono ?_
          rintro e w10 ⟨rfl, hb10⟩
          have hB10 := Lib.hid (hB9.out.trans (hb10.mono hB9.out.size))
          have hP10 := Lib.hid (hP9.out.later hb10)
          have k7 := rename_any A none none l [] [] c 0 0 w10 hP10.out h6.out hll' (Nms.nil _ _) (Nms.nil _ _) ⟨Nat.le_refl _, Nat.zero_le _, fun _ => rfl⟩ (by simp) (by simp) (Nat.zero_le _)
          rw [map_none, hL.out, show ([] : List Int).length = 0 from rfl] at k7
          replace k7 := Lib.hid k7
          clear k6 hb10 hB9 hP9
          go_wp2_with fail
          refine k7.out.mono ?_
          rintro e w11 ⟨⟨A11, c11, rfl, h11⟩, hb11⟩
          have hB11 := Lib.hid (hB10.out.trans (hb11.mono hB10.out.size))
          have k8 := same_any A11 A l l c11 c w11 h11 (hP10.out.later hb11) hll'
          rw [show decide (l = l) = true from decide_eq_true rfl, hL.out] at k8
          replace k8 := Lib.hid k8
          clear k7 hb11 hB10 hP10 h11
          go_wp2_with fail
          refine k8.out.mono ?_
          rintro e w12 ⟨rfl, hb12⟩
          have hB12 := Lib.hid (hB11.out.trans (hb12.mono hB11.out.size))
          clear k8 hb12 hB11
          go_wp2_with fail
          go_ret
          exact ⟨rfl, hB12.out⟩
end Go.Proofs.YtklbnfenlgladaaGreatDoor
