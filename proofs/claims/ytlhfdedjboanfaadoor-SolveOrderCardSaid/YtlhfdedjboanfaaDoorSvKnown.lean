/-
  Known. Condition: the lattice, the pairs can be read; the library's table lies as laid.
-/
import Derived.Test.YtlhfdedjboanfaaDoorSvW1
namespace Go.At
/-- are the first k so? -/
theorem all_take {α : Type} (l : List α) (d : α) (f : α → Bool) (k : Nat) (hk : k < l.length) : (l.take (k + 1)).all f = ((l.take k).all f && f (l.getD k d)) := by
  rw [take_snoc l d k hk, List.all_append]
  simp
theorem all_no {α : Type} (l : List α) (d : α) (f : α → Bool) (k : Nat) (hk : k < l.length) (h : f (l.getD k d) = false) : l.all f = false := by
  rw [List.all_eq_false]
  refine ⟨l.getD k d, ?_, by rw [h]; simp⟩
  rw [List.getD_eq_getElem?_getD, List.getElem?_eq_getElem hk]
  exact List.getElem_mem _
end Go.At
namespace Go.Proofs.YtlhfdedjboanfaaDoor
open Go.RowKit Go.Shelf Go.At Go.Sv
attribute [local go_sem] Oper.semAt_some

def knP (n : Nat) (p : Pr) : Bool := kn n p.1 && kn n p.2
set_option maxRecDepth 100000 in
set_option maxHeartbeats 4000000 in
theorem knownAll_any (A B : Option Addr) (ns : List ByteArray) (us : List Nat) (c d : Nat) (C : Option Addr) (l : List Pr) (cc : Nat) (w : World) (hE : L.Env w) (hL : L.LatAt w A B c ns us) (hP : Prs w C l) (h6 : ∀ p ∈ l, I64 p.1 ∧ I64 p.2) (hl : l.length ≤ 8796093022208) :
    Calls Tryd.prog 15 #[.agg #[.slice A ns.length c, .slice B us.length d], .slice C l.length cc] w fun e w' => e = .returned (.bool (knownT ns us l)) ∧ Below w.heap.size w w' := by
  have hb0 := later_alloc w (.cells #[.slice A ns.length c, .slice B us.length d] 25)
  have hx0 := World.alloc_heap_new w (.cells #[.slice A ns.length c, .slice B us.length d] 25)
  obtain ⟨W0, hW0⟩ : ∃ W, w.alloc (.cells #[.slice A ns.length c, .slice B us.length d] 25) = W := ⟨_, rfl⟩
  rw [hW0] at hb0 hx0
  have keyR := Lib.hid (L.right_any A B ns us c d W0 (hE.later hb0) (hL.later hb0))
  have hz := hb0.size
  have z1 : W0.heap.size = w.heap.size + 1 := by rw [← hW0, World.size_alloc]
  have b0 := cell_of_row _ _ 0 _ _ _ hx0
  have b1 := cell_of_row _ _ 1 _ _ _ hx0
  replace b0 : W0.cell? ⟨w.heap.size, 0, none⟩ = some (.slice A ns.length c) := b0
  replace b1 : W0.cell? ⟨w.heap.size, 1, none⟩ = some (.slice B us.length d) := b1
  have kb := Lib.hid (fun (W : World) (h : Below W0.heap.size W0 W) => And.intro ((h.cell (p := ⟨w.heap.size, 0, none⟩) (by show w.heap.size < _; omega)).trans b0) ((h.cell (p := ⟨w.heap.size, 1, none⟩) (by show w.heap.size < _; omega)).trans b1))
  replace hb0 := Lib.hid hb0
  replace hx0 := Lib.hid hx0
  replace hE := Lib.hid hE
  replace hL := Lib.hid hL
  replace hP := Lib.hid hP
  replace h6 := Lib.hid h6
  obtain ⟨N, hN⟩ : ∃ N, ns.length = N := ⟨_, rfl⟩
  obtain ⟨U, hU⟩ : ∃ U, us.length = U := ⟨_, rfl⟩
  obtain ⟨Q, hQ⟩ : ∃ Q, l.length = Q := ⟨_, rfl⟩
  obtain ⟨R, hR⟩ : ∃ R, knownT ns us l = R := ⟨_, rfl⟩
  rw [hN, hU] at keyR hW0
  rw [hN, hU] at kb
  rw [hN] at b0
  rw [hU] at b1
  rw [hN, hU, hQ, hR]
  rw [hQ] at hl
  replace hN := Lib.hid hN
  replace hU := Lib.hid hU
  replace hQ := Lib.hid hQ
  replace hR := Lib.hid hR
  clear hz
  cases hr : L.rightB ns us with
  | false =>
    rw [hr] at keyR
    have hR2 : Hid (R = false) := by show R = false; rw [← hR.out]; unfold knownT; rw [hr]; rfl
    replace hr := Lib.hid hr
    go_enter Tryd.func15, Tryd.ntmps15
    go_wp2_with (go_at_call 38; refine keyR.out.mono ?_; rintro e w' ⟨rfl, hb2⟩)
    go_ret
    exact ⟨ret_bool hR2.out.symm, hb0.out.trans (hb2.mono hb0.out.size)⟩
  | true =>
    rw [hr] at keyR
    replace hr := Lib.hid hr
    go_enter Tryd.func15, Tryd.ntmps15
    go_wp2_with (go_at_call 38; refine keyR.out.mono ?_; rintro e w1 ⟨rfl, hb2⟩)
    go_loopw [12] (fun i W => ∃ k : Nat, k ≤ Q ∧ i = .int .i64 k ∧ Hid ((l.take k).all (knP N) = true) ∧ Hid (Below W0.heap.size W0 W)) (fun i _ => Q - (intOf i).toNat)
    case atStart => exact ⟨0, Nat.zero_le _, rfl, rfl, hb2⟩
    case round =>
      obtain ⟨k, hk, rfl, hall, hB⟩ := hrel
      by_cases hlt : k < Q
      · have hkl : k < l.length := by rw [hQ.out]; exact hlt
        have hb3 : Hid (Below w.heap.size w wr) := hb0.out.trans (hB.out.mono hb0.out.size)
        obtain ⟨b, off, rfl, hbk, hc⟩ := (hP.out.later hb3.out) (by intro e; subst e; simp at hkl)
        obtain ⟨c0, c1⟩ := hc k hkl
        clear hc b0 b1 hW0
        have ht := all_take l (0, 0) (knP N) k hkl
        have hno := fun h => all_no l (0, 0) (knP N) k hkl h
        have h6k := h6.out (l.getD k (0, 0)) (by rw [List.getD_eq_getElem?_getD, List.getElem?_eq_getElem hkl]; exact List.getElem_mem _)
        generalize l.getD k (0, 0) = p at c0 c1 ht hno h6k
        obtain ⟨x, y⟩ := p
        dsimp only at c0 c1 h6k
        have kx := Lib.hid (fun W => known_any A B N U c d x h6k.1 W)
        have ky := Lib.hid (fun W => known_any A B N U c d y h6k.2 W)
        replace ht := Lib.hid ht
        replace hno := Lib.hid hno
        obtain ⟨V, hV⟩ : ∃ V, wr.alloc (.cells #[.int .i64 x, .int .i64 y] 58) = V := ⟨_, rfl⟩
        have hxV := World.alloc_heap_new wr (.cells #[.int .i64 x, .int .i64 y] 58)
        have hbV := later_alloc wr (.cells #[.int .i64 x, .int .i64 y] 58)
        have zV : V.heap.size = wr.heap.size + 1 := by rw [← hV, World.size_alloc]
        rw [hV] at hxV hbV
        have hBV := Lib.hid (hB.out.trans (hbV.mono hB.out.size))
        have v0 : V.cell? ⟨wr.heap.size, 0, none⟩ = some (.int .i64 x) := cell_of_row _ _ 0 _ _ _ hxV
        have v1 : V.cell? ⟨wr.heap.size, 1, none⟩ = some (.int .i64 y) := cell_of_row _ _ 1 _ _ _ hxV
        obtain ⟨b0, b1⟩ := kb.out V hBV.out
        replace hxV := Lib.hid hxV
        replace hbV := Lib.hid hbV
        obtain ⟨fx, hfx⟩ : ∃ f, kn N x = f := ⟨_, rfl⟩
        obtain ⟨fy, hfy⟩ : ∃ f, kn N y = f := ⟨_, rfl⟩
        rw [hfx] at kx
        rw [hfy] at ky
        have hkp : Hid (knP N (x, y) = (fx && fy)) := by show _ = _; rw [← hfx, ← hfy]; rfl
        clear hfx hfy h6k
        go_wp2_with fail
        refine (kx.out _).mono ?_
        rintro e w2 ⟨rfl, hb4⟩
        have hB2 := Lib.hid (hBV.out.trans (hb4.mono hBV.out.size))
        have y1 := (hb4.cell (p := ⟨wr.heap.size, 1, none⟩) (by show wr.heap.size < _; omega)).trans v1
        obtain ⟨d0, d1⟩ := kb.out w2 hB2.out
        clear b0 b1 v0 v1 hb4 hV
        cases fx with
        | false =>
          have hR2 : Hid (R = false) := by
            show R = false
            rw [← hR.out]
            have h1 := hno.out (by rw [hkp.out]; rfl)
            rw [← hN.out] at h1
            unfold knownT
            rw [show (l.all fun p => kn ns.length p.1 && kn ns.length p.2) = l.all (knP ns.length) from rfl, h1, Bool.and_false]
          go_wp2_with fail
          go_ret
          exact ⟨ret_bool hR2.out.symm, hb0.out.trans (hB2.out.mono hb0.out.size)⟩
        | true =>
          go_wp2_with fail
          refine (ky.out _).mono ?_
          rintro e w3 ⟨rfl, hb5⟩
          have hB3 := Lib.hid (hB2.out.trans (hb5.mono hB2.out.size))
          clear hb5
          cases fy with
          | false =>
            have hR2 : Hid (R = false) := by
              show R = false
              rw [← hR.out]
              have h1 := hno.out (by rw [hkp.out]; rfl)
              rw [← hN.out] at h1
              unfold knownT
              rw [show (l.all fun p => kn ns.length p.1 && kn ns.length p.2) = l.all (knP ns.length) from rfl, h1, Bool.and_false]
            go_wp2_with fail
            go_ret
            exact ⟨ret_bool hR2.out.symm, hb0.out.trans (hB3.out.mono hb0.out.size)⟩
          | true =>
            go_wp2_with fail
            go_roundw
            case rel => exact ⟨k + 1, by omega, by go_num, by show _ = _; rw [ht.out, hall.out, hkp.out]; rfl, hB3.out⟩
            case measure => simp [intOf]; omega
      · obtain rfl : k = Q := by omega
        have hR2 : Hid (R = true) := by
          show R = true
          rw [← hR.out]
          have h1 := hall.out
          rw [List.take_of_length_le (by rw [hQ.out]; exact Nat.le_refl _), ← hN.out] at h1
          unfold knownT
          rw [show (l.all fun p => kn ns.length p.1 && kn ns.length p.2) = l.all (knP ns.length) from rfl, h1, hr.out]
          rfl
        go_wp2_with fail
        go_ret
        exact ⟨ret_bool hR2.out.symm, hb0.out.trans (hB.out.mono hb0.out.size)⟩
end Go.Proofs.YtlhfdedjboanfaaDoor
