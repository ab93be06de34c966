/-
  Value. Condition: the lattice, the Sols can be read; the library's table lies as laid.
-/
import Derived.Test.YtlhfdedjboanfaaDoorSvIndex
namespace Go.Proofs.YtlhfdedjboanfaaDoor
open Go.RowKit Go.Shelf Go.At Go.Sv
attribute [local go_sem] Oper.semAt_some

set_option maxRecDepth 100000 in
set_option maxHeartbeats 4000000 in
theorem value_any (A B : Option Addr) (ns : List ByteArray) (us : List Nat) (c d : Nat) (C : Option Addr) (l : List Pr) (cc : Nat) (a : Int) (ha : I64 a) (w : World) (hE : L.Env w) (hL : L.LatAt w A B c ns us) (hP : Prs w C l) (hl : l.length ≤ 8796093022208) :
    Calls Tryd.prog 17 #[.agg #[.slice A ns.length c, .slice B us.length d], .slice C l.length cc, .int .i64 a] w fun e w' => e = .returned (.int .i64 (valueT ns us l a)) ∧ Below w.heap.size w w' := by
  -- the two boxes
  obtain ⟨W1, hW1⟩ : ∃ W, w.alloc (.cells #[.slice A ns.length c, .slice B us.length d] 25) = W := ⟨_, rfl⟩
  have hx1 := World.alloc_heap_new w (.cells #[.slice A ns.length c, .slice B us.length d] 25)
  have hb1 := later_alloc w (.cells #[.slice A ns.length c, .slice B us.length d] 25)
  have z1 : W1.heap.size = w.heap.size + 1 := by rw [← hW1, World.size_alloc]
  rw [hW1] at hx1 hb1
  obtain ⟨W0, hW0⟩ : ∃ W, W1.alloc (.cells #[.int .i64 a] 28) = W := ⟨_, rfl⟩
  have hx2 := World.alloc_heap_new W1 (.cells #[.int .i64 a] 28)
  have hb2 := later_alloc W1 (.cells #[.int .i64 a] 28)
  have z0 : W0.heap.size = W1.heap.size + 1 := by rw [← hW0, World.size_alloc]
  rw [hW0] at hx2 hb2
  have hb0 := hb1.trans (hb2.mono hb1.size)
  have hx1' := (hb2.block w.heap.size (by omega)).trans hx1
  have b0 : W0.cell? ⟨w.heap.size, 0, none⟩ = some (.slice A ns.length c) := cell_of_row _ _ 0 _ _ _ hx1'
  have b1 : W0.cell? ⟨w.heap.size, 1, none⟩ = some (.slice B us.length d) := cell_of_row _ _ 1 _ _ _ hx1'
  have p0 : W0.cell? ⟨W1.heap.size, 0, none⟩ = some (.int .i64 a) := cell_of_row _ _ 0 _ _ _ hx2
  have kb := Lib.hid (fun (W : World) (h : Below W0.heap.size W0 W) => And.intro ((h.cell (p := ⟨w.heap.size, 0, none⟩) (by show w.heap.size < _; omega)).trans b0) (And.intro ((h.cell (p := ⟨w.heap.size, 1, none⟩) (by show w.heap.size < _; omega)).trans b1) ((h.cell (p := ⟨W1.heap.size, 0, none⟩) (by show W1.heap.size < _; omega)).trans p0)))
  have kp := Lib.hid (fun W => pointOf_any a W ha)
  have ki := Lib.hid (fun W => isPoint_any a W)
  have ks := Lib.hid (fun p W => spoint_any A B ns.length us.length c d p W)
  have kx := Lib.hid (fun (W : World) (h : Below W0.heap.size W0 W) => idxFn_any 45 #[.pointer (some ⟨W1.heap.size, 0, none⟩)] (fun x => x.1 == a) (fun args w => by go_simp) C l cc W ((hP.later hb0).later h) hl
    (fun W' v p hW' => valC_any W1.heap.size a v p W' (kb.out W' (h.trans (hW'.mono h.size))).2.2))
  have kbt := Lib.hid (fun (W : World) (h : Below W0.heap.size W0 W) => L.bottom_any A B ns us c d W ((hE.later hb0).later h) ((hL.later hb0).later h))
  have hPl := Lib.hid (fun (W : World) (h : Below W0.heap.size W0 W) => (hP.later hb0).later h)
  replace z1 := Lib.hid z1
  replace z0 := Lib.hid z0
  have hfind := idx_find (fun x => x.1 == a) l
  replace hb0 := Lib.hid hb0
  replace hx1 := Lib.hid hx1
  replace hx2 := Lib.hid hx2
  replace hx1' := Lib.hid hx1'
  replace hb1 := Lib.hid hb1
  replace hb2 := Lib.hid hb2
  replace hE := Lib.hid hE
  replace hL := Lib.hid hL
  replace hP := Lib.hid hP
  obtain ⟨N, hN⟩ : ∃ N, ns.length = N := ⟨_, rfl⟩
  obtain ⟨U, hU⟩ : ∃ U, us.length = U := ⟨_, rfl⟩
  obtain ⟨Q, hQ⟩ : ∃ Q, l.length = Q := ⟨_, rfl⟩
  obtain ⟨R, hR⟩ : ∃ R, valueT ns us l a = R := ⟨_, rfl⟩
  rw [hN] at b0 kb hW1 ks kbt
  rw [hU] at b1 kb hW1 ks kbt
  rw [hQ] at kx hl
  rw [hN, hU, hQ, hR]
  replace hN := Lib.hid hN
  replace hU := Lib.hid hU
  replace hQ := Lib.hid hQ
  unfold valueT at hR
  rw [hN.out] at hR
  have hBr := Lib.hid (Below.refl W0.heap.size W0)
  cases hp : isP a with
  | true =>
    have h0 : a < 0 := of_decide_eq_true hp
    have e : pointOfT a = -1 - a := if_pos h0
    rw [if_pos h0] at hR
    rw [hp] at ki
    rw [e] at kp
    obtain ⟨z, hz⟩ : ∃ z, pnt N (-1 - a) = z := ⟨_, rfl⟩
    rw [hz] at hR
    have ks2 := Lib.hid (fun W => ks.out (-1 - a) W)
    rw [hz] at ks2
    replace hz := Lib.hid hz
    replace hR := Lib.hid hR
    replace hp := Lib.hid hp
    replace e := Lib.hid e
    clear hfind kx
    generalize hm : -1 - a = m at kp ks2 hR
    clear hm h0
    cases z with
    | true =>
      go_enter Tryd.func17, Tryd.ntmps17
      go_wp2_with (first
        | (go_at_call 43; refine (kp.out _).mono ?_; rintro e w' ⟨rfl, rfl⟩)
        | (go_at_call 24; refine (ki.out _).mono ?_; rintro e w' ⟨rfl, rfl⟩)
        | (go_at_call 46; refine (ks2.out _).mono ?_; rintro e w' ⟨rfl, hb9⟩))
      go_ret
      exact ⟨ret_int hR.out, hb0.out.trans (hb9.mono hb0.out.size)⟩
    | false =>
      go_enter Tryd.func17, Tryd.ntmps17
      go_wp2_with (first
        | (go_at_call 43; refine (kp.out _).mono ?_; rintro e w' ⟨rfl, rfl⟩)
        | (go_at_call 24; refine (ki.out _).mono ?_; rintro e w' ⟨rfl, rfl⟩)
        | (go_at_call 46; refine (ks2.out _).mono ?_; rintro e w' ⟨rfl, hb9⟩))
      go_ret
      exact ⟨ret_int hR.out, hb0.out.trans (hb9.mono hb0.out.size)⟩
  | false =>
    have h0 : ¬ a < 0 := of_decide_eq_false hp
    rw [if_neg h0] at hR
    rw [hp] at ki
    replace hp := Lib.hid hp
    clear h0
    generalize pointOfT a = po at kp
    rcases hfind with ⟨k, hk, hi, hf⟩ | ⟨hi, hf⟩
    · rw [hf] at hR
      rw [hi] at kx
      simp only at hR
      rw [hQ.out] at hk
      have hkl : k < l.length := by rw [hQ.out]; exact hk
      obtain ⟨b, off, hC, hbk, hc⟩ := hPl.out W0 hBr.out (by intro e; subst e; simp at hkl)
      subst hC
      obtain ⟨-, c1⟩ := hc k hkl
      clear hc
      generalize l.getD k (0, 0) = x at c1 hR
      obtain ⟨x0, m⟩ := x
      dsimp only at c1 hR
      have ks2 := Lib.hid (fun W => ks.out m W)
      obtain ⟨z, hz⟩ : ∃ z, pnt N m = z := ⟨_, rfl⟩
      rw [hz] at hR ks2
      have kc := Lib.hid (fun (W : World) (h : Below W0.heap.size W0 W) => (h.cell (p := ⟨b, off + k * 2 + 1, none⟩) (World.block_lt_of_cell? W0 _ c1)).trans c1)
      have kx2 := Lib.hid (kx.out W0 hBr.out)
      replace hz := Lib.hid hz
      replace hR := Lib.hid hR
      replace hf := Lib.hid hf
      replace hi := Lib.hid hi
      clear c1 ks kx kbt
      have hkm : k ≤ 8796093022208 := by omega
      cases z with
      | true =>
        go_enter Tryd.func17, Tryd.ntmps17
        go_wp2_with (first
          | (go_at_call 43; refine (kp.out _).mono ?_; rintro e w' ⟨rfl, rfl⟩)
          | (go_at_call 24; refine (ki.out _).mono ?_; rintro e w' ⟨rfl, rfl⟩)
          | (go_at_call 44; refine kx2.out.mono ?_; rintro e w2 ⟨rfl, hb9⟩; have c1 := kc.out w2 hb9; obtain ⟨b0, b1, p0⟩ := kb.out w2 hb9)
          | (go_at_call 46; refine (ks2.out _).mono ?_; rintro e w3 ⟨rfl, hb8⟩))
        go_ret
        exact ⟨ret_int hR.out, (hb0.out.trans (hb9.mono hb0.out.size)).trans (hb8.mono (Nat.le_trans hb0.out.size hb9.size))⟩
      | false =>
        go_enter Tryd.func17, Tryd.ntmps17
        go_wp2_with (first
          | (go_at_call 43; refine (kp.out _).mono ?_; rintro e w' ⟨rfl, rfl⟩)
          | (go_at_call 24; refine (ki.out _).mono ?_; rintro e w' ⟨rfl, rfl⟩)
          | (go_at_call 44; refine kx2.out.mono ?_; rintro e w2 ⟨rfl, hb9⟩; have c1 := kc.out w2 hb9; obtain ⟨b0, b1, p0⟩ := kb.out w2 hb9)
          | (go_at_call 46; refine (ks2.out _).mono ?_; rintro e w3 ⟨rfl, hb8⟩))
        go_ret
        exact ⟨ret_int hR.out, (hb0.out.trans (hb9.mono hb0.out.size)).trans (hb8.mono (Nat.le_trans hb0.out.size hb9.size))⟩
    · rw [hf] at hR
      rw [hi] at kx
      simp only at hR
      have kx2 := Lib.hid (kx.out W0 hBr.out)
      replace hR := Lib.hid hR
      replace hf := Lib.hid hf
      replace hi := Lib.hid hi
      clear ks kx hPl
      go_enter Tryd.func17, Tryd.ntmps17
      go_wp2_with (first
        | (go_at_call 43; refine (kp.out _).mono ?_; rintro e w' ⟨rfl, rfl⟩)
        | (go_at_call 24; refine (ki.out _).mono ?_; rintro e w' ⟨rfl, rfl⟩)
        | (go_at_call 44; refine kx2.out.mono ?_; rintro e w2 ⟨rfl, hb9⟩; obtain ⟨b0, b1, p0⟩ := kb.out w2 hb9)
        | (go_at_call 28; refine (kbt.out _ hb9).mono ?_; rintro e w3 ⟨rfl, hb8⟩))
      go_ret
      exact ⟨ret_int hR.out, (hb0.out.trans (hb9.mono hb0.out.size)).trans (hb8.mono (Nat.le_trans hb0.out.size hb9.size))⟩
end Go.Proofs.YtlhfdedjboanfaaDoor
