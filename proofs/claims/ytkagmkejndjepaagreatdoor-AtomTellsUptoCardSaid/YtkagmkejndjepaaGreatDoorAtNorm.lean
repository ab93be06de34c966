/-
  Norm. Condition: the pairs can be read, at most 2^43.
-/
import Derived.Test.YtkagmkejndjepaaGreatDoorAtCpt
namespace Go.At
open Go.Lib
theorem norm_of {l s : List Pr} (hp : s.Perm (l.filter unlike)) (hs : s.Pairwise fun a b => ltP b a = false) : compactUpTo s.toArray s.length = normL l := compact_ord linP hp hs
end Go.At
namespace Go.Proofs.YtkagmkejndjepaaGreatDoor
open Go.RowKit Go.Shelf Go.At Go.Lib Go.Sort
attribute [local go_sem] Oper.semAt_some

/-- what a row that is owned holds, as an array -/
theorem arr_own {W : World} {base n : Nat} {v : Value} {l : List Pr} (h : W.ownsRow base 53 2 v n (cellsP l)) (hn : n = l.length) (hv : v ≠ .slice none 0 0) : ∃ g cap, v = .slice (some ⟨g, 0, none⟩) l.length cap ∧ base ≤ g ∧ l.length ≤ cap ∧ PArr W g l.toArray := by
  subst hn
  obtain ⟨_, ⟨e, _⟩ | ⟨g, cap, cur, rfl, hb, hg, hc, hm, hs, ht⟩⟩ := h
  · exact absurd e hv
  · refine ⟨g, cap, rfl, hb, hc, cur, hg, by simp; omega, fun j hj => ?_⟩
    have hj' : j < l.length := by simpa using hj
    obtain ⟨e1, e2⟩ := cellsP_get l j hj'
    have e : l.toArray[j]! = l.getD j (0, 0) := by
      rw [getElem!_pos l.toArray j hj, List.getD_eq_getElem?_getD, List.getElem?_eq_getElem hj']; simp
    rw [e]
    rw [← ht, List.getElem?_take, if_pos (by omega), Array.getElem?_toList] at e1 e2
    exact ⟨e1, e2⟩
set_option maxRecDepth 100000 in
set_option maxHeartbeats 1000000 in
theorem clone_any (A : Option Addr) (l : List Pr) (c : Nat) (w : World) (hP : Prs w A l) (hl : l.length ≤ 8796093022208) :
    Calls Tryz.prog 39 #[.slice A l.length c] w fun e w' => Below w.heap.size w w' ∧ ((A = none ∧ e = .returned (.slice none 0 0)) ∨ ∃ g cap, e = .returned (.slice (some ⟨g, 0, none⟩) l.length cap) ∧ w.heap.size ≤ g ∧ l.length ≤ cap ∧ PArr w' g l.toArray) := by
  obtain ⟨i0, hi, hi2⟩ := Option.map_eq_some_iff.1 infoPr
  obtain ⟨hz0, hz1, hz2⟩ : i0.zero = some (.agg #[.int .i64 0, .int .i64 0]) ∧ i0.size = 2 ∧ i0.bytes = 16 := by
    injection hi2 with h1 h2; injection h2 with h2 h3; exact ⟨h1, h2, h3⟩
  replace hi := Lib.hid hi
  replace hz0 := Lib.hid hz0
  replace hz1 := Lib.hid hz1
  replace hz2 := Lib.hid hz2
  clear hi2
  have q22 : ∀ (w : World) (a : Option Addr) (n c n' c' : Nat), (binOp .eql 22 (.slice a n c) (.slice none n' c')).run Tryz.prog w = .ok (.bool a.isNone) w := fun w a n c n' c' => Lib.run_eql_slice_nil w _ _ a n c n' c' Tryz.underlying22
  cases A with
  | none =>
    clear hP hl
    go_enter Tryz.func39, Tryz.ntmps39
    go_wp2
    go_ret
    exact ⟨Below.refl _ _, .inl ⟨by first | rfl | trivial, rfl⟩⟩
  | some ad =>
    have hcells : Hid (∀ o : Obj, ∀ j u, (cellsP l)[j]? = some u → (w.alloc o).cell? (ad.add j) = some u) := fun o j u hj => by
      have hlj : j < l.length * 2 := by rw [← cellsP_len]; exact (List.getElem?_eq_some_iff.1 hj).1
      obtain ⟨b, off, e, hb, hrow⟩ := hP (by intro e; subst e; simp at hlj)
      obtain rfl := Option.some.inj e
      obtain ⟨x0, x1⟩ := hrow (j / 2) (by omega)
      obtain ⟨y0, y1⟩ := cellsP_get l (j / 2) (by omega)
      rw [Addr.add_lit]
      refine Lib.cell?_alloc_some o ?_
      rcases (show j % 2 = 0 ∨ j % 2 = 1 by omega) with h | h
      · rw [show j / 2 * 2 = j by omega] at x0 y0
        rw [y0] at hj
        rw [x0, hj]
      · rw [show j / 2 * 2 + 1 = j by omega] at y1
        rw [show off + j / 2 * 2 + 1 = off + j by omega] at x1
        rw [y1] at hj
        rw [x1, hj]
    clear hP
    have hcl := Lib.hid (cellsP_len l)
    obtain ⟨L, hL⟩ : ∃ L, Hid (l.length = L) := ⟨_, rfl⟩
    have hLl := hL.out
    rw [hLl] at hl ⊢
    clear hLl
    go_enter Tryz.func39, Tryz.ntmps39
    go_wp2_with (at_builtin; refine wpList_append_own _ rfl _ _ 22 rfl w.heap.size 53 i0 (.agg #[.int .i64 0, .int .i64 0]) 2 16 Tryz.underlying22 hi.out hz0.out hz1.out hz2.out rfl (by decide) _ _ _ rfl (World.ownsRow_made w #[] 0 (Nat.le_refl _) (Nat.zero_le _) (by simp)) ad L c (cellsP l) rfl ?qc1 ?qc2 ?qc3 ?qc4 ?qc5 ?qc6 ?_)
    case qc1 => rw [hcl.out, hL.out]
    case qc2 => exact hcells.out _
    case qc3 => exact cells_one l
    case qc4 => unfold maxLen; omega
    case qc5 => omega
    case qc6 => simp
    intro v' w1 hown hgrow hnil
    have hv : v' ≠ .slice none 0 0 := hnil
    have hfin : Hid (∃ g cap, v' = .slice (some ⟨g, 0, none⟩) l.length cap ∧ w.heap.size ≤ g ∧ l.length ≤ cap ∧ PArr w1 g l.toArray) := arr_own (by simpa using hown) (by rw [hL.out]) hv
    have hb1 : Hid (Below w.heap.size w w1) := ((Below.refl _ w).alloc (Nat.le_refl _) _).grown hgrow (by simp) (by intro k hk; simp [Value.ownBlock] at hk; omega)
    clear hown hgrow hnil
    replace hv := Lib.hid hv
    go_wp2
    go_ret
    obtain ⟨g, cap, e1, e2, e3, e4⟩ := hfin.out
    exact ⟨hb1.out, .inr ⟨g, cap, by rw [e1, hL.out]; rfl, e2, by rw [← hL.out]; exact e3, e4⟩⟩
set_option maxRecDepth 100000 in
theorem delete_nil (w : World) : Calls Tryz.prog 38 #[.slice none 0 0, .func (.func 40) #[] #[]] w fun e w' => e = .returned (.slice none 0 0) ∧ w = w' := by
  have ki : ∀ W, Calls Tryz.prog 59 #[.slice none 0 0, .func (.func 40) #[] #[]] W fun e w' => e = .returned (.int .i64 (-1)) ∧ W = w' := fun W => by
    go_enter Tryz.func59, Tryz.ntmps59
    go_wp2_with fail
    go_loopw [8] (fun i wr => i = .int .i64 0 ∧ wr = W) (fun _ _ => 0)
    case atStart => exact ⟨rfl, rfl⟩
    case round =>
      obtain ⟨rfl, rfl⟩ := hrel
      go_wp2_with fail
      go_ret
      exact ⟨rfl, rfl⟩
  go_enter Tryz.func38, Tryz.ntmps38
  go_wp2_with (go_at_call 59; refine (ki _).mono ?_; rintro e w1 ⟨rfl, rfl⟩)
  go_ret
  exact ⟨rfl, rfl⟩
theorem compact_nil (w : World) : Calls Tryz.prog 45 #[.slice none 0 0] w fun e w' => e = .returned (.slice none 0 0) ∧ w = w' := by
  go_enter Tryz.func45, Tryz.ntmps45
  go_wp2
  go_ret
  exact ⟨rfl, rfl⟩
theorem normL_nil : normL [] = [] := rfl
theorem clone_nil (n c : Nat) (w : World) : Calls Tryz.prog 39 #[.slice none n c] w fun e w' => e = .returned (.slice none 0 0) ∧ w = w' := by
  have q22 : ∀ (w : World) (a : Option Addr) (n c n' c' : Nat), (binOp .eql 22 (.slice a n c) (.slice none n' c')).run Tryz.prog w = .ok (.bool a.isNone) w := fun w a n c n' c' => Lib.run_eql_slice_nil w _ _ a n c n' c' Tryz.underlying22
  go_enter Tryz.func39, Tryz.ntmps39
  go_wp2
  go_ret
  exact ⟨rfl, rfl⟩
set_option maxRecDepth 100000 in
theorem norm_any (A : Option Addr) (l : List Pr) (c : Nat) (w : World) (hP : Prs w A l) (hl : l.length ≤ 8796093022208) :
    Calls Tryz.prog 17 #[.slice A l.length c] w fun e w' => (∃ A c, e = .returned (.slice A (normL l).length c) ∧ Prs w' A (normL l)) ∧ Below w.heap.size w w' := by
  cases A with
  | none =>
    have hl0 : l = [] := by
      cases l with
      | nil => rfl
      | cons p r => obtain ⟨b, off, e, _⟩ := hP (by simp); cases e
    subst hl0
    have ks : ∀ W, Calls Tryz.prog 41 #[.slice none 0 0, .func (.func 42) #[] #[]] W fun e w' => e = .returned (.tuple #[]) ∧ W = w' := fun W => (show Calls Tryz.prog 41 #[.slice none 0 0, .func (.func 42) #[] #[]] W _ from AnyF.slices_SortFunc_none Tryz.sortP none 0 (.func (.func 42) #[] #[]) W).mono fun e w' h => ⟨h.1, h.2.symm⟩
    have kc := clone_nil
    have kd := delete_nil
    have kp := compact_nil
    replace ks := Lib.hid ks
    show Calls Tryz.prog 17 #[.slice none 0 c] w _
    clear hP hl
    go_enter Tryz.func17, Tryz.ntmps17
    go_wp2_with (first | (go_at_call 39; refine (kc _ _ _).mono ?_; rintro e w1 ⟨rfl, rfl⟩) | (go_at_call 38; refine (kd _).mono ?_; rintro e w1 ⟨rfl, rfl⟩) | (go_at_call 41; refine (ks.out _).mono ?_; rintro e w1 ⟨rfl, rfl⟩) | (go_at_call 45; refine (kp _).mono ?_; rintro e w1 ⟨rfl, rfl⟩))
    go_ret
    exact ⟨⟨none, 0, rfl, Prs.nil _ _⟩, Below.refl _ _⟩
  | some ad =>
    have kc := Lib.hid (clone_any (some ad) l c w hP hl)
    have hdl : Hid (∀ d2 : Array Pr, d2.toList = l.toArray.toList.filter unlike → d2.size ≤ l.length) := fun d2 h => by
      have h1 := congrArg List.length h
      have h2 := List.length_filter_le unlike l
      simp at h1
      omega
    have kd := Lib.hid (fun (g cap : Nat) (W : World) (hA : PArr W g l.toArray) (hcap : l.length ≤ cap) => delete_any g cap l.toArray W hA (by simpa using hl) (by simpa using hcap))
    clear hP
    obtain ⟨L, hL⟩ : ∃ L, Hid (l.length = L) := ⟨_, rfl⟩
    have hLl := hL.out
    have hsz : l.toArray.size = L := by simpa using hLl
    rw [hLl] at hl ⊢
    simp only [hsz, hLl] at kd kc hdl
    clear hLl hsz
    go_enter Tryz.func17, Tryz.ntmps17
    go_wp2_with fail
    refine kc.out.mono ?_
    rintro e w1 ⟨hb1, ⟨h0, -⟩ | ⟨g, cap, rfl, hg, hcap, hp1⟩⟩
    · cases h0
    have kd1 := Lib.hid (kd.out g cap w1 hp1 hcap)
    replace hb1 := Lib.hid hb1
    clear kd kc hp1
    go_wp2_with fail
    refine kd1.out.mono ?_
    rintro e w2 ⟨d2, rfl, hd2, hp2, hb2⟩
    have hs2 := hdl.out d2 hd2
    have ks := Lib.hid (sortF_any g cap d2 w2 hp2 (by omega))
    replace hb2 := Lib.hid hb2
    replace hd2 := Lib.hid hd2
    obtain ⟨n2, hn2⟩ : ∃ n2, d2.size = n2 := ⟨_, rfl⟩
    rw [hn2] at hs2 ks ⊢
    replace hn2 := Lib.hid hn2
    clear kd1 hp2 hdl
    go_wp2_with fail
    refine ks.out.mono ?_
    rintro e w3 ⟨rfl, d3, hs3, hperm, hpw, hp3, hb3⟩
    have kp := compactP_any g cap d3 w3 hp3 (by omega) (by omega)
    have hfin : Hid (compactUpTo d3 d3.size = normL l) := by
      have h1 := norm_of (l := l) (s := d3.toList) (by rw [hd2.out] at hperm; simpa using hperm) hpw
      show compactUpTo d3 d3.size = normL l
      simpa using h1
    rw [hs3] at kp
    replace kp := Lib.hid kp
    replace hb3 := Lib.hid hb3
    replace hs3 := Lib.hid hs3
    clear ks hp3 hperm hpw
    go_wp2_with fail
    refine kp.out.mono ?_
    rintro e w4 ⟨d4, rfl, hd4, hp4, hb4⟩
    have hd5 : Hid (d4.toList = normL l) := by
      have h1 := hfin.out
      rw [hs3.out] at h1
      show _ = _
      rw [hd4, h1]
    have hsz4 : Hid (d4.size = (normL l).length) := by rw [← hd5.out]; simp [Hid]
    replace hp4 := Lib.hid hp4
    replace hb4 := Lib.hid hb4
    clear kp hd4
    go_wp2_with fail
    go_ret
    have hB3 : Below w.heap.size w w4 := (((hb1.out).trans (hb2.out.mono hg)).trans (hb3.out.mono hg)).trans (hb4.out.mono hg)
    exact ⟨⟨_, _, by rw [hsz4.out]; rfl, hp4.out.prs hd5.out⟩, hB3⟩
end Go.Proofs.YtkagmkejndjepaaGreatDoor
