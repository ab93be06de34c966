/-
  values: the Sols in a map. Condition: the lattice, the Sols can be read; the library's table lies as laid.
-/
import Derived.Test.YtlhfdedjboanfaaDoorSvBack
import Derived.Test.YtlhfdedjboanfaaDoorSvW1
import Derived.Test.YtlhfdedjboanfaaDoorLtRound
namespace Go.At
theorem putAll_find : ∀ (l : List Pr) (a : Int), putAll l a = (l.find? (fun x => x.1 == a)).map (·.2)
  | [], _ => rfl
  | p :: r, a => by
    have ih := putAll_find r a
    show (if a = p.1 then some p.2 else putAll r a) = _
    rw [List.find?_cons]
    by_cases h : a = p.1
    · rw [if_pos h]
      have : (p.1 == a) = true := by simp [h]
      rw [this]; rfl
    · rw [if_neg h]
      have : (p.1 == a) = false := by rw [beq_eq_false_iff_ne]; exact fun e => h e.symm
      rw [this]; exact ih
end Go.At
namespace Go.Proofs.YtlhfdedjboanfaaDoor
open Go.RowKit Go.Shelf Go.At Go.Maps
attribute [local go_sem] Oper.semAt_some

/-- what the closure tells -/
def clT (f : Int → Option Int) (z a : Int) : Int := if a < 0 then -1 - a else (f a).getD z
set_option maxRecDepth 100000 in
theorem clos_any (M T mb N : Nat) (f : Int → Option Int) (z a : Int) (ha : I64 a) (W : World) (h1 : W.cell? ⟨M, 0, none⟩ = some (.map (some mb))) (h2 : IMap W mb N f) (h3 : W.cell? ⟨T, 0, none⟩ = some (.int .i64 z)) :
    Calls Tryd.prog 72 #[.int .i64 a, .pointer (some ⟨M, 0, none⟩), .pointer (some ⟨T, 0, none⟩)] W fun e w' => e = .returned (.int .i64 (clT f z a)) ∧ W = w' := by
  have hl := h2.look_ok ha
  have kp := Lib.hid (fun W => pointOf_any a W ha)
  have ki := Lib.hid (fun W => isPoint_any a W)
  clear h2
  unfold clT
  cases hp : isP a with
  | true =>
    have h0 : a < 0 := of_decide_eq_true hp
    have e : pointOfT a = -1 - a := if_pos h0
    rw [if_pos h0]
    rw [hp] at ki
    rw [e] at kp
    replace hp := Lib.hid hp
    clear hl h0
    go_enter Tryd.func72, Tryd.ntmps72
    go_wp2_with (first
      | (go_at_call 24; refine (ki.out _).mono ?_; rintro e w' ⟨rfl, rfl⟩)
      | (go_at_call 43; refine (kp.out _).mono ?_; rintro e w' ⟨rfl, rfl⟩))
    go_ret
    exact ⟨rfl, rfl⟩
  | false =>
    have h0 : ¬ a < 0 := of_decide_eq_false hp
    rw [if_neg h0]
    rw [hp] at ki
    replace hp := Lib.hid hp
    clear h0
    cases hf : f a with
    | none =>
      rw [hf] at hl
      simp only [Option.isSome_none, Option.getD_none] at hl ⊢
      replace hf := Lib.hid hf
      go_enter Tryd.func72, Tryd.ntmps72
      go_wp2_with (go_at_call 24; refine (ki.out _).mono ?_; rintro e w' ⟨rfl, rfl⟩)
      go_ret
      exact ⟨rfl, rfl⟩
    | some b =>
      rw [hf] at hl
      simp only [Option.isSome_some, Option.getD_some] at hl ⊢
      replace hf := Lib.hid hf
      go_enter Tryd.func72, Tryd.ntmps72
      go_wp2_with (go_at_call 24; refine (ki.out _).mono ?_; rintro e w' ⟨rfl, rfl⟩)
      go_ret
      exact ⟨rfl, rfl⟩
/-- what is put in so far -/
def putP (l : List Pr) {n : Nat} (pre : List (Ix n)) : Int → Option Int := pre.foldl (fun f i => updM f (l.getD i.1 (0, 0)).1 (l.getD i.1 (0, 0)).2) (fun _ => none)
theorem putP_snoc (l : List Pr) {n : Nat} (pre : List (Ix n)) (x : Ix n) : putP l (pre ++ [x]) = updM (putP l pre) (l.getD x.1 (0, 0)).1 (l.getD x.1 (0, 0)).2 := by simp [putP]
theorem putP_all (l : List Pr) {n : Nat} (hn : l.length = n) (ys : List (Ix n)) (hy : ys.map (·.1) = downTo n) (a : Int) : putP l ys a = (l.find? (fun x => x.1 == a)).map (·.2) := by
  have e1 : putP l ys = (ys.map (fun i => l.getD i.1 (0, 0))).foldl (fun f p x => if x = p.1 then some p.2 else f x) (fun _ => none) := by
    unfold putP
    rw [List.foldl_map]
    rfl
  have e2 : ys.map (fun i => l.getD i.1 (0, 0)) = l.reverse := by
    have := congrArg (List.map fun i => l.getD i (0, 0)) hy
    rw [List.map_map] at this
    refine Eq.trans (b := (downTo n).map fun i => l.getD i (0, 0)) this ?_
    rw [← hn, downTo_get]
  rw [e1, e2, putAll_fold, putAll_find]
set_option maxRecDepth 100000 in
set_option maxHeartbeats 4000000 in
theorem values_any (A B : Option Addr) (ns : List ByteArray) (us : List Nat) (c d : Nat) (C : Option Addr) (l : List Pr) (cc : Nat) (w : World) (hE : L.Env w) (hL : L.LatAt w A B c ns us) (hP : Prs w C l) (h6 : ∀ p ∈ l, I64 p.1 ∧ I64 p.2) (hok : OkS C l.length cc) (hl : l.length ≤ 8796093022208) :
    Calls Tryd.prog 49 #[.agg #[.slice A ns.length c, .slice B us.length d], .slice C l.length cc] w fun e w' => (∃ M T mb N f, e = .returned (.func (.func 72) #[] #[.pointer (some ⟨M, 0, none⟩), .pointer (some ⟨T, 0, none⟩)]) ∧ w'.cell? ⟨M, 0, none⟩ = some (.map (some mb)) ∧ IMap w' mb N f ∧ w'.cell? ⟨T, 0, none⟩ = some (.int .i64 (L.bottomI ns us)) ∧ ∀ a, f a = (l.find? (fun x => x.1 == a)).map (·.2)) ∧ Below w.heap.size w w' := by
  obtain ⟨o1, o2, o3⟩ := hok
  obtain ⟨W1, hW1⟩ : ∃ W, w.alloc (.cells #[.slice A ns.length c, .slice B us.length d] 25) = W := ⟨_, rfl⟩
  have hx1 := World.alloc_heap_new w (.cells #[.slice A ns.length c, .slice B us.length d] 25)
  have hb1 := later_alloc w (.cells #[.slice A ns.length c, .slice B us.length d] 25)
  have z1 : W1.heap.size = w.heap.size + 1 := by rw [← hW1, World.size_alloc]
  rw [hW1] at hx1 hb1
  have b0 : W1.cell? ⟨w.heap.size, 0, none⟩ = some (.slice A ns.length c) := cell_of_row _ _ 0 _ _ _ hx1
  have b1 : W1.cell? ⟨w.heap.size, 1, none⟩ = some (.slice B us.length d) := cell_of_row _ _ 1 _ _ _ hx1
  have kbt := Lib.hid (L.bottom_any A B ns us c d W1 (hE.later hb1) (hL.later hb1))
  have hbk := backward_any C l.length cc
  obtain ⟨n, hn⟩ : ∃ n, l.length = n := ⟨_, rfl⟩
  obtain ⟨N, hN⟩ : ∃ N, ns.length = N := ⟨_, rfl⟩
  obtain ⟨U, hU⟩ : ∃ U, us.length = U := ⟨_, rfl⟩
  obtain ⟨z, hz⟩ : ∃ z, L.bottomI ns us = z := ⟨_, rfl⟩
  rw [hN, hU] at hW1 kbt
  rw [hN] at b0
  rw [hU] at b1
  rw [hz] at kbt
  rw [hn] at hl o1 hbk
  rw [hn, hN, hU, hz]
  replace hz := Lib.hid hz
  replace hN := Lib.hid hN
  replace hU := Lib.hid hU
  replace hP := Lib.hid hP
  replace h6 := Lib.hid h6
  replace hE := Lib.hid hE
  replace hL := Lib.hid hL
  replace hx1 := Lib.hid hx1
  replace hb1 := Lib.hid hb1
  replace z1 := Lib.hid z1
  replace hn := Lib.hid hn
  replace o3 := Lib.hid o3
  have hmm := run_makeMapN
  have hnc : (n : Int) ≤ (cc : Int) := by omega
  refine (callsIn_wide (n := 8)).1 ?_
  refine callsIn_of_wp_marks Tryd.func49 rfl trivial ?_ rfl
  simp only [Tryd.ntmps49, List.size_toArray, List.length_cons, List.length_nil, Nat.reduceAdd, Nat.reduceSub, Array.replicate_succ, Array.replicate_zero, List.push_toArray, List.append_toArray, List.nil_append, List.cons_append]
  gi_wp2_with (first
    | (refine ⟨trivial, ?_⟩; gi_at_call 28; refine (callsIn_wide.2 kbt.out).mono ?_; rintro e w2 ⟨rfl, hb2⟩)
    | (refine ⟨trivial, ?_⟩; gi_at_call 71; refine (callsIn_wide.2 (hbk _)).mono ?_; rintro e w9 ⟨rfl, rfl⟩))
  have hbw2 := Lib.hid (hb1.out.trans (hb2.mono hb1.out.size))
  obtain ⟨B0, hB⟩ : ∃ B, w2.heap.size = B := ⟨_, rfl⟩
  rw [hB]
  obtain ⟨W3, hW3⟩ : ∃ W3, ((((w2.alloc (.cells #[.int .i64 z] 3)).alloc (.map #[] 0)).alloc (.cells #[.map (some (B0 + 1))] 98)).alloc (.cells #[.slice C n cc] 27)) = W3 := ⟨_, rfl⟩
  have hs3 : W3.heap.size = B0 + 4 := by rw [← hW3, ← hB]; simp
  have hB3 : Below B0 w2 W3 := by
    rw [← hW3, ← hB]
    exact ((((Below.refl _ w2).alloc (Nat.le_refl _) _).alloc (by simp) _).alloc (by simp; omega) _).alloc (by simp; omega) _
  have k0 : W3.heap[B0]? = some (.cells #[.int .i64 z] 3 (0, 0)) := by
    rw [← hW3, Below.heap_alloc _ _ _ (by simp; omega), Below.heap_alloc _ _ _ (by simp; omega), Below.heap_alloc _ _ _ (by simp; omega), ← hB]
    exact World.alloc_heap_new w2 _
  have k1 : W3.heap[B0 + 1]? = some (.map #[] 0) := by
    rw [← hW3, Below.heap_alloc _ _ _ (by simp; omega), Below.heap_alloc _ _ _ (by simp; omega)]
    have := World.alloc_heap_new (w2.alloc (.cells #[.int .i64 z] 3)) (.map #[] 0)
    rwa [World.size_alloc, hB] at this
  have k2 : W3.heap[B0 + 1 + 1]? = some (.cells #[.map (some (B0 + 1))] 98 (0, 0)) := by
    rw [← hW3, Below.heap_alloc _ _ _ (by simp; omega)]
    have := World.alloc_heap_new ((w2.alloc (.cells #[.int .i64 z] 3)).alloc (.map #[] 0)) (.cells #[.map (some (B0 + 1))] 98)
    rwa [World.size_alloc, World.size_alloc, hB] at this
  have k3 : W3.heap[B0 + 1 + 1 + 1]? = some (.cells #[.slice C n cc] 27 (0, 0)) := by
    rw [← hW3]
    have := World.alloc_heap_new (((w2.alloc (.cells #[.int .i64 z] 3)).alloc (.map #[] 0)).alloc (.cells #[.map (some (B0 + 1))] 98)) (.cells #[.slice C n cc] 27)
    rwa [World.size_alloc, World.size_alloc, World.size_alloc, hB] at this
  rw [hW3]
  clear hW3
  have hmap0 := IMap.made k1
  have hsB : w2.heap.size = B0 := hB
  clear hB k1
  have q3 : W3.cell? ⟨B0 + 1 + 1 + 1, 0, none⟩ = some (.slice C n cc) := cell_of_row _ _ 0 _ _ _ k3
  have hPw : Hid (Prs w2 C l) := hP.out.later hbw2.out
  refine wpIn_rangeFunc_ownH rfl (by omega) (gf := 80) (lb := #[.pointer (some ⟨B0 + 1 + 1 + 1, 0, none⟩)]) rfl trivial (enters_of Tryd.func80 (by kernel_rfl) rfl)
    (back_stops 7 (B0 + 1 + 1 + 1) (B0 + 4) (B0 + 1) (by omega) C n cc l (by rw [hn.out]; exact Nat.le_refl _) (by omega) (by omega) (by omega) W3 hs3.symm q3 (fun h0 => by
      obtain ⟨b, off, e1, e2, e3⟩ := hPw.out (by intro e; have := hn.out; rw [e] at this; simp at this; omega)
      exact ⟨b, off, e1, by omega, by omega, e3.block (hB3.block b (by omega))⟩)) KpM.t (KpM.b (by omega)) (Below.refl _ _) (fun _ => rfl)
    (fun pre W => (W.heap[B0]? = some (.cells #[.int .i64 z] 3 (0, 0)) ∧ W.heap[B0 + 1 + 1]? = some (.cells #[.map (some (B0 + 1))] 98 (0, 0)) ∧ IMap W (B0 + 1) pre.length (putP l pre)) ∧ (Below B0 w2 W ∧ B0 + 4 ≤ W.heap.size))
    (fun _ _ _ => False)
    (OwnFrom.and (fun s X Y row hs hg hr => ⟨(hg.block B0 (World.lt_of_get hs.1) (fun e => by have := (hr _ e.symm).1; omega)).trans hs.1, (hg.block (B0 + 1 + 1) (World.lt_of_get hs.2.1) (fun e => by have := (hr _ e.symm).1; omega)).trans hs.2.1, hs.2.2.same (hg.block (B0 + 1) hs.2.2.lt (fun e => by have := (hr _ e.symm).1; omega))⟩) (OwnFrom.and (ownFrom_below (by omega) (by omega)) (fun s X Y row hs hg hr => Nat.le_trans hs hg.size)))
    (fun _ _ _ _ _ hs _ _ => hs)
    ⟨⟨k0, k2, hmap0⟩, hB3, by omega⟩
    (fun x a' W => ∃ p, B0 + 4 ≤ p ∧ W.heap[p]? = some (.cells #[.int .i64 (l.getD x.1 (0, 0)).1, .int .i64 (l.getD x.1 (0, 0)).2] 54 (0, 0)) ∧ a' = { tmps := #[.agg #[.slice A N c, .slice B U d], .slice C n cc, .pointer (some ⟨w.heap.size, 0, none⟩), undef, .nilFunc, .pointer (some ⟨B0, 0, none⟩), .pointer (some ⟨B0 + 1 + 1, 0, none⟩), undef, .pointer (some ⟨p, 0, none⟩), .agg #[.slice A N c, .slice B U d], .int .i64 z, .slice C n cc, .int .i64 n, .map (some (B0 + 1)), .slice C n cc, .func (.func 80) #[] #[.pointer (some ⟨B0 + 1 + 1 + 1, 0, none⟩)], .int .i64 ((x.1 : Nat) : Int), solV (l.getD x.1 (0, 0)), undef, undef, undef, undef, undef, undef], defers := [] })
    (fun x a' s X Y row hs hg hr => by
      obtain ⟨p, h1, h2, h3⟩ := hs
      refine ⟨p, h1, (hg.block p (World.lt_of_get h2) (fun e => ?_)).trans h2, h3⟩
      obtain ⟨o, ho, hc⟩ := (hr _ e.symm).2
      rw [h2] at ho
      cases ho
      cases hc) ?assign ?body ?done ?stop
  case assign =>
    rintro l' pre x W K ⟨⟨c0, c1, c2⟩, hBW, hWs⟩ hK
    obtain ⟨pq, hpq⟩ : ∃ p, l.getD x.1 (0, 0) = p := ⟨_, rfl⟩
    rw [hpq] at hK ⊢
    have hV := World.alloc_heap_new W (.cells #[.int .i64 pq.1, .int .i64 pq.2] 54)
    have hbV := later_alloc W (.cells #[.int .i64 pq.1, .int .i64 pq.2] 54)
    have hgV := World.grownBy_alloc W (.cells #[.int .i64 pq.1, .int .i64 pq.2] 54) none
    have hend := Lib.hid (hK _ _ (KeepsFrom.of_grownBy hgV (fun j e => by cases e)) (fun k hk _ => hbV.block k (by omega))
      ⟨⟨(hbV.block _ (World.lt_of_get c0)).trans c0, (hbV.block _ (World.lt_of_get c1)).trans c1, c2.same (hbV.block _ c2.lt)⟩, hBW.trans (hbV.mono (by omega)), Nat.le_trans hWs hbV.size⟩ ⟨W.heap.size, by omega, hV, rfl⟩)
    clear hK hV hbV hgV c0 c1 c2
    unfold solV
    gi_wp2
    exact hend.out
  case body =>
    clear k0 k2 k3 hmap0 q3
    rintro l' pre ⟨x, hx⟩ a' W _ _ ⟨⟨c0, c1, c2⟩, hBW, hWs⟩ ⟨p, hp, hpc, rfl⟩ hlt
    have hxl : x < l.length := by rw [hn.out]; exact hx
    have h6x := h6.out (l.getD x (0, 0)) (by rw [List.getD_eq_getElem?_getD, List.getElem?_eq_getElem hxl]; exact List.getElem_mem _)
    have hsn := putP_snoc l pre (⟨x, hx⟩ : Ix n)
    dsimp only at hsn hpc ⊢
    obtain ⟨pq, hpq⟩ : ∃ p, l.getD x (0, 0) = p := ⟨_, rfl⟩
    rw [hpq] at h6x hsn hpc ⊢
    obtain ⟨x0, x1⟩ := pq
    dsimp only at h6x hsn hpc ⊢
    unfold solV
    dsimp only
    have q1 := cell_of_row _ _ 0 _ _ _ c1
    have p0 := cell_of_row _ _ 0 _ _ _ hpc
    have p1 := cell_of_row _ _ 1 _ _ _ hpc
    replace q1 : W.cell? ⟨B0 + 1 + 1, 0, none⟩ = some (.map (some (B0 + 1))) := q1
    replace p0 : W.cell? ⟨p, 0, none⟩ = some (.int .i64 x0) := p0
    replace p1 : W.cell? ⟨p, 1, none⟩ = some (.int .i64 x1) := p1
    obtain ⟨w1, hrun, hm1, hg1⟩ := c2.store (by unfold maxLen; omega) h6x.1 h6x.2
    have hg2 : W.grownBy w1 (some (B0 + 1)) := ⟨hg1.os, hg1.tape, hg1.output, hg1.size, hg1.block⟩
    have hend : Hid (KeepsFrom W3.heap.size W w1 ∧ KpM (B0 + 4) (B0 + 1) W w1 ∧ ((w1.heap[B0]? = some (.cells #[.int .i64 z] 3 (0, 0)) ∧ w1.heap[B0 + 1 + 1]? = some (.cells #[.map (some (B0 + 1))] 98 (0, 0)) ∧ IMap w1 (B0 + 1) (pre ++ [(⟨x, hx⟩ : Ix n)]).length (putP l (pre ++ [⟨x, hx⟩]))) ∧ (Below B0 w2 w1 ∧ B0 + 4 ≤ w1.heap.size))) := by
      refine ⟨KeepsFrom.of_grownBy hg2 (fun j e => by cases e; omega), fun k hk hne => hg2.block k (by omega) (by intro e; cases e; exact hne rfl), ⟨(hg2.block B0 (World.lt_of_get c0) (by simp)).trans c0, (hg2.block (B0 + 1 + 1) (World.lt_of_get c1) (by simp)).trans c1, ?_⟩, hBW.grown hg2 (by omega) (fun k e => by cases e; omega), Nat.le_trans hWs hg2.size⟩
      rw [hsn, List.length_append]
      exact hm1
    replace hsn := Lib.hid hsn
    replace hpq := Lib.hid hpq
    clear hm1 hg1 hg2 c0 c1 c2 hpc
    gi_wp2
    exact hend.out
  case stop =>
    rintro D c pre W _ _ h _
    exact h.elim
  case done =>
    rintro D ys W hD hy ⟨⟨c0, c1, c2⟩, hBW, hWs⟩ hK
    have hlt0 := World.lt_of_get c0
    have hlt1 := World.lt_of_get c1
    have hBn : Below w.heap.size w W := hbw2.out.trans (hBW.mono (by rw [← hsB]; exact hbw2.out.size))
    have hDlt : B0 + 4 ≤ D := by omega
    replace hK := Lib.hid hK
    replace c0 := Lib.hid c0
    replace c1 := Lib.hid c1
    replace c2 := Lib.hid c2
    clear k0 k2 k3 hmap0 q3
    gi_wp2
    refine ⟨by simp, .inl ⟨_, _, rfl, run_takeDeferred hK.out, ?_⟩⟩
    have hsz := hbw2.out.size
    have hoth : ∀ k o, k < B0 + 4 → (W.putObj D o).heap[k]? = W.heap[k]? := fun k o hk => World.putObj_heap_other (by omega)
    refine ⟨_, results_tmp rfl _ _ _, ⟨B0 + 1 + 1, B0, B0 + 1, ys.length, putP l ys, rfl, ?_, ?_, ?_, fun a => putP_all l hn.out ys hy a⟩, hBn.trans (belowK_b (w := w) (Nat.le_refl _) W D _ _ (by omega) hK.out rfl rfl)⟩
    · exact cell_of_row _ _ 0 _ _ _ ((hoth _ _ (by omega)).trans c1.out)
    · exact c2.out.same (hoth _ _ (by omega))
    · exact cell_of_row _ _ 0 _ _ _ ((hoth _ _ (by omega)).trans c0.out)
end Go.Proofs.YtlhfdedjboanfaaDoor
