/-
  Rename. Condition: the pairs, the atoms can be read, at most 2^43 pairs.
-/
import Derived.Test.YtkagmkejndjepaaGreatDoorAtBack
import Derived.Test.YtkagmkejndjepaaGreatDoorLtRound
namespace Go.Proofs.YtkagmkejndjepaaGreatDoor
open Go.RowKit Go.Shelf Go.At Go.Maps
attribute [local go_sem] Oper.semAt_some

set_option maxRecDepth 100000 in
theorem renC_any (B mb N : Nat) (f : Int → Option Int) (a : Int) (ha : I64 a) (W : World) (h1 : W.cell? ⟨B, 0, none⟩ = some (.map (some mb))) (h2 : IMap W mb N f) :
    Calls Tryz.prog 50 #[.int .i64 a, .pointer (some ⟨B, 0, none⟩)] W fun e w' => e = .returned (.int .i64 ((f a).getD a)) ∧ W = w' := by
  have hl := h2.look_ok ha
  clear h2
  cases hf : f a with
  | none =>
    rw [hf] at hl
    simp only [Option.isSome_none, Option.getD_none] at hl ⊢
    replace hf := Lib.hid hf
    go_enter Tryz.func50, Tryz.ntmps50
    go_wp2
    go_ret
    exact ⟨rfl, rfl⟩
  | some b =>
    rw [hf] at hl
    simp only [Option.isSome_some, Option.getD_some] at hl ⊢
    replace hf := Lib.hid hf
    go_enter Tryz.func50, Tryz.ntmps50
    go_wp2
    go_ret
    exact ⟨rfl, rfl⟩
theorem IMap.made {W : World} {b : Nat} (h : W.heap[b]? = some (.map #[] 0)) : IMap W b 0 (fun _ => none) :=
  ⟨0, _, ⟨#[], 0, h, ⟨by simp, MapKept.stamped_empty 0, by simp⟩, Nat.le_refl _, rfl⟩, Nat.le_refl _, Tells.none⟩
theorem fnRen (args : Array Value) (W : World) : (callFunc 50 args).run Tryz.prog W = .ok (.enter 50 args) W := by
  rw [Tryz.call50]
/-- what is put in so far -/
def putF (ft tt : List Int) {n : Nat} (pre : List (Ix n)) : Int → Option Int := pre.foldl (fun f i => upd f (ft.getD i.1 0) (tt.getD i.1 0)) (fun _ => none)
theorem putF_snoc (ft tt : List Int) {n : Nat} (pre : List (Ix n)) (x : Ix n) : putF ft tt (pre ++ [x]) = upd (putF ft tt pre) (ft.getD x.1 0) (tt.getD x.1 0) := by simp [putF]
theorem putF_all (ft tt : List Int) {n : Nat} (hn : (ft.zip tt).length = n) (ys : List (Ix n)) (hy : ys.map (·.1) = downTo n) (a : Int) : (putF ft tt ys a).getD a = renL ft tt a := by
  have e1 : putF ft tt ys = (ys.map (fun i => (ft.zip tt).getD i.1 (0, 0))).foldl (fun f p x => if x = p.1 then some p.2 else f x) (fun _ => none) := by
    unfold putF
    rw [List.foldl_map]
    congr 1
    funext f i
    have hi := i.2
    rw [List.length_zip] at hn
    have g1 : ft.getD i.1 0 = ((ft.zip tt).getD i.1 (0, 0)).1 := by
      rw [List.getD_eq_getElem?_getD, List.getD_eq_getElem?_getD, List.getElem?_eq_getElem (by omega), List.getElem?_eq_getElem (by rw [List.length_zip]; omega)]
      simp
    have g2 : tt.getD i.1 0 = ((ft.zip tt).getD i.1 (0, 0)).2 := by
      rw [List.getD_eq_getElem?_getD, List.getD_eq_getElem?_getD, List.getElem?_eq_getElem (by omega), List.getElem?_eq_getElem (by rw [List.length_zip]; omega)]
      simp
    rw [g1, g2]
    rfl
  have e2 : ys.map (fun i => (ft.zip tt).getD i.1 (0, 0)) = (ft.zip tt).reverse := by
    have := congrArg (List.map fun i => (ft.zip tt).getD i (0, 0)) hy
    rw [List.map_map] at this
    refine Eq.trans (b := (downTo n).map fun i => (ft.zip tt).getD i (0, 0)) this ?_
    rw [← hn, downTo_get]
  rw [e1, e2, putAll_fold, putAll_get]
  rfl

set_option maxRecDepth 100000 in
set_option maxHeartbeats 4000000 in
theorem renameA_any (Al Af At : Option Addr) (l : List Pr) (ft tt : List Int) (cl cf ct : Nat) (w : World) (hP : Prs w Al l) (h6 : ∀ p ∈ l, I64 p.1 ∧ I64 p.2) (hl : l.length ≤ 8796093022208)
    (hF : Nms w Af ft) (hT : Nms w At tt) (hok : OkS Af ft.length cf) (hf6 : ∀ x ∈ ft, I64 x) (ht6 : ∀ x ∈ tt, I64 x) (htm : tt.length ≤ maxLen) (hc : tt.length < ft.length) :
    Calls Tryz.prog 21 #[.slice Al l.length cl, .slice Af ft.length cf, .slice At tt.length ct] w fun e w' => (∃ A c, e = .returned (.slice A (mapL (renL ft tt) l).length c) ∧ Prs w' A (mapL (renL ft tt) l)) ∧ Below w.heap.size w w' := by
  obtain ⟨o1, o2, o3⟩ := hok
  have hmx : maxLen = 9223372036854775807 := rfl
  rw [hmx] at o2 htm
  obtain ⟨n, hn⟩ : ∃ n, (ft.zip tt).length = n := ⟨_, rfl⟩
  have hn2 := hn
  rw [List.length_zip] at hn2
  have hbk := backward_any Af n cf
  obtain ⟨F, hFl⟩ : ∃ F, ft.length = F := ⟨_, rfl⟩
  obtain ⟨T, hTl⟩ : ∃ T, tt.length = T := ⟨_, rfl⟩
  rw [hFl] at o1 hn2 hc ⊢
  rw [hTl] at htm hn2 hc ⊢
  obtain rfl : n = T := by omega
  have hsub : ft.length ≤ 9223372036854775807 ∧ n ≤ ft.length ∧ n ≤ tt.length ∧ n < maxLen + 1 := by omega
  have hdd : decide ((n : Int) < (F : Int)) = true := decide_eq_true (by omega)
  have hci : (n : Int) < (F : Int) ∧ ¬ (F : Int) < (n : Int) := by omega
  have hnc : n ≤ cf := by omega
  have hnci : (n : Int) ≤ (cf : Int) := by omega
  clear hmx
  replace hn := Lib.hid hn
  replace hsub := Lib.hid hsub
  replace hn2 := Lib.hid hn2
  replace hFl := Lib.hid hFl
  replace hTl := Lib.hid hTl
  replace hP := Lib.hid hP
  replace h6 := Lib.hid h6
  replace hF := Lib.hid hF
  replace hT := Lib.hid hT
  replace hf6 := Lib.hid hf6
  replace ht6 := Lib.hid ht6
  replace o3 := Lib.hid o3
  replace hl := Lib.hid hl
  have hmm := @run_makeMap Tryz.prog
  refine (callsIn_wide (n := 8)).1 ?_
  refine callsIn_of_wp_marks Tryz.func21 rfl trivial ?_ rfl
  simp only [Tryz.ntmps21, List.size_toArray, List.length_cons, List.length_nil, Nat.reduceAdd, Nat.reduceSub, Array.replicate_succ, Array.replicate_zero, List.push_toArray, List.append_toArray, List.nil_append, List.cons_append]
  gi_wp2_with (refine ⟨trivial, ?_⟩; gi_at_call 49; refine (callsIn_wide.2 (hbk _)).mono ?_; rintro e w9 ⟨rfl, rfl⟩)
  obtain ⟨B, hB⟩ : ∃ B, w.heap.size = B := ⟨_, rfl⟩
  rw [hB]
  obtain ⟨W3, hW3⟩ : ∃ W3, ((((w.alloc (.cells #[.slice At n ct] 23)).alloc (.map #[] 0)).alloc (.cells #[.map (some (B + 1))] 75)).alloc (.cells #[.slice Af n cf] 23)) = W3 := ⟨_, rfl⟩
  have hs3 : W3.heap.size = B + 4 := by rw [← hW3, ← hB]; simp
  have hB3 : Below B w W3 := by
    rw [← hW3, ← hB]
    exact ((((Below.refl _ w).alloc (Nat.le_refl _) _).alloc (by simp) _).alloc (by simp; omega) _).alloc (by simp; omega) _
  have k0 : W3.heap[B]? = some (.cells #[.slice At n ct] 23 (0, 0)) := by
    rw [← hW3, Below.heap_alloc _ _ _ (by simp; omega), Below.heap_alloc _ _ _ (by simp; omega), Below.heap_alloc _ _ _ (by simp; omega), ← hB]
    exact World.alloc_heap_new w _
  have k1 : W3.heap[B + 1]? = some (.map #[] 0) := by
    rw [← hW3, Below.heap_alloc _ _ _ (by simp; omega), Below.heap_alloc _ _ _ (by simp; omega)]
    have := World.alloc_heap_new (w.alloc (.cells #[.slice At n ct] 23)) (.map #[] 0)
    rwa [World.size_alloc, hB] at this
  have k2 : W3.heap[B + 1 + 1]? = some (.cells #[.map (some (B + 1))] 75 (0, 0)) := by
    rw [← hW3, Below.heap_alloc _ _ _ (by simp; omega)]
    have := World.alloc_heap_new ((w.alloc (.cells #[.slice At n ct] 23)).alloc (.map #[] 0)) (.cells #[.map (some (B + 1))] 75)
    rwa [World.size_alloc, World.size_alloc, hB] at this
  have k3 : W3.heap[B + 1 + 1 + 1]? = some (.cells #[.slice Af n cf] 23 (0, 0)) := by
    rw [← hW3]
    have := World.alloc_heap_new (((w.alloc (.cells #[.slice At n ct] 23)).alloc (.map #[] 0)).alloc (.cells #[.map (some (B + 1))] 75)) (.cells #[.slice Af n cf] 23)
    rwa [World.size_alloc, World.size_alloc, World.size_alloc, hB] at this
  rw [hW3]
  clear hW3
  have hmap0 := IMap.made k1
  have hsB : w.heap.size = B := hB
  clear hB k1
  have q3 : W3.cell? ⟨B + 1 + 1 + 1, 0, none⟩ = some (.slice Af n cf) := cell_of_row _ _ 0 _ _ _ k3
  refine wpIn_rangeFunc_ownG rfl (by omega) (gf := 63) (lb := #[.pointer (some ⟨B + 1 + 1 + 1, 0, none⟩)]) rfl trivial (enters_of Tryz.func63 (by kernel_rfl) rfl)
    (back_stops 7 (B + 1 + 1 + 1) (B + 4) (B + 1) (by omega) Af n cf ft hsub.out.2.1 (by have := hsub.out; omega) (by omega) (by omega) W3 hs3.symm q3 (fun h0 => by
      obtain ⟨b, off, e1, e2, e3⟩ := hF.out (by intro e; have := hsub.out.2.1; rw [e] at this; simp at this; omega)
      exact ⟨b, off, e1, by omega, by omega, e3.block (hB3.block b (by omega))⟩)) KpM.t (KpM.b (by omega)) (Below.refl _ _) (fun _ => rfl)
    (fun pre W => (W.heap[B]? = some (.cells #[.slice At n ct] 23 (0, 0)) ∧ W.heap[B + 1 + 1]? = some (.cells #[.map (some (B + 1))] 75 (0, 0)) ∧ IMap W (B + 1) pre.length (putF ft tt pre)) ∧ (Below B w W ∧ B + 4 ≤ W.heap.size))
    (fun _ _ _ => False)
    (OwnFrom.and (fun s X Y row hs hg hr => ⟨(hg.block B (World.lt_of_get hs.1) (fun e => by have := (hr _ e.symm).1; omega)).trans hs.1, (hg.block (B + 1 + 1) (World.lt_of_get hs.2.1) (fun e => by have := (hr _ e.symm).1; omega)).trans hs.2.1, hs.2.2.same (hg.block (B + 1) hs.2.2.lt (fun e => by have := (hr _ e.symm).1; omega))⟩) (OwnFrom.and (ownFrom_below (by omega) (by omega)) (fun s X Y row hs hg hr => Nat.le_trans hs hg.size)))
    (fun _ _ _ _ _ hs _ _ => hs)
    ⟨⟨k0, k2, hmap0⟩, hB3, by omega⟩
    (fun x => { tmps := #[.slice Al l.length cl, .slice Af F cf, .slice At n ct, undef, undef, .pointer (some ⟨B, 0, none⟩), .slice none 0 0, .pointer (some ⟨B + 1 + 1, 0, none⟩), .int .i64 ((x.1 : Nat) : Int), .int .i64 (ft.getD x.1 0), .map (some (B + 1)), .slice Af F cf, .slice Af F cf, .int .i64 F, .slice At n ct, .int .i64 n, .int .i64 n, .slice Af n cf, .func (.func 63) #[] #[.pointer (some ⟨B + 1 + 1 + 1, 0, none⟩)], .int .i64 ((x.1 : Nat) : Int), .int .i64 (ft.getD x.1 0), undef, undef, undef, undef, undef, undef, undef, undef, undef], defers := [] }) ?assign ?body ?done ?stop
  case assign =>
    intro l x W K hK
    gi_wp2
    exact hK
  case body =>
    clear k0 k2 k3 hmap0 q3
    rintro l pre ⟨x, hx⟩ W ⟨⟨c0, c1, c2⟩, hBW, hWs⟩ hlt
    obtain ⟨tb, toff, rfl, htb, hrow⟩ := hT.out (by intro e; have := hsub.out.2.2.1; rw [e] at this; simp at this; omega)
    have htr : W.cell? ⟨tb, toff + x, none⟩ = some (.int .i64 (tt.getD x 0)) := (hBW.cell (p := ⟨tb, toff + x, none⟩) (by show tb < B; omega)).trans (hrow x (by have := hsub.out; omega))
    have hxf : I64 (ft.getD x 0) := hf6.out _ (by rw [List.getD_eq_getElem?_getD, List.getElem?_eq_getElem (by have := hsub.out; omega)]; exact List.getElem_mem _)
    have hxt : I64 (tt.getD x 0) := ht6.out _ (by rw [List.getD_eq_getElem?_getD, List.getElem?_eq_getElem (by have := hsub.out; omega)]; exact List.getElem_mem _)
    have hsn := putF_snoc ft tt pre (⟨x, hx⟩ : Ix n)
    dsimp only at hsn ⊢
    have q0 := cell_of_row _ _ 0 _ _ _ c0
    have q1 := cell_of_row _ _ 0 _ _ _ c1
    obtain ⟨a, ha⟩ : ∃ a, ft.getD x 0 = a := ⟨_, rfl⟩
    obtain ⟨b, hb⟩ : ∃ b, tt.getD x 0 = b := ⟨_, rfl⟩
    rw [ha] at hxf hsn ⊢
    rw [hb] at hxt hsn htr
    replace ha := Lib.hid ha
    replace hb := Lib.hid hb
    replace hsn := Lib.hid hsn
    have hxT : (x : Int) < (n : Int) := by have := hsub.out; have := hTl.out; omega
    have c2d : IMap W.drew (B + 1) pre.length (putF ft tt pre) := c2
    obtain ⟨w1, hrun, hm1, hg1⟩ := c2d.store (by have := hsub.out; omega) hxf hxt
    have hg2 : W.grownBy w1 (some (B + 1)) := ⟨hg1.os, hg1.tape, hg1.output, hg1.size, hg1.block⟩
    have hend : Hid (KeepsFrom W3.heap.size W w1 ∧ KpM (B + 4) (B + 1) W w1 ∧ ((w1.heap[B]? = some (.cells #[.slice (some ⟨tb, toff, none⟩) n ct] 23 (0, 0)) ∧ w1.heap[B + 1 + 1]? = some (.cells #[.map (some (B + 1))] 75 (0, 0)) ∧ IMap w1 (B + 1) (pre ++ [(⟨x, hx⟩ : Ix n)]).length (putF ft tt (pre ++ [⟨x, hx⟩]))) ∧ (Below B w w1 ∧ B + 4 ≤ w1.heap.size))) := by
      refine ⟨KeepsFrom.of_grownBy hg2 (fun j e => by cases e; omega), fun k hk hne => ?_, ⟨(hg2.block B (World.lt_of_get c0) (by simp)).trans c0, (hg2.block (B + 1 + 1) (World.lt_of_get c1) (by simp)).trans c1, ?_⟩, hBW.grown hg2 (by have := World.lt_of_get c0; omega) (fun k e => by cases e; omega), Nat.le_trans hWs hg2.size⟩
      · by_cases hkW : k < W.heap.size
        · exact hg2.block k hkW (by intro e; cases e; exact hne rfl)
        · exfalso
          omega
      · rw [hsn.out, List.length_append]
        exact hm1
    replace hrun := Lib.hid hrun
    clear hm1 hg1 hg2 c0 c1 c2 c2d
    gi_wp2
    refine wpIn_round_still_tail 6 (by kernel_rfl) (by kernel_rfl) (by kernel_rfl) (fun ⟨_, _, h⟩ => h) ?_
    simp only [List.take_succ_cons, List.take_zero, List.drop_succ_cons, List.drop_zero]
    repeat still_step
    refine wpStill_nil ?_
    change wpList _ _ _ _ _ W.drew
    refine wpList_put rfl _ _ _ _ rfl (.map (some (B + 1))) (.int .i64 a) (.int .i64 b) rfl rfl rfl hrun.out ?_
    refine wpList_nil ?_
    gi_wp2
    exact hend.out
  case stop =>
    rintro D c pre W _ _ h _
    exact h.elim
  case done =>
    rintro D ys W hD hy ⟨⟨c0, c1, c2⟩, hBW, hWs⟩ hK
    have q1 := cell_of_row _ _ 0 _ _ _ c1
    have hlt2 := World.lt_of_get c1
    have hBn : Below w.heap.size w W := by rw [hsB]; exact hBW
    have kt := Lib.hid (turned_any 50 #[.pointer (some ⟨B + 1 + 1, 0, none⟩)] (fun a => (putF ft tt ys a).getD a) Al l cl W (hP.out.later hBn) h6.out hl.out fnRen (fun a X hX ha => renC_any (B + 1 + 1) (B + 1) ys.length (putF ft tt ys) a ha X ((hX.cell (p := ⟨B + 1 + 1, 0, none⟩) hlt2).trans q1) (c2.same (hX.block _ c2.lt))))
    have e9 : mapL (fun a => (putF ft tt ys a).getD a) l = mapL (renL ft tt) l := by
      congr 1
      funext a
      exact putF_all ft tt hn.out ys hy a
    rw [e9] at kt
    replace hK := Lib.hid hK
    clear c0 c1 c2 q1 e9 k0 k2 k3 hmap0 q3
    gi_wp2_with (refine ⟨trivial, ?_⟩; gi_at_call 46; refine (callsIn_wide.2 kt.out).mono ?_; rintro e w4 ⟨⟨A4, c4, rfl, hp4⟩, hb4⟩; replace hp4 := Lib.hid hp4; replace hb4 := Lib.hid hb4)
    have hDlt : B ≤ D := by omega
    have hK4 : w4.heap[D]? = some (.deferred (some [])) := (hb4.out.block D (World.lt_of_get hK.out)).trans hK.out
    have hB4 : Below w.heap.size w w4 := hBn.trans (hb4.out.mono (by rw [hsB]; omega))
    refine ⟨by simp, .inl ⟨_, _, rfl, run_takeDeferred hK4, ?_⟩⟩
    refine ⟨_, results_tmp rfl _ _ _, ⟨A4, c4, rfl, ?_⟩, hB4.trans (belowK_b (w := w) (Nat.le_refl _) w4 D _ _ (by omega) hK4 rfl rfl)⟩
    intro hne
    obtain ⟨b, off, e1, e2, e3⟩ := hp4.out hne
    by_cases hbd : b = D
    · exfalso
      subst hbd
      have h0 := (e3 0 (by rw [List.length_pos_iff]; exact hne)).1
      simp [World.cell?, hK4] at h0
    · exact ⟨b, off, e1, by simpa using e2, e3.block (World.putObj_heap_other hbd)⟩
set_option maxRecDepth 100000 in
set_option maxHeartbeats 4000000 in
theorem renameB_any (Al Af At : Option Addr) (l : List Pr) (ft tt : List Int) (cl cf ct : Nat) (w : World) (hP : Prs w Al l) (h6 : ∀ p ∈ l, I64 p.1 ∧ I64 p.2) (hl : l.length ≤ 8796093022208)
    (hF : Nms w Af ft) (hT : Nms w At tt) (hok : OkS Af ft.length cf) (hf6 : ∀ x ∈ ft, I64 x) (ht6 : ∀ x ∈ tt, I64 x) (_htm : tt.length ≤ maxLen) (hc : ft.length ≤ tt.length) :
    Calls Tryz.prog 21 #[.slice Al l.length cl, .slice Af ft.length cf, .slice At tt.length ct] w fun e w' => (∃ A c, e = .returned (.slice A (mapL (renL ft tt) l).length c) ∧ Prs w' A (mapL (renL ft tt) l)) ∧ Below w.heap.size w w' := by
  obtain ⟨o1, o2, o3⟩ := hok
  have hmx : maxLen = 9223372036854775807 := rfl
  rw [hmx] at o2
  obtain ⟨n, hn⟩ : ∃ n, (ft.zip tt).length = n := ⟨_, rfl⟩
  have hn2 := hn
  rw [List.length_zip] at hn2
  have hbk := backward_any Af n cf
  obtain ⟨F, hFl⟩ : ∃ F, ft.length = F := ⟨_, rfl⟩
  obtain ⟨T, hTl⟩ : ∃ T, tt.length = T := ⟨_, rfl⟩
  rw [hFl] at o1 hn2 hc ⊢
  rw [hTl] at hn2 hc ⊢
  obtain rfl : n = F := by omega
  have hsub : ft.length ≤ 9223372036854775807 ∧ n ≤ ft.length ∧ n ≤ tt.length ∧ n < maxLen + 1 := by omega
  have hdd : decide ((T : Int) < (n : Int)) = false := decide_eq_false (by omega)
  have hci : ¬ (T : Int) < (n : Int) ∧ (n : Int) ≤ (T : Int) := by omega
  have hnc : n ≤ cf := by omega
  have hnci : (n : Int) ≤ (cf : Int) := by omega
  clear hmx
  replace hn := Lib.hid hn
  replace hsub := Lib.hid hsub
  replace hn2 := Lib.hid hn2
  replace hFl := Lib.hid hFl
  replace hTl := Lib.hid hTl
  replace hP := Lib.hid hP
  replace h6 := Lib.hid h6
  replace hF := Lib.hid hF
  replace hT := Lib.hid hT
  replace hf6 := Lib.hid hf6
  replace ht6 := Lib.hid ht6
  replace o3 := Lib.hid o3
  replace hl := Lib.hid hl
  have hmm := @run_makeMap Tryz.prog
  refine (callsIn_wide (n := 8)).1 ?_
  refine callsIn_of_wp_marks Tryz.func21 rfl trivial ?_ rfl
  simp only [Tryz.ntmps21, List.size_toArray, List.length_cons, List.length_nil, Nat.reduceAdd, Nat.reduceSub, Array.replicate_succ, Array.replicate_zero, List.push_toArray, List.append_toArray, List.nil_append, List.cons_append]
  gi_wp2_with (refine ⟨trivial, ?_⟩; gi_at_call 49; refine (callsIn_wide.2 (hbk _)).mono ?_; rintro e w9 ⟨rfl, rfl⟩)
  obtain ⟨B, hB⟩ : ∃ B, w.heap.size = B := ⟨_, rfl⟩
  rw [hB]
  obtain ⟨W3, hW3⟩ : ∃ W3, ((((w.alloc (.cells #[.slice At T ct] 23)).alloc (.map #[] 0)).alloc (.cells #[.map (some (B + 1))] 75)).alloc (.cells #[.slice Af n cf] 23)) = W3 := ⟨_, rfl⟩
  have hs3 : W3.heap.size = B + 4 := by rw [← hW3, ← hB]; simp
  have hB3 : Below B w W3 := by
    rw [← hW3, ← hB]
    exact ((((Below.refl _ w).alloc (Nat.le_refl _) _).alloc (by simp) _).alloc (by simp; omega) _).alloc (by simp; omega) _
  have k0 : W3.heap[B]? = some (.cells #[.slice At T ct] 23 (0, 0)) := by
    rw [← hW3, Below.heap_alloc _ _ _ (by simp; omega), Below.heap_alloc _ _ _ (by simp; omega), Below.heap_alloc _ _ _ (by simp; omega), ← hB]
    exact World.alloc_heap_new w _
  have k1 : W3.heap[B + 1]? = some (.map #[] 0) := by
    rw [← hW3, Below.heap_alloc _ _ _ (by simp; omega), Below.heap_alloc _ _ _ (by simp; omega)]
    have := World.alloc_heap_new (w.alloc (.cells #[.slice At T ct] 23)) (.map #[] 0)
    rwa [World.size_alloc, hB] at this
  have k2 : W3.heap[B + 1 + 1]? = some (.cells #[.map (some (B + 1))] 75 (0, 0)) := by
    rw [← hW3, Below.heap_alloc _ _ _ (by simp; omega)]
    have := World.alloc_heap_new ((w.alloc (.cells #[.slice At T ct] 23)).alloc (.map #[] 0)) (.cells #[.map (some (B + 1))] 75)
    rwa [World.size_alloc, World.size_alloc, hB] at this
  have k3 : W3.heap[B + 1 + 1 + 1]? = some (.cells #[.slice Af n cf] 23 (0, 0)) := by
    rw [← hW3]
    have := World.alloc_heap_new (((w.alloc (.cells #[.slice At T ct] 23)).alloc (.map #[] 0)).alloc (.cells #[.map (some (B + 1))] 75)) (.cells #[.slice Af n cf] 23)
    rwa [World.size_alloc, World.size_alloc, World.size_alloc, hB] at this
  rw [hW3]
  clear hW3
  have hmap0 := IMap.made k1
  have hsB : w.heap.size = B := hB
  clear hB k1
  have q3 : W3.cell? ⟨B + 1 + 1 + 1, 0, none⟩ = some (.slice Af n cf) := cell_of_row _ _ 0 _ _ _ k3
  refine wpIn_rangeFunc_ownG rfl (by omega) (gf := 63) (lb := #[.pointer (some ⟨B + 1 + 1 + 1, 0, none⟩)]) rfl trivial (enters_of Tryz.func63 (by kernel_rfl) rfl)
    (back_stops 7 (B + 1 + 1 + 1) (B + 4) (B + 1) (by omega) Af n cf ft hsub.out.2.1 (by have := hsub.out; omega) (by omega) (by omega) W3 hs3.symm q3 (fun h0 => by
      obtain ⟨b, off, e1, e2, e3⟩ := hF.out (by intro e; have := hsub.out.2.1; rw [e] at this; simp at this; omega)
      exact ⟨b, off, e1, by omega, by omega, e3.block (hB3.block b (by omega))⟩)) KpM.t (KpM.b (by omega)) (Below.refl _ _) (fun _ => rfl)
    (fun pre W => (W.heap[B]? = some (.cells #[.slice At T ct] 23 (0, 0)) ∧ W.heap[B + 1 + 1]? = some (.cells #[.map (some (B + 1))] 75 (0, 0)) ∧ IMap W (B + 1) pre.length (putF ft tt pre)) ∧ (Below B w W ∧ B + 4 ≤ W.heap.size))
    (fun _ _ _ => False)
    (OwnFrom.and (fun s X Y row hs hg hr => ⟨(hg.block B (World.lt_of_get hs.1) (fun e => by have := (hr _ e.symm).1; omega)).trans hs.1, (hg.block (B + 1 + 1) (World.lt_of_get hs.2.1) (fun e => by have := (hr _ e.symm).1; omega)).trans hs.2.1, hs.2.2.same (hg.block (B + 1) hs.2.2.lt (fun e => by have := (hr _ e.symm).1; omega))⟩) (OwnFrom.and (ownFrom_below (by omega) (by omega)) (fun s X Y row hs hg hr => Nat.le_trans hs hg.size)))
    (fun _ _ _ _ _ hs _ _ => hs)
    ⟨⟨k0, k2, hmap0⟩, hB3, by omega⟩
    (fun x => { tmps := #[.slice Al l.length cl, .slice Af n cf, .slice At T ct, undef, undef, .pointer (some ⟨B, 0, none⟩), .slice none 0 0, .pointer (some ⟨B + 1 + 1, 0, none⟩), .int .i64 ((x.1 : Nat) : Int), .int .i64 (ft.getD x.1 0), .map (some (B + 1)), .slice Af n cf, .slice Af n cf, .int .i64 n, .slice At T ct, .int .i64 T, .int .i64 n, .slice Af n cf, .func (.func 63) #[] #[.pointer (some ⟨B + 1 + 1 + 1, 0, none⟩)], .int .i64 ((x.1 : Nat) : Int), .int .i64 (ft.getD x.1 0), undef, undef, undef, undef, undef, undef, undef, undef, undef], defers := [] }) ?assign ?body ?done ?stop
  case assign =>
    intro l x W K hK
    gi_wp2
    exact hK
  case body =>
    clear k0 k2 k3 hmap0 q3
    rintro l pre ⟨x, hx⟩ W ⟨⟨c0, c1, c2⟩, hBW, hWs⟩ hlt
    obtain ⟨tb, toff, rfl, htb, hrow⟩ := hT.out (by intro e; have := hsub.out.2.2.1; rw [e] at this; simp at this; omega)
    have htr : W.cell? ⟨tb, toff + x, none⟩ = some (.int .i64 (tt.getD x 0)) := (hBW.cell (p := ⟨tb, toff + x, none⟩) (by show tb < B; omega)).trans (hrow x (by have := hsub.out; omega))
    have hxf : I64 (ft.getD x 0) := hf6.out _ (by rw [List.getD_eq_getElem?_getD, List.getElem?_eq_getElem (by have := hsub.out; omega)]; exact List.getElem_mem _)
    have hxt : I64 (tt.getD x 0) := ht6.out _ (by rw [List.getD_eq_getElem?_getD, List.getElem?_eq_getElem (by have := hsub.out; omega)]; exact List.getElem_mem _)
    have hsn := putF_snoc ft tt pre (⟨x, hx⟩ : Ix n)
    dsimp only at hsn ⊢
    have q0 := cell_of_row _ _ 0 _ _ _ c0
    have q1 := cell_of_row _ _ 0 _ _ _ c1
    obtain ⟨a, ha⟩ : ∃ a, ft.getD x 0 = a := ⟨_, rfl⟩
    obtain ⟨b, hb⟩ : ∃ b, tt.getD x 0 = b := ⟨_, rfl⟩
    rw [ha] at hxf hsn ⊢
    rw [hb] at hxt hsn htr
    replace ha := Lib.hid ha
    replace hb := Lib.hid hb
    replace hsn := Lib.hid hsn
    have hxT : (x : Int) < (T : Int) := by have := hsub.out; have := hTl.out; omega
    have c2d : IMap W.drew (B + 1) pre.length (putF ft tt pre) := c2
    obtain ⟨w1, hrun, hm1, hg1⟩ := c2d.store (by have := hsub.out; omega) hxf hxt
    have hg2 : W.grownBy w1 (some (B + 1)) := ⟨hg1.os, hg1.tape, hg1.output, hg1.size, hg1.block⟩
    have hend : Hid (KeepsFrom W3.heap.size W w1 ∧ KpM (B + 4) (B + 1) W w1 ∧ ((w1.heap[B]? = some (.cells #[.slice (some ⟨tb, toff, none⟩) T ct] 23 (0, 0)) ∧ w1.heap[B + 1 + 1]? = some (.cells #[.map (some (B + 1))] 75 (0, 0)) ∧ IMap w1 (B + 1) (pre ++ [(⟨x, hx⟩ : Ix n)]).length (putF ft tt (pre ++ [⟨x, hx⟩]))) ∧ (Below B w w1 ∧ B + 4 ≤ w1.heap.size))) := by
      refine ⟨KeepsFrom.of_grownBy hg2 (fun j e => by cases e; omega), fun k hk hne => ?_, ⟨(hg2.block B (World.lt_of_get c0) (by simp)).trans c0, (hg2.block (B + 1 + 1) (World.lt_of_get c1) (by simp)).trans c1, ?_⟩, hBW.grown hg2 (by have := World.lt_of_get c0; omega) (fun k e => by cases e; omega), Nat.le_trans hWs hg2.size⟩
      · by_cases hkW : k < W.heap.size
        · exact hg2.block k hkW (by intro e; cases e; exact hne rfl)
        · exfalso
          omega
      · rw [hsn.out, List.length_append]
        exact hm1
    replace hrun := Lib.hid hrun
    clear hm1 hg1 hg2 c0 c1 c2 c2d
    gi_wp2
    refine wpIn_round_still_tail 6 (by kernel_rfl) (by kernel_rfl) (by kernel_rfl) (fun ⟨_, _, h⟩ => h) ?_
    simp only [List.take_succ_cons, List.take_zero, List.drop_succ_cons, List.drop_zero]
    repeat still_step
    refine wpStill_nil ?_
    change wpList _ _ _ _ _ W.drew
    refine wpList_put rfl _ _ _ _ rfl (.map (some (B + 1))) (.int .i64 a) (.int .i64 b) rfl rfl rfl hrun.out ?_
    refine wpList_nil ?_
    gi_wp2
    exact hend.out
  case stop =>
    rintro D c pre W _ _ h _
    exact h.elim
  case done =>
    rintro D ys W hD hy ⟨⟨c0, c1, c2⟩, hBW, hWs⟩ hK
    have q1 := cell_of_row _ _ 0 _ _ _ c1
    have hlt2 := World.lt_of_get c1
    have hBn : Below w.heap.size w W := by rw [hsB]; exact hBW
    have kt := Lib.hid (turned_any 50 #[.pointer (some ⟨B + 1 + 1, 0, none⟩)] (fun a => (putF ft tt ys a).getD a) Al l cl W (hP.out.later hBn) h6.out hl.out fnRen (fun a X hX ha => renC_any (B + 1 + 1) (B + 1) ys.length (putF ft tt ys) a ha X ((hX.cell (p := ⟨B + 1 + 1, 0, none⟩) hlt2).trans q1) (c2.same (hX.block _ c2.lt))))
    have e9 : mapL (fun a => (putF ft tt ys a).getD a) l = mapL (renL ft tt) l := by
      congr 1
      funext a
      exact putF_all ft tt hn.out ys hy a
    rw [e9] at kt
    replace hK := Lib.hid hK
    clear c0 c1 c2 q1 e9 k0 k2 k3 hmap0 q3
    gi_wp2_with (refine ⟨trivial, ?_⟩; gi_at_call 46; refine (callsIn_wide.2 kt.out).mono ?_; rintro e w4 ⟨⟨A4, c4, rfl, hp4⟩, hb4⟩; replace hp4 := Lib.hid hp4; replace hb4 := Lib.hid hb4)
    have hDlt : B ≤ D := by omega
    have hK4 : w4.heap[D]? = some (.deferred (some [])) := (hb4.out.block D (World.lt_of_get hK.out)).trans hK.out
    have hB4 : Below w.heap.size w w4 := hBn.trans (hb4.out.mono (by rw [hsB]; omega))
    refine ⟨by simp, .inl ⟨_, _, rfl, run_takeDeferred hK4, ?_⟩⟩
    refine ⟨_, results_tmp rfl _ _ _, ⟨A4, c4, rfl, ?_⟩, hB4.trans (belowK_b (w := w) (Nat.le_refl _) w4 D _ _ (by omega) hK4 rfl rfl)⟩
    intro hne
    obtain ⟨b, off, e1, e2, e3⟩ := hp4.out hne
    by_cases hbd : b = D
    · exfalso
      subst hbd
      have h0 := (e3 0 (by rw [List.length_pos_iff]; exact hne)).1
      simp [World.cell?, hK4] at h0
    · exact ⟨b, off, e1, by simpa using e2, e3.block (World.putObj_heap_other hbd)⟩
theorem rename_any (Al Af At : Option Addr) (l : List Pr) (ft tt : List Int) (cl cf ct : Nat) (w : World) (hP : Prs w Al l) (h6 : ∀ p ∈ l, I64 p.1 ∧ I64 p.2) (hl : l.length ≤ 8796093022208)
    (hF : Nms w Af ft) (hT : Nms w At tt) (hok : OkS Af ft.length cf) (hf6 : ∀ x ∈ ft, I64 x) (ht6 : ∀ x ∈ tt, I64 x) (htm : tt.length ≤ maxLen) :
    Calls Tryz.prog 21 #[.slice Al l.length cl, .slice Af ft.length cf, .slice At tt.length ct] w fun e w' => (∃ A c, e = .returned (.slice A (mapL (renL ft tt) l).length c) ∧ Prs w' A (mapL (renL ft tt) l)) ∧ Below w.heap.size w w' := by
  rcases Nat.lt_or_ge tt.length ft.length with h | h
  · exact renameA_any Al Af At l ft tt cl cf ct w hP h6 hl hF hT hok hf6 ht6 htm h
  · exact renameB_any Al Af At l ft tt cl cf ct w hP h6 hl hF hT hok hf6 ht6 htm h
end Go.Proofs.YtkagmkejndjepaaGreatDoor
