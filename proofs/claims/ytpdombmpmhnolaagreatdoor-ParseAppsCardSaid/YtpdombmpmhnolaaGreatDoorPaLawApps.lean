/-
  ParseApps's walk: true of whatever bytes. Conditions: the variables that are read lie as laid; what comes in can be read.
-/
import Derived.Test.YtpdombmpmhnolaaGreatDoorPaApp
import Derived.Test.YtpdombmpmhnolaaGreatDoorPaSmall
import Derived.Test.YtpdombmpmhnolaaGreatDoorPaFar
namespace Go.Proofs.YtpdombmpmhnolaaGreatDoor.Pa
open Go.RowKit Go.Shelf Go.Tm Go.Lx Go.Maps
attribute [local go_sem] Oper.semAt_some

/-- a block -/
def Blk (b : Nat) (o : Obj) (W : World) : Prop := W.heap[b]? = some o
theorem Blk.later {b : Nat} {o : Obj} {W W' : World} (h : Blk b o W) (hb : Below W.heap.size W W') : Blk b o W' := (hb.block _ (World.lt_of_get h)).trans h
theorem madeX_any (A : Option Addr) (zs : List Int) (c : Nat) (w : World) (hU : BtsS w A zs) (hz : ∀ z ∈ zs, 0 ≤ z ∧ z ≤ 255) (hl : zs.length ≤ 9223372036854775807) (hc : zs.length ≤ c) (hc2 : c ≤ 9223372036854775807) :
    Calls Tryz.prog 19 #[.slice A zs.length c] w fun e w' => ∃ A' c', e = .returned (.agg #[.int .i64 (F.madeT zs).kind, .string (F.madeT zs).name, .int .i64 (F.madeT zs).num, .slice A' (F.madeT zs).kids.length c']) ∧ Rt (F.madeT zs) ∧ (F.madeT zs).size ≤ 181 ∧ (F.madeT zs).depth ≤ 7 ∧ (showS (F.madeT zs)).size ≤ 3434 ∧ Below w.heap.size w w' ∧ TmV w' (· < w'.heap.size) (F.madeT zs) A' c' :=
  (F.made_any A zs c w hU hz hl hc hc2).mono fun e w' ⟨t, A', c', h1, h2, h3, h4, h5, h6, h7⟩ => by
    subst h2
    exact ⟨A', c', h1, h3, h4, h5, (made_short hz h3 h4 h5).1, h6, TmV.wide h7⟩
set_option maxRecDepth 100000 in
set_option maxHeartbeats 4000000 in
theorem parseApps_any (A0 : Option Addr) (zs0 : List Int) (c0 : Nat) (A1 : Option Addr) (zs1 : List Int) (c1 : Nat) (A2 : Option Addr) (zs2 : List Int) (c2 : Nat) (A3 : Option Addr) (zs3 : List Int) (c3 : Nat) (w : World) (hE : EnvP w) (hU0 : BtsS w A0 zs0) (hz0 : ∀ z ∈ zs0, 0 ≤ z ∧ z ≤ 255) (hl0 : zs0.length ≤ 9223372036854775807) (hc0 : zs0.length ≤ c0) (hd0 : c0 ≤ 9223372036854775807) (hU1 : BtsS w A1 zs1) (hz1 : ∀ z ∈ zs1, 0 ≤ z ∧ z ≤ 255) (hl1 : zs1.length ≤ 9223372036854775807) (hc1 : zs1.length ≤ c1) (hd1 : c1 ≤ 9223372036854775807) (hU2 : BtsS w A2 zs2) (hz2 : ∀ z ∈ zs2, 0 ≤ z ∧ z ≤ 255) (hl2 : zs2.length ≤ 9223372036854775807) (hc2 : zs2.length ≤ c2) (hd2 : c2 ≤ 9223372036854775807) (hU3 : BtsS w A3 zs3) (hz3 : ∀ z ∈ zs3, 0 ≤ z ∧ z ≤ 255) (hl3 : zs3.length ≤ 9223372036854775807) (hc3 : zs3.length ≤ c3) (hd3 : c3 ≤ 9223372036854775807) :
    Calls Tryz.prog 8 #[.slice A0 zs0.length c0, .slice A1 zs1.length c1, .slice A2 zs2.length c2, .slice A3 zs3.length c3] w fun e w' => e = .returned (.bool true) ∧ Below w.heap.size w w' := by
  have hX := Lib.hid (Bx.new hE)
  have km0 := Lib.hid (fun W h => madeX_any A0 zs0 c0 W h hz0 hl0 hc0 hd0)
  replace hU0 := Lib.hid hU0
  have km1 := Lib.hid (fun W h => madeX_any A1 zs1 c1 W h hz1 hl1 hc1 hd1)
  replace hU1 := Lib.hid hU1
  have km2 := Lib.hid (fun W h => madeX_any A2 zs2 c2 W h hz2 hl2 hc2 hd2)
  replace hU2 := Lib.hid hU2
  have km3 := Lib.hid (fun W h => madeX_any A3 zs3 c3 W h hz3 hl3 hc3 hd3)
  replace hU3 := Lib.hid hU3
  clear hE hz0 hl0 hc0 hd0 hz1 hl1 hc1 hd1 hz2 hl2 hc2 hd2 hz3 hl3 hc3 hd3
  obtain ⟨N0, hN0⟩ : ∃ N, zs0.length = N := ⟨_, rfl⟩
  rw [hN0] at km0 ⊢
  replace hN0 := Lib.hid hN0
  obtain ⟨N1, hN1⟩ : ∃ N, zs1.length = N := ⟨_, rfl⟩
  rw [hN1] at km1 ⊢
  replace hN1 := Lib.hid hN1
  obtain ⟨N2, hN2⟩ : ∃ N, zs2.length = N := ⟨_, rfl⟩
  rw [hN2] at km2 ⊢
  replace hN2 := Lib.hid hN2
  obtain ⟨N3, hN3⟩ : ∃ N, zs3.length = N := ⟨_, rfl⟩
  rw [hN3] at km3 ⊢
  replace hN3 := Lib.hid hN3
  go_enter Tryz.func8, Tryz.ntmps8
  go_wp2_with fail
  refine (examplesP_any _ hX.out.env).mono ?_
  rintro e w1 ⟨rfl, hb⟩
  replace hX := Lib.hid (hX.out.later hb)
  replace hU0 := Lib.hid (hU0.out.later hb)
  replace hU1 := Lib.hid (hU1.out.later hb)
  replace hU2 := Lib.hid (hU2.out.later hb)
  replace hU3 := Lib.hid (hU3.out.later hb)
  clear hb
  obtain ⟨t0, ht0⟩ : ∃ t, F.madeT zs0 = t := ⟨_, rfl⟩
  rw [ht0] at km0
  replace ht0 := Lib.hid ht0
  obtain ⟨t1, ht1⟩ : ∃ t, F.madeT zs1 = t := ⟨_, rfl⟩
  rw [ht1] at km1
  replace ht1 := Lib.hid ht1
  obtain ⟨t2, ht2⟩ : ∃ t, F.madeT zs2 = t := ⟨_, rfl⟩
  rw [ht2] at km2
  replace ht2 := Lib.hid ht2
  obtain ⟨t3, ht3⟩ : ∃ t, F.madeT zs3 = t := ⟨_, rfl⟩
  rw [ht3] at km3
  replace ht3 := Lib.hid ht3
  have kk := Lib.hid (km0.out w1 hU0.out)
  go_wp2_with fail
  refine kk.out.mono ?_
  rintro e w2 ⟨A0w2, d0w2, rfl, hr0, hs0, hp0, hq0, hb, hT⟩
  replace hX := Lib.hid (hX.out.later hb)
  replace hU0 := Lib.hid (hU0.out.later hb)
  replace hU1 := Lib.hid (hU1.out.later hb)
  replace hU2 := Lib.hid (hU2.out.later hb)
  replace hU3 := Lib.hid (hU3.out.later hb)
  clear kk hb
  have hR0 := small_right hr0 hs0 hp0
  have kp := Lib.hid (paren_any t0 A0w2 d0w2 w2 hX.out.env hR0 (by omega) hT)
  have hne0 := toks_ne hr0
  have hri0 := toks_right hr0
  have hsz0 : (cS (toksT t0)).size ≤ 4000 := by rw [cS_size, ← show_pS hR0]; omega
  clear hq0
  obtain ⟨s0, hS0⟩ : ∃ s, cS (toksT t0) = s := ⟨_, rfl⟩
  rw [hS0] at kp hsz0
  replace hr0 := Lib.hid hr0
  replace hs0 := Lib.hid hs0
  replace hp0 := Lib.hid hp0
  replace hR0 := Lib.hid hR0
  replace hne0 := Lib.hid hne0
  replace hri0 := Lib.hid hri0
  replace hsz0 := Lib.hid hsz0
  replace hS0 := Lib.hid hS0
  clear hT
  go_wp2_with fail
  refine kp.out.mono ?_
  rintro e w3 ⟨rfl, hb⟩
  replace hX := Lib.hid (hX.out.later hb)
  replace hU0 := Lib.hid (hU0.out.later hb)
  replace hU1 := Lib.hid (hU1.out.later hb)
  replace hU2 := Lib.hid (hU2.out.later hb)
  replace hU3 := Lib.hid (hU3.out.later hb)
  clear kp hb
  have kk := Lib.hid (km1.out w3 hU1.out)
  go_wp2_with fail
  refine kk.out.mono ?_
  rintro e w4 ⟨A1w4, d1w4, rfl, hr1, hs1, hp1, hq1, hb, hT⟩
  replace hX := Lib.hid (hX.out.later hb)
  replace hU0 := Lib.hid (hU0.out.later hb)
  replace hU1 := Lib.hid (hU1.out.later hb)
  replace hU2 := Lib.hid (hU2.out.later hb)
  replace hU3 := Lib.hid (hU3.out.later hb)
  clear kk hb
  have hR1 := small_right hr1 hs1 hp1
  have kp := Lib.hid (paren_any t1 A1w4 d1w4 w4 hX.out.env hR1 (by omega) hT)
  have hne1 := toks_ne hr1
  have hri1 := toks_right hr1
  have hsz1 : (cS (toksT t1)).size ≤ 4000 := by rw [cS_size, ← show_pS hR1]; omega
  clear hq1
  obtain ⟨s1, hS1⟩ : ∃ s, cS (toksT t1) = s := ⟨_, rfl⟩
  rw [hS1] at kp hsz1
  replace hr1 := Lib.hid hr1
  replace hs1 := Lib.hid hs1
  replace hp1 := Lib.hid hp1
  replace hR1 := Lib.hid hR1
  replace hne1 := Lib.hid hne1
  replace hri1 := Lib.hid hri1
  replace hsz1 := Lib.hid hsz1
  replace hS1 := Lib.hid hS1
  clear hT
  go_wp2_with fail
  refine kp.out.mono ?_
  rintro e w5 ⟨rfl, hb⟩
  replace hX := Lib.hid (hX.out.later hb)
  replace hU0 := Lib.hid (hU0.out.later hb)
  replace hU1 := Lib.hid (hU1.out.later hb)
  replace hU2 := Lib.hid (hU2.out.later hb)
  replace hU3 := Lib.hid (hU3.out.later hb)
  clear kp hb
  have kk := Lib.hid (km2.out w5 hU2.out)
  go_wp2_with fail
  refine kk.out.mono ?_
  rintro e w6 ⟨A2w6, d2w6, rfl, hr2, hs2, hp2, hq2, hb, hT⟩
  replace hX := Lib.hid (hX.out.later hb)
  replace hU0 := Lib.hid (hU0.out.later hb)
  replace hU1 := Lib.hid (hU1.out.later hb)
  replace hU2 := Lib.hid (hU2.out.later hb)
  replace hU3 := Lib.hid (hU3.out.later hb)
  clear kk hb
  have hR2 := small_right hr2 hs2 hp2
  have kp := Lib.hid (paren_any t2 A2w6 d2w6 w6 hX.out.env hR2 (by omega) hT)
  have hne2 := toks_ne hr2
  have hri2 := toks_right hr2
  have hsz2 : (cS (toksT t2)).size ≤ 4000 := by rw [cS_size, ← show_pS hR2]; omega
  clear hq2
  obtain ⟨s2, hS2⟩ : ∃ s, cS (toksT t2) = s := ⟨_, rfl⟩
  rw [hS2] at kp hsz2
  replace hr2 := Lib.hid hr2
  replace hs2 := Lib.hid hs2
  replace hp2 := Lib.hid hp2
  replace hR2 := Lib.hid hR2
  replace hne2 := Lib.hid hne2
  replace hri2 := Lib.hid hri2
  replace hsz2 := Lib.hid hsz2
  replace hS2 := Lib.hid hS2
  clear hT
  go_wp2_with fail
  refine kp.out.mono ?_
  rintro e w7 ⟨rfl, hb⟩
  replace hX := Lib.hid (hX.out.later hb)
  replace hU0 := Lib.hid (hU0.out.later hb)
  replace hU1 := Lib.hid (hU1.out.later hb)
  replace hU2 := Lib.hid (hU2.out.later hb)
  replace hU3 := Lib.hid (hU3.out.later hb)
  clear kp hb
  have kk := Lib.hid (km3.out w7 hU3.out)
  go_wp2_with fail
  refine kk.out.mono ?_
  rintro e w8 ⟨A3w8, d3w8, rfl, hr3, hs3, hp3, hq3, hb, hT⟩
  replace hX := Lib.hid (hX.out.later hb)
  replace hU0 := Lib.hid (hU0.out.later hb)
  replace hU1 := Lib.hid (hU1.out.later hb)
  replace hU2 := Lib.hid (hU2.out.later hb)
  replace hU3 := Lib.hid (hU3.out.later hb)
  clear kk hb
  have hR3 := small_right hr3 hs3 hp3
  have kp := Lib.hid (paren_any t3 A3w8 d3w8 w8 hX.out.env hR3 (by omega) hT)
  have hne3 := toks_ne hr3
  have hri3 := toks_right hr3
  have hsz3 : (cS (toksT t3)).size ≤ 4000 := by rw [cS_size, ← show_pS hR3]; omega
  clear hq3
  obtain ⟨s3, hS3⟩ : ∃ s, cS (toksT t3) = s := ⟨_, rfl⟩
  rw [hS3] at kp hsz3
  replace hr3 := Lib.hid hr3
  replace hs3 := Lib.hid hs3
  replace hp3 := Lib.hid hp3
  replace hR3 := Lib.hid hR3
  replace hne3 := Lib.hid hne3
  replace hri3 := Lib.hid hri3
  replace hsz3 := Lib.hid hsz3
  replace hS3 := Lib.hid hS3
  clear hT
  go_wp2_with fail
  refine kp.out.mono ?_
  rintro e w9 ⟨rfl, hb⟩
  replace hX := Lib.hid (hX.out.later hb)
  replace hU0 := Lib.hid (hU0.out.later hb)
  replace hU1 := Lib.hid (hU1.out.later hb)
  replace hU2 := Lib.hid (hU2.out.later hb)
  replace hU3 := Lib.hid (hU3.out.later hb)
  clear kp hb
  have hrow := X.later_alloc w9 (.cells #[.string s0, .string s1, .string s2, .string s3] 9)
  have hrw : Row4 w9.heap.size s0 s1 s2 s3 (w9.alloc (.cells #[.string s0, .string s1, .string s2, .string s3] 9)) := World.alloc_heap_new w9 (.cells #[.string s0, .string s1, .string s2, .string s3] 9)
  obtain ⟨VR, hVR⟩ : ∃ W, w9.alloc (.cells #[.string s0, .string s1, .string s2, .string s3] 9) = W := ⟨_, rfl⟩
  rw [hVR] at hrow hrw
  replace hX := Lib.hid (hX.out.later hrow)
  replace hU0 := Lib.hid (hU0.out.later hrow)
  replace hU1 := Lib.hid (hU1.out.later hrow)
  replace hU2 := Lib.hid (hU2.out.later hrow)
  replace hU3 := Lib.hid (hU3.out.later hrow)
  replace hrw := Lib.hid hrw
  clear hrow
  obtain ⟨g1, g2, g3⟩ := told_apps hR0.out hR1.out hR2.out hR3.out (by have := hs0.out; have := hs1.out; have := hs2.out; have := hs3.out; omega) (by have := hp0.out; have := hp1.out; have := hp2.out; have := hp3.out; omega)
  have q0 := cS_lex hne0.out hri0.out
  have q1 := cS_lex hne1.out hri1.out
  have q2 := cS_lex hne2.out hri2.out
  have p2 := cS_one hne2.out hri2.out
  have p3 := cS_one hne3.out hri3.out
  have b0 := hsz0.out
  have b1 := hsz1.out
  have b2 := hsz2.out
  have b3 := hsz3.out
  rw [hS0.out] at q0
  rw [hS1.out] at q1
  rw [hS2.out] at q2 p2
  rw [hS3.out] at p3
  obtain ⟨x1, hx1⟩ : ∃ t, Go.Tm.T.node 4 ⟨#[]⟩ 0 [.node 4 ⟨#[]⟩ 0 [.node 4 ⟨#[]⟩ 0 [t0, t1], t2], t3] = t := ⟨_, rfl⟩
  obtain ⟨x2, hx2⟩ : ∃ t, Go.Tm.T.node 12 (txB [60]) 0 [.node 4 ⟨#[]⟩ 0 [t0, t1], .node 4 ⟨#[]⟩ 0 [t2, t3]] = t := ⟨_, rfl⟩
  rw [hx1] at g1
  rw [hx2] at g2

  have f1 : ToldS (((s0 ++ s1) ++ s2) ++ s3) x1 0 := .inr (.inr ⟨_, by simp only [ByteArray.size_append]; omega, by
    simp only [data_app, List.append_assoc]
    exact q0 _ (q1 _ (q2 _ p3)), g1⟩)
  have f2 : ToldS ((((s0 ++ s1) ++ ⟨#[60]⟩) ++ s2) ++ s3) x2 0 := .inr (.inr ⟨_, by simp only [ByteArray.size_append]; show _ + 1 + _ + _ ≤ _; omega, by
    simp only [data_app, List.append_assoc, List.singleton_append]
    exact q0 _ (q1 _ (mark_lex (q2 _ p3))), g2⟩)
  have f3 : ToldS ((((s0 ++ ⟨#[60]⟩) ++ s1) ++ ⟨#[60]⟩) ++ s2) T0 2 := .inr (.inr ⟨_, by simp only [ByteArray.size_append]; show _ + 1 + _ + 1 + _ ≤ _; omega, by
    simp only [data_app, List.append_assoc, List.singleton_append]
    exact q0 _ (mark_lex (q1 _ (mark_lex p2))), g3⟩)
  have y1 : ((((s0 ++ s1) ++ s2) ++ s3) : ByteArray).size ≤ 9223372036854775807 := by simp only [ByteArray.size_append]; omega
  have y2 : (((((s0 ++ s1) ++ ⟨#[60]⟩) ++ s2) ++ s3) : ByteArray).size ≤ 9223372036854775807 := by simp only [ByteArray.size_append]; show _ + 1 + _ + _ ≤ _; omega
  have y3 : (((((s0 ++ ⟨#[60]⟩) ++ s1) ++ ⟨#[60]⟩) ++ s2) : ByteArray).size ≤ 9223372036854775807 := by simp only [ByteArray.size_append]; show _ + 1 + _ + 1 + _ ≤ _; omega
  clear q0 q1 q2 p2 p3
  have z0 : ¬ 9223372036854775807 < s0.size + s1.size := by omega
  have z1 : ¬ 9223372036854775807 < s0.size + s1.size + s2.size := by omega
  have z2 : ¬ 9223372036854775807 < s0.size + s1.size + s2.size + s3.size := by omega
  have z3 : ¬ 9223372036854775807 < s0.size + s1.size + 1 := by omega
  have z4 : ¬ 9223372036854775807 < s0.size + s1.size + 1 + s2.size := by omega
  have z5 : ¬ 9223372036854775807 < s0.size + s1.size + 1 + s2.size + s3.size := by omega
  have z6 : ¬ 9223372036854775807 < s0.size + 1 := by omega
  have z7 : ¬ 9223372036854775807 < s0.size + 1 + s1.size := by omega
  have z8 : ¬ 9223372036854775807 < s0.size + 1 + s1.size + 1 := by omega
  have z9 : ¬ 9223372036854775807 < s0.size + 1 + s1.size + 1 + s2.size := by omega
  replace g1 := Lib.hid g1
  replace g2 := Lib.hid g2
  replace g3 := Lib.hid g3
  replace f1 := Lib.hid f1
  replace f2 := Lib.hid f2
  replace f3 := Lib.hid f3
  replace y1 := Lib.hid y1
  replace y2 := Lib.hid y2
  replace y3 := Lib.hid y3
  replace hx1 := Lib.hid hx1
  replace hx2 := Lib.hid hx2
  have e0 : VR.cell? ⟨w9.heap.size, 0, none⟩ = some (.string s0) := cell_of_row VR w9.heap.size 0 _ _ _ hrw.out
  have e1 : VR.cell? ⟨w9.heap.size, 1, none⟩ = some (.string s1) := cell_of_row VR w9.heap.size 1 _ _ _ hrw.out
  have e2 : VR.cell? ⟨w9.heap.size, 2, none⟩ = some (.string s2) := cell_of_row VR w9.heap.size 2 _ _ _ hrw.out
  have e3 : VR.cell? ⟨w9.heap.size, 3, none⟩ = some (.string s3) := cell_of_row VR w9.heap.size 3 _ _ _ hrw.out
  have hbA : Hid (Below VR.heap.size VR VR.drew) := (Below.refl _ _).drew
  have hbB : Hid (Below VR.heap.size VR (VR.alloc (.cells #[.int .i64 0, .string ⟨#[]⟩, .int .i64 0, .slice none 0 0] 26)).drew) := (X.later_alloc _ _).drew
  have kp := Lib.hid (fun W' (hb : Below VR.heap.size VR W') => far_ok f1.out W' (hX.out.later hb).env y1.out)
  have hc : Hid (∀ W, Below VR.heap.size VR W → W.cell? ⟨w9.heap.size, 0, none⟩ = some (.string s0) ∧ W.cell? ⟨w9.heap.size, 1, none⟩ = some (.string s1) ∧ W.cell? ⟨w9.heap.size, 2, none⟩ = some (.string s2) ∧ W.cell? ⟨w9.heap.size, 3, none⟩ = some (.string s3)) := by
    intro W hb
    have h := hrw.out.later hb
    exact ⟨cell_of_row W w9.heap.size 0 _ _ _ h, cell_of_row W w9.heap.size 1 _ _ _ h, cell_of_row W w9.heap.size 2 _ _ _ h, cell_of_row W w9.heap.size 3 _ _ _ h⟩
  have hzB : Hid (∀ W, Below (VR.alloc (.cells #[.int .i64 0, .string ⟨#[]⟩, .int .i64 0, .slice none 0 0] 26)).drew.heap.size (VR.alloc (.cells #[.int .i64 0, .string ⟨#[]⟩, .int .i64 0, .slice none 0 0] 26)).drew W → W.heap[VR.heap.size]? = some (.cells #[.int .i64 0, .string ⟨#[]⟩, .int .i64 0, .slice none 0 0] 26 (0, 0))) := fun W hb => (hb.block VR.heap.size (by show _ < (VR.alloc _).heap.size; rw [World.size_alloc]; omega)).trans (World.alloc_heap_new VR _)
  have hsB : Hid (VR.heap.size < (VR.alloc (.cells #[.int .i64 0, .string ⟨#[]⟩, .int .i64 0, .slice none 0 0] 26)).drew.heap.size) := by show _ < (VR.alloc _).heap.size; rw [World.size_alloc]; omega
  go_wp2_with fail
  rename_i K5 hK5
  replace hK5 := Lib.hid hK5
  replace hVR := Lib.hid hVR
  have hA : Hid (∀ (b4 : Nat) (P5 : Option Addr) (p5 : Nat) (W : World) (y19 y20 y21 y22 y23 y24 y25 y26 y27 y28 y29 y30 y31 y32 y33 y34 y35 y36 y37 y38 y39 y40 y41 y42 y43 y44 y45 y46 y47 y48 y49 y50 y51 y52 y53 : Value), Bx w [⟨x1, P5, p5, b4⟩] W → BtsS W A0 zs0 → BtsS W A1 zs1 → BtsS W A2 zs2 → BtsS W A3 zs3 → Row4 w9.heap.size s0 s1 s2 s3 W → K5 { tmps := #[.slice A0 N0 c0, .slice A1 N1 c1, .slice A2 N2 c2, .slice A3 N3 c3, undef, undef, undef, undef, .bool false, .bool true, .slice (some ⟨w9.heap.size, 0, none⟩) 4 4, .pointer (some ⟨b4, 0, none⟩), .int .i64 0, undef, undef, undef, undef, undef, undef, y19, y20, y21, y22, y23, y24, y25, y26, y27, y28, y29, y30, y31, y32, y33, y34, y35, y36, y37, y38, y39, y40, y41, y42, y43, y44, y45, y46, y47, y48, y49, y50, y51, y52, y53, undef, undef, undef, undef, undef, undef, undef, undef, undef, undef, undef, undef, undef, undef, undef, undef, undef, undef, undef, undef, undef, undef, undef, undef, undef, undef, undef, undef, undef, undef, undef, undef, undef, undef, undef, undef, undef, undef, undef, undef, undef, undef, undef, undef, undef, undef, undef, undef, undef, undef, undef, undef, undef, undef, undef, undef, undef, undef, undef, undef, undef, undef, undef, undef, undef, undef, undef, undef, undef, undef, undef, undef, undef, undef, undef, undef, undef, undef, undef, undef, undef, undef, undef], defers := [] } W) := by
    clear kp hbA hbB hc hzB hsB e0 e1 e2 e3 hX hU0 hU1 hU2 hU3 hrw
    intro b4 P5 p5 u1 y19 y20 y21 y22 y23 y24 y25 y26 y27 y28 y29 y30 y31 y32 y33 y34 y35 y36 y37 y38 y39 y40 y41 y42 y43 y44 y45 y46 y47 y48 y49 y50 y51 y52 y53 hX hU0 hU1 hU2 hU3 hrw
    refine hK5.out _ _ ?_
    replace hX := Lib.hid hX
    replace hU0 := Lib.hid hU0
    replace hU1 := Lib.hid hU1
    replace hU2 := Lib.hid hU2
    replace hU3 := Lib.hid hU3
    replace hrw := Lib.hid hrw
    clear hK5
    have e0 : u1.cell? ⟨w9.heap.size, 0, none⟩ = some (.string s0) := cell_of_row u1 w9.heap.size 0 _ _ _ hrw.out
    have e1 : u1.cell? ⟨w9.heap.size, 1, none⟩ = some (.string s1) := cell_of_row u1 w9.heap.size 1 _ _ _ hrw.out
    have e2 : u1.cell? ⟨w9.heap.size, 2, none⟩ = some (.string s2) := cell_of_row u1 w9.heap.size 2 _ _ _ hrw.out
    have e3 : u1.cell? ⟨w9.heap.size, 3, none⟩ = some (.string s3) := cell_of_row u1 w9.heap.size 3 _ _ _ hrw.out
    have hbA : Hid (Below u1.heap.size u1 u1.drew) := (Below.refl _ _).drew
    have hbB : Hid (Below u1.heap.size u1 (u1.alloc (.cells #[.int .i64 0, .string ⟨#[]⟩, .int .i64 0, .slice none 0 0] 26)).drew) := (X.later_alloc _ _).drew
    have kp := Lib.hid (fun W' (hb : Below u1.heap.size u1 W') => far_ok f2.out W' (hX.out.later hb).env y2.out)
    have hc : Hid (∀ W, Below u1.heap.size u1 W → W.cell? ⟨w9.heap.size, 0, none⟩ = some (.string s0) ∧ W.cell? ⟨w9.heap.size, 1, none⟩ = some (.string s1) ∧ W.cell? ⟨w9.heap.size, 2, none⟩ = some (.string s2) ∧ W.cell? ⟨w9.heap.size, 3, none⟩ = some (.string s3)) := by
      intro W hb
      have h := hrw.out.later hb
      exact ⟨cell_of_row W w9.heap.size 0 _ _ _ h, cell_of_row W w9.heap.size 1 _ _ _ h, cell_of_row W w9.heap.size 2 _ _ _ h, cell_of_row W w9.heap.size 3 _ _ _ h⟩
    have hzB : Hid (∀ W, Below (u1.alloc (.cells #[.int .i64 0, .string ⟨#[]⟩, .int .i64 0, .slice none 0 0] 26)).drew.heap.size (u1.alloc (.cells #[.int .i64 0, .string ⟨#[]⟩, .int .i64 0, .slice none 0 0] 26)).drew W → W.heap[u1.heap.size]? = some (.cells #[.int .i64 0, .string ⟨#[]⟩, .int .i64 0, .slice none 0 0] 26 (0, 0))) := fun W hb => (hb.block u1.heap.size (by show _ < (u1.alloc _).heap.size; rw [World.size_alloc]; omega)).trans (World.alloc_heap_new u1 _)
    have hsB : Hid (u1.heap.size < (u1.alloc (.cells #[.int .i64 0, .string ⟨#[]⟩, .int .i64 0, .slice none 0 0] 26)).drew.heap.size) := by show _ < (u1.alloc _).heap.size; rw [World.size_alloc]; omega
    go_wp2_with fail
    rename_i K6 hK6
    replace hK6 := Lib.hid hK6
    have hA : Hid (∀ (b5 : Nat) (P6 : Option Addr) (p6 : Nat) (W : World) (y54 y55 y56 y57 y58 y59 y60 y61 y62 y63 y64 y65 y66 y67 y68 y69 y70 y71 y72 y73 : Value), Bx w [⟨x2, P6, p6, b5⟩, ⟨x1, P5, p5, b4⟩] W → BtsS W A0 zs0 → BtsS W A1 zs1 → BtsS W A2 zs2 → BtsS W A3 zs3 → Row4 w9.heap.size s0 s1 s2 s3 W → K6 { tmps := #[.slice A0 N0 c0, .slice A1 N1 c1, .slice A2 N2 c2, .slice A3 N3 c3, undef, undef, undef, undef, .bool false, .bool true, .slice (some ⟨w9.heap.size, 0, none⟩) 4 4, .pointer (some ⟨b4, 0, none⟩), .int .i64 0, .pointer (some ⟨b5, 0, none⟩), .int .i64 0, undef, undef, undef, undef, y19, y20, y21, y22, y23, y24, y25, y26, y27, y28, y29, y30, y31, y32, y33, y34, y35, y36, y37, y38, y39, y40, y41, y42, y43, y44, y45, y46, y47, y48, y49, y50, y51, y52, y53, y54, y55, y56, y57, y58, y59, y60, y61, y62, y63, y64, y65, y66, y67, y68, y69, y70, y71, y72, y73, undef, undef, undef, undef, undef, undef, undef, undef, undef, undef, undef, undef, undef, undef, undef, undef, undef, undef, undef, undef, undef, undef, undef, undef, undef, undef, undef, undef, undef, undef, undef, undef, undef, undef, undef, undef, undef, undef, undef, undef, undef, undef, undef, undef, undef, undef, undef, undef, undef, undef, undef, undef, undef, undef, undef, undef, undef, undef, undef, undef, undef, undef, undef], defers := [] } W) := by
      clear kp hbA hbB hc hzB hsB e0 e1 e2 e3 hX hU0 hU1 hU2 hU3 hrw
      intro b5 P6 p6 u2 y54 y55 y56 y57 y58 y59 y60 y61 y62 y63 y64 y65 y66 y67 y68 y69 y70 y71 y72 y73 hX hU0 hU1 hU2 hU3 hrw
      refine hK6.out _ _ ?_
      replace hX := Lib.hid hX
      replace hU0 := Lib.hid hU0
      replace hU1 := Lib.hid hU1
      replace hU2 := Lib.hid hU2
      replace hU3 := Lib.hid hU3
      replace hrw := Lib.hid hrw
      clear hK6
      have e0 : u2.cell? ⟨w9.heap.size, 0, none⟩ = some (.string s0) := cell_of_row u2 w9.heap.size 0 _ _ _ hrw.out
      have e1 : u2.cell? ⟨w9.heap.size, 1, none⟩ = some (.string s1) := cell_of_row u2 w9.heap.size 1 _ _ _ hrw.out
      have e2 : u2.cell? ⟨w9.heap.size, 2, none⟩ = some (.string s2) := cell_of_row u2 w9.heap.size 2 _ _ _ hrw.out
      have e3 : u2.cell? ⟨w9.heap.size, 3, none⟩ = some (.string s3) := cell_of_row u2 w9.heap.size 3 _ _ _ hrw.out
      have hbA : Hid (Below u2.heap.size u2 u2.drew) := (Below.refl _ _).drew
      have hbB : Hid (Below u2.heap.size u2 (u2.alloc (.cells #[.int .i64 0, .string ⟨#[]⟩, .int .i64 0, .slice none 0 0] 26)).drew) := (X.later_alloc _ _).drew
      have kp := Lib.hid (fun W' (hb : Below u2.heap.size u2 W') => parse_no f3.out (by decide) W' (hX.out.later hb).env y3.out)
      have hc : Hid (∀ W, Below u2.heap.size u2 W → W.cell? ⟨w9.heap.size, 0, none⟩ = some (.string s0) ∧ W.cell? ⟨w9.heap.size, 1, none⟩ = some (.string s1) ∧ W.cell? ⟨w9.heap.size, 2, none⟩ = some (.string s2) ∧ W.cell? ⟨w9.heap.size, 3, none⟩ = some (.string s3)) := by
        intro W hb
        have h := hrw.out.later hb
        exact ⟨cell_of_row W w9.heap.size 0 _ _ _ h, cell_of_row W w9.heap.size 1 _ _ _ h, cell_of_row W w9.heap.size 2 _ _ _ h, cell_of_row W w9.heap.size 3 _ _ _ h⟩
      have hzB : Hid (∀ W, Below (u2.alloc (.cells #[.int .i64 0, .string ⟨#[]⟩, .int .i64 0, .slice none 0 0] 26)).drew.heap.size (u2.alloc (.cells #[.int .i64 0, .string ⟨#[]⟩, .int .i64 0, .slice none 0 0] 26)).drew W → W.heap[u2.heap.size]? = some (.cells #[.int .i64 0, .string ⟨#[]⟩, .int .i64 0, .slice none 0 0] 26 (0, 0))) := fun W hb => (hb.block u2.heap.size (by show _ < (u2.alloc _).heap.size; rw [World.size_alloc]; omega)).trans (World.alloc_heap_new u2 _)
      have hsB : Hid (u2.heap.size < (u2.alloc (.cells #[.int .i64 0, .string ⟨#[]⟩, .int .i64 0, .slice none 0 0] 26)).drew.heap.size) := by show _ < (u2.alloc _).heap.size; rw [World.size_alloc]; omega
      go_wp2_with fail
      rename_i K7 hK7
      replace hK7 := Lib.hid hK7
      have hA : Hid (∀ (b6 : Nat) (P7 : Option Addr) (p7 : Nat) (W : World) (y74 y75 y76 y77 y78 y79 y80 y81 y82 y83 y84 y85 y86 y87 y88 y89 y90 : Value), Bx w [⟨T0, none, 0, b6⟩, ⟨x2, P6, p6, b5⟩, ⟨x1, P5, p5, b4⟩] W → BtsS W A0 zs0 → BtsS W A1 zs1 → BtsS W A2 zs2 → BtsS W A3 zs3 → Row4 w9.heap.size s0 s1 s2 s3 W → K7 { tmps := #[.slice A0 N0 c0, .slice A1 N1 c1, .slice A2 N2 c2, .slice A3 N3 c3, undef, undef, undef, undef, .bool false, .bool true, .slice (some ⟨w9.heap.size, 0, none⟩) 4 4, .pointer (some ⟨b4, 0, none⟩), .int .i64 0, .pointer (some ⟨b5, 0, none⟩), .int .i64 0, .pointer (some ⟨b6, 0, none⟩), .int .i64 2, undef, undef, y19, y20, y21, y22, y23, y24, y25, y26, y27, y28, y29, y30, y31, y32, y33, y34, y35, y36, y37, y38, y39, y40, y41, y42, y43, y44, y45, y46, y47, y48, y49, y50, y51, y52, y53, y54, y55, y56, y57, y58, y59, y60, y61, y62, y63, y64, y65, y66, y67, y68, y69, y70, y71, y72, y73, y74, y75, y76, y77, y78, y79, y80, y81, y82, y83, y84, y85, y86, y87, y88, y89, y90, undef, undef, undef, undef, undef, undef, undef, undef, undef, undef, undef, undef, undef, undef, undef, undef, undef, undef, undef, undef, undef, undef, undef, undef, undef, undef, undef, undef, undef, undef, undef, undef, undef, undef, undef, undef, undef, undef, undef, undef, undef, undef, undef, undef, undef, undef], defers := [] } W) := by
        clear kp hbA hbB hc hzB hsB e0 e1 e2 e3 hX hU0 hU1 hU2 hU3 hrw
        intro b6 P7 p7 u3 y74 y75 y76 y77 y78 y79 y80 y81 y82 y83 y84 y85 y86 y87 y88 y89 y90 hX hU0 hU1 hU2 hU3 hrw
        refine hK7.out _ _ ?_
        replace hX := Lib.hid hX
        replace hU0 := Lib.hid hU0
        replace hU1 := Lib.hid hU1
        replace hU2 := Lib.hid hU2
        replace hU3 := Lib.hid hU3
        replace hrw := Lib.hid hrw
        clear hK7
        have kk := Lib.hid (km0.out u3 hU0.out)
        go_wp2_with fail
        refine kk.out.mono ?_
        rintro e r1 ⟨Aq0, dq0, rfl, _, _, _, _, hb, q0⟩
        replace hX := Lib.hid (hX.out.later hb)
        replace hU0 := Lib.hid (hU0.out.later hb)
        replace hU1 := Lib.hid (hU1.out.later hb)
        replace hU2 := Lib.hid (hU2.out.later hb)
        replace hU3 := Lib.hid (hU3.out.later hb)
        replace hrw := Lib.hid (hrw.out.later hb)
        replace q0 := Lib.hid q0
        clear kk hb
        have kk := Lib.hid (km1.out r1 hU1.out)
        go_wp2_with fail
        refine kk.out.mono ?_
        rintro e r2 ⟨Aq1, dq1, rfl, _, _, _, _, hb, q1⟩
        replace hX := Lib.hid (hX.out.later hb)
        replace hU0 := Lib.hid (hU0.out.later hb)
        replace hU1 := Lib.hid (hU1.out.later hb)
        replace hU2 := Lib.hid (hU2.out.later hb)
        replace hU3 := Lib.hid (hU3.out.later hb)
        replace hrw := Lib.hid (hrw.out.later hb)
        replace q0 := Lib.hid (q0.out.later hb)
        replace q1 := Lib.hid q1
        clear kk hb
        have kk := Lib.hid (app_any (t0) (t1) Aq0 Aq1 dq0 dq1 r2 q0.out q1.out)
        go_wp2_with fail
        refine kk.out.mono ?_
        rintro e r3 ⟨Aa1, da1, rfl, hb, a1⟩
        clear q0
        clear q1
        replace hX := Lib.hid (hX.out.later hb)
        replace hU0 := Lib.hid (hU0.out.later hb)
        replace hU1 := Lib.hid (hU1.out.later hb)
        replace hU2 := Lib.hid (hU2.out.later hb)
        replace hU3 := Lib.hid (hU3.out.later hb)
        replace hrw := Lib.hid (hrw.out.later hb)
        replace a1 := Lib.hid a1
        clear kk hb
        have kk := Lib.hid (km2.out r3 hU2.out)
        go_wp2_with fail
        refine kk.out.mono ?_
        rintro e r4 ⟨Aq2, dq2, rfl, _, _, _, _, hb, q2⟩
        replace hX := Lib.hid (hX.out.later hb)
        replace hU0 := Lib.hid (hU0.out.later hb)
        replace hU1 := Lib.hid (hU1.out.later hb)
        replace hU2 := Lib.hid (hU2.out.later hb)
        replace hU3 := Lib.hid (hU3.out.later hb)
        replace hrw := Lib.hid (hrw.out.later hb)
        replace a1 := Lib.hid (a1.out.later hb)
        replace q2 := Lib.hid q2
        clear kk hb
        have kk := Lib.hid (app_any (.node 4 ⟨#[]⟩ 0 [t0, t1]) (t2) Aa1 Aq2 da1 dq2 r4 a1.out q2.out)
        go_wp2_with fail
        refine kk.out.mono ?_
        rintro e r5 ⟨Aa2, da2, rfl, hb, a2⟩
        clear a1
        clear q2
        replace hX := Lib.hid (hX.out.later hb)
        replace hU0 := Lib.hid (hU0.out.later hb)
        replace hU1 := Lib.hid (hU1.out.later hb)
        replace hU2 := Lib.hid (hU2.out.later hb)
        replace hU3 := Lib.hid (hU3.out.later hb)
        replace hrw := Lib.hid (hrw.out.later hb)
        replace a2 := Lib.hid a2
        clear kk hb
        have kk := Lib.hid (km3.out r5 hU3.out)
        go_wp2_with fail
        refine kk.out.mono ?_
        rintro e r6 ⟨Aq3, dq3, rfl, _, _, _, _, hb, q3⟩
        replace hX := Lib.hid (hX.out.later hb)
        replace hU0 := Lib.hid (hU0.out.later hb)
        replace hU1 := Lib.hid (hU1.out.later hb)
        replace hU2 := Lib.hid (hU2.out.later hb)
        replace hU3 := Lib.hid (hU3.out.later hb)
        replace hrw := Lib.hid (hrw.out.later hb)
        replace a2 := Lib.hid (a2.out.later hb)
        replace q3 := Lib.hid q3
        clear kk hb
        have kk := Lib.hid (app_any (.node 4 ⟨#[]⟩ 0 [.node 4 ⟨#[]⟩ 0 [t0, t1], t2]) (t3) Aa2 Aq3 da2 dq3 r6 a2.out q3.out)
        go_wp2_with fail
        refine kk.out.mono ?_
        rintro e r7 ⟨Aa3, da3, rfl, hb, a3⟩
        clear a2
        clear q3
        replace hX := Lib.hid (hX.out.later hb)
        replace hU0 := Lib.hid (hU0.out.later hb)
        replace hU1 := Lib.hid (hU1.out.later hb)
        replace hU2 := Lib.hid (hU2.out.later hb)
        replace hU3 := Lib.hid (hU3.out.later hb)
        replace hrw := Lib.hid (hrw.out.later hb)
        replace a3 := Lib.hid a3
        clear kk hb
        have hl := X.later_alloc r7 (.cells #[.int .i64 4, .string ⟨#[]⟩, .int .i64 0, .slice Aa3 2 da3] 26)
        have hbx : Blk r7.heap.size (.cells #[.int .i64 4, .string ⟨#[]⟩, .int .i64 0, .slice Aa3 2 da3] 26 (0, 0)) (r7.alloc (.cells #[.int .i64 4, .string ⟨#[]⟩, .int .i64 0, .slice Aa3 2 da3] 26)) := World.alloc_heap_new _ _
        obtain ⟨VX, hVVX⟩ : ∃ W, r7.alloc (.cells #[.int .i64 4, .string ⟨#[]⟩, .int .i64 0, .slice Aa3 2 da3] 26) = W := ⟨_, rfl⟩
        rw [hVVX] at hl hbx
        replace hX := Lib.hid (hX.out.later hl)
        replace hU0 := Lib.hid (hU0.out.later hl)
        replace hU1 := Lib.hid (hU1.out.later hl)
        replace hU2 := Lib.hid (hU2.out.later hl)
        replace hU3 := Lib.hid (hU3.out.later hl)
        replace hrw := Lib.hid (hrw.out.later hl)
        replace a3 := Lib.hid (a3.out.later hl)
        replace hbx := Lib.hid hbx
        clear hl
        have kk := Lib.hid (km0.out VX hU0.out)
        go_wp2_with fail
        replace hVVX := Lib.hid hVVX
        refine kk.out.mono ?_
        rintro e r8 ⟨Aq0, dq0, rfl, _, _, _, _, hb, q0⟩
        replace hX := Lib.hid (hX.out.later hb)
        replace hU0 := Lib.hid (hU0.out.later hb)
        replace hU1 := Lib.hid (hU1.out.later hb)
        replace hU2 := Lib.hid (hU2.out.later hb)
        replace hU3 := Lib.hid (hU3.out.later hb)
        replace hrw := Lib.hid (hrw.out.later hb)
        replace a3 := Lib.hid (a3.out.later hb)
        replace hbx := Lib.hid (hbx.out.later hb)
        replace q0 := Lib.hid q0
        clear kk hb
        have kk := Lib.hid (km1.out r8 hU1.out)
        go_wp2_with fail
        refine kk.out.mono ?_
        rintro e r9 ⟨Aq1, dq1, rfl, _, _, _, _, hb, q1⟩
        replace hX := Lib.hid (hX.out.later hb)
        replace hU0 := Lib.hid (hU0.out.later hb)
        replace hU1 := Lib.hid (hU1.out.later hb)
        replace hU2 := Lib.hid (hU2.out.later hb)
        replace hU3 := Lib.hid (hU3.out.later hb)
        replace hrw := Lib.hid (hrw.out.later hb)
        replace a3 := Lib.hid (a3.out.later hb)
        replace hbx := Lib.hid (hbx.out.later hb)
        replace q0 := Lib.hid (q0.out.later hb)
        replace q1 := Lib.hid q1
        clear kk hb
        have kk := Lib.hid (app_any (t0) (t1) Aq0 Aq1 dq0 dq1 r9 q0.out q1.out)
        go_wp2_with fail
        refine kk.out.mono ?_
        rintro e r10 ⟨An1, dn1, rfl, hb, n1⟩
        clear q0
        clear q1
        replace hX := Lib.hid (hX.out.later hb)
        replace hU0 := Lib.hid (hU0.out.later hb)
        replace hU1 := Lib.hid (hU1.out.later hb)
        replace hU2 := Lib.hid (hU2.out.later hb)
        replace hU3 := Lib.hid (hU3.out.later hb)
        replace hrw := Lib.hid (hrw.out.later hb)
        replace a3 := Lib.hid (a3.out.later hb)
        replace hbx := Lib.hid (hbx.out.later hb)
        replace n1 := Lib.hid n1
        clear kk hb
        have kk := Lib.hid (km2.out r10 hU2.out)
        go_wp2_with fail
        refine kk.out.mono ?_
        rintro e r11 ⟨Aq2, dq2, rfl, _, _, _, _, hb, q2⟩
        replace hX := Lib.hid (hX.out.later hb)
        replace hU0 := Lib.hid (hU0.out.later hb)
        replace hU1 := Lib.hid (hU1.out.later hb)
        replace hU2 := Lib.hid (hU2.out.later hb)
        replace hU3 := Lib.hid (hU3.out.later hb)
        replace hrw := Lib.hid (hrw.out.later hb)
        replace a3 := Lib.hid (a3.out.later hb)
        replace hbx := Lib.hid (hbx.out.later hb)
        replace n1 := Lib.hid (n1.out.later hb)
        replace q2 := Lib.hid q2
        clear kk hb
        have kk := Lib.hid (km3.out r11 hU3.out)
        go_wp2_with fail
        refine kk.out.mono ?_
        rintro e r12 ⟨Aq3, dq3, rfl, _, _, _, _, hb, q3⟩
        replace hX := Lib.hid (hX.out.later hb)
        replace hU0 := Lib.hid (hU0.out.later hb)
        replace hU1 := Lib.hid (hU1.out.later hb)
        replace hU2 := Lib.hid (hU2.out.later hb)
        replace hU3 := Lib.hid (hU3.out.later hb)
        replace hrw := Lib.hid (hrw.out.later hb)
        replace a3 := Lib.hid (a3.out.later hb)
        replace hbx := Lib.hid (hbx.out.later hb)
        replace n1 := Lib.hid (n1.out.later hb)
        replace q2 := Lib.hid (q2.out.later hb)
        replace q3 := Lib.hid q3
        clear kk hb
        have kk := Lib.hid (app_any (t2) (t3) Aq2 Aq3 dq2 dq3 r12 q2.out q3.out)
        go_wp2_with fail
        refine kk.out.mono ?_
        rintro e r13 ⟨An2, dn2, rfl, hb, n2⟩
        clear q2
        clear q3
        replace hX := Lib.hid (hX.out.later hb)
        replace hU0 := Lib.hid (hU0.out.later hb)
        replace hU1 := Lib.hid (hU1.out.later hb)
        replace hU2 := Lib.hid (hU2.out.later hb)
        replace hU3 := Lib.hid (hU3.out.later hb)
        replace hrw := Lib.hid (hrw.out.later hb)
        replace a3 := Lib.hid (a3.out.later hb)
        replace hbx := Lib.hid (hbx.out.later hb)
        replace n1 := Lib.hid (n1.out.later hb)
        replace n2 := Lib.hid n2
        clear kk hb
        have hl := X.later_alloc r13 (.cells #[.int .i64 4, .string ⟨#[]⟩, .int .i64 0, .slice An1 2 dn1, .int .i64 4, .string ⟨#[]⟩, .int .i64 0, .slice An2 2 dn2] 26)
        have hro : Blk r13.heap.size (.cells #[.int .i64 4, .string ⟨#[]⟩, .int .i64 0, .slice An1 2 dn1, .int .i64 4, .string ⟨#[]⟩, .int .i64 0, .slice An2 2 dn2] 26 (0, 0)) (r13.alloc (.cells #[.int .i64 4, .string ⟨#[]⟩, .int .i64 0, .slice An1 2 dn1, .int .i64 4, .string ⟨#[]⟩, .int .i64 0, .slice An2 2 dn2] 26)) := World.alloc_heap_new _ _
        obtain ⟨VW, hVVW⟩ : ∃ W, r13.alloc (.cells #[.int .i64 4, .string ⟨#[]⟩, .int .i64 0, .slice An1 2 dn1, .int .i64 4, .string ⟨#[]⟩, .int .i64 0, .slice An2 2 dn2] 26) = W := ⟨_, rfl⟩
        rw [hVVW] at hl hro
        replace hX := Lib.hid (hX.out.later hl)
        replace hU0 := Lib.hid (hU0.out.later hl)
        replace hU1 := Lib.hid (hU1.out.later hl)
        replace hU2 := Lib.hid (hU2.out.later hl)
        replace hU3 := Lib.hid (hU3.out.later hl)
        replace hrw := Lib.hid (hrw.out.later hl)
        replace a3 := Lib.hid (a3.out.later hl)
        replace hbx := Lib.hid (hbx.out.later hl)
        replace n1 := Lib.hid (n1.out.later hl)
        replace n2 := Lib.hid (n2.out.later hl)
        replace hro := Lib.hid hro
        clear hl
        have hl := X.later_alloc VW (.cells #[.int .i64 12, .string ⟨#[60]⟩, .int .i64 0, .slice (some ⟨r13.heap.size, 0, none⟩) 2 2] 26)
        have hby : Blk VW.heap.size (.cells #[.int .i64 12, .string ⟨#[60]⟩, .int .i64 0, .slice (some ⟨r13.heap.size, 0, none⟩) 2 2] 26 (0, 0)) (VW.alloc (.cells #[.int .i64 12, .string ⟨#[60]⟩, .int .i64 0, .slice (some ⟨r13.heap.size, 0, none⟩) 2 2] 26)) := World.alloc_heap_new _ _
        obtain ⟨VY, hVVY⟩ : ∃ W, VW.alloc (.cells #[.int .i64 12, .string ⟨#[60]⟩, .int .i64 0, .slice (some ⟨r13.heap.size, 0, none⟩) 2 2] 26) = W := ⟨_, rfl⟩
        rw [hVVY] at hl hby
        replace hX := Lib.hid (hX.out.later hl)
        replace hU0 := Lib.hid (hU0.out.later hl)
        replace hU1 := Lib.hid (hU1.out.later hl)
        replace hU2 := Lib.hid (hU2.out.later hl)
        replace hU3 := Lib.hid (hU3.out.later hl)
        replace hrw := Lib.hid (hrw.out.later hl)
        replace a3 := Lib.hid (a3.out.later hl)
        replace hbx := Lib.hid (hbx.out.later hl)
        replace n1 := Lib.hid (n1.out.later hl)
        replace n2 := Lib.hid (n2.out.later hl)
        replace hro := Lib.hid (hro.out.later hl)
        replace hby := Lib.hid hby
        clear hl
        have hty : TmV VY (· < VY.heap.size) (Go.Tm.T.node 12 ⟨#[60]⟩ 0 [Go.Tm.T.node 4 ⟨#[]⟩ 0 [t0, t1], Go.Tm.T.node 4 ⟨#[]⟩ 0 [t2, t3]]) (some ⟨r13.heap.size, 0, none⟩) 2 := row_tm (by decide) [(Go.Tm.T.node 4 ⟨#[]⟩ 0 [t0, t1], An1, dn1), (Go.Tm.T.node 4 ⟨#[]⟩ 0 [t2, t3], An2, dn2)] 2 (fun x hx => by
          rcases List.mem_cons.1 hx with rfl | hx
          · exact n1.out
          · obtain rfl := List.mem_singleton.1 hx
            exact n2.out) hro.out
        replace hty := Lib.hid hty
        clear n1 n2 hro
        have w1 : Hid (x1.size ≤ 4194304) := by
          show _ ≤ _
          have := hs0.out; have := hs1.out; have := hs2.out; have := hs3.out
          rw [← hx1.out]; simp only [Go.Tm.T.size, sizes]; omega
        have w2 : Hid (x2.size ≤ 4194304) := by
          show _ ≤ _
          have := hs0.out; have := hs1.out; have := hs2.out; have := hs3.out
          rw [← hx2.out]; simp only [Go.Tm.T.size, sizes]; omega
        have v1 : Hid (eqT x1 (Go.Tm.T.node 4 ⟨#[]⟩ 0 [.node 4 ⟨#[]⟩ 0 [.node 4 ⟨#[]⟩ 0 [t0, t1], t2], t3]) = true) := by show _ = _; rw [hx1.out]; exact Go.Proofs.YtpdombmpmhnolaaGreatDoor.Eq.self_eq x1
        have v2 : Hid (eqT x2 (Go.Tm.T.node 12 ⟨#[60]⟩ 0 [Go.Tm.T.node 4 ⟨#[]⟩ 0 [t0, t1], Go.Tm.T.node 4 ⟨#[]⟩ 0 [t2, t3]]) = true) := by show _ = _; rw [show (Go.Tm.T.node 12 ⟨#[60]⟩ 0 [Go.Tm.T.node 4 ⟨#[]⟩ 0 [t0, t1], Go.Tm.T.node 4 ⟨#[]⟩ 0 [t2, t3]]) = x2 from hx2.out]; exact Go.Proofs.YtpdombmpmhnolaaGreatDoor.Eq.self_eq x2
        have a9 := hX.out.at_ ⟨x1, P5, p5, b4⟩ (by simp)
        have x9 : VY.heap[b4]? = some (.cells #[.int .i64 x1.kind, .string x1.name, .int .i64 x1.num, .slice P5 x1.kids.length p5] 26 (0, 0)) := a9.box
        have c90 := cell_of_row VY (b4) 0 _ _ _ x9
        have c91 := cell_of_row VY (b4) 1 _ _ _ x9
        have c92 := cell_of_row VY (b4) 2 _ _ _ x9
        have c93 := cell_of_row VY (b4) 3 _ _ _ x9
        have d90 := cell_of_row VY (r7.heap.size) 0 _ _ _ hbx.out
        have d91 := cell_of_row VY (r7.heap.size) 1 _ _ _ hbx.out
        have d92 := cell_of_row VY (r7.heap.size) 2 _ _ _ hbx.out
        have d93 := cell_of_row VY (r7.heap.size) 3 _ _ _ hbx.out
        have ke : Calls Tryz.prog 22 #[.agg #[.int .i64 x1.kind, .string x1.name, .int .i64 x1.num, .slice P5 x1.kids.length p5], .agg #[.int .i64 4, .string ⟨#[]⟩, .int .i64 0, .slice Aa3 2 da3]] VY fun e w'' => e = .returned (.bool true) ∧ Below VY.heap.size VY w'' := by
          have h9 := same_any x1 (Go.Tm.T.node 4 ⟨#[]⟩ 0 [.node 4 ⟨#[]⟩ 0 [.node 4 ⟨#[]⟩ 0 [t0, t1], t2], t3]) P5 Aa3 p5 da3 VY w1.out a9.tm a3.out
          rw [v1.out] at h9
          exact h9
        replace ke := Lib.hid ke
        replace x9 := Lib.hid x9
        replace a9 := Lib.hid a9
        go_wp2_with fail
        replace hVVY := Lib.hid hVVY
        refine ke.out.mono ?_
        rintro e zz1 ⟨rfl, hb⟩
        replace hX := Lib.hid (hX.out.later hb)
        replace hU0 := Lib.hid (hU0.out.later hb)
        replace hU1 := Lib.hid (hU1.out.later hb)
        replace hU2 := Lib.hid (hU2.out.later hb)
        replace hU3 := Lib.hid (hU3.out.later hb)
        replace hrw := Lib.hid (hrw.out.later hb)
        replace a3 := Lib.hid (a3.out.later hb)
        replace hbx := Lib.hid (hbx.out.later hb)
        replace hby := Lib.hid (hby.out.later hb)
        replace hty := Lib.hid (hty.out.later hb)
        clear hb ke a9 x9 c90 c91 c92 c93 d90 d91 d92 d93
        have a9 := hX.out.at_ ⟨x2, P6, p6, b5⟩ (by simp)
        have x9 : zz1.heap[b5]? = some (.cells #[.int .i64 x2.kind, .string x2.name, .int .i64 x2.num, .slice P6 x2.kids.length p6] 26 (0, 0)) := a9.box
        have c90 := cell_of_row zz1 (b5) 0 _ _ _ x9
        have c91 := cell_of_row zz1 (b5) 1 _ _ _ x9
        have c92 := cell_of_row zz1 (b5) 2 _ _ _ x9
        have c93 := cell_of_row zz1 (b5) 3 _ _ _ x9
        have d90 := cell_of_row zz1 (VW.heap.size) 0 _ _ _ hby.out
        have d91 := cell_of_row zz1 (VW.heap.size) 1 _ _ _ hby.out
        have d92 := cell_of_row zz1 (VW.heap.size) 2 _ _ _ hby.out
        have d93 := cell_of_row zz1 (VW.heap.size) 3 _ _ _ hby.out
        have ke : Calls Tryz.prog 22 #[.agg #[.int .i64 x2.kind, .string x2.name, .int .i64 x2.num, .slice P6 x2.kids.length p6], .agg #[.int .i64 12, .string ⟨#[60]⟩, .int .i64 0, .slice (some ⟨r13.heap.size, 0, none⟩) 2 2]] zz1 fun e w'' => e = .returned (.bool true) ∧ Below zz1.heap.size zz1 w'' := by
          have h9 := same_any x2 (Go.Tm.T.node 12 ⟨#[60]⟩ 0 [Go.Tm.T.node 4 ⟨#[]⟩ 0 [t0, t1], Go.Tm.T.node 4 ⟨#[]⟩ 0 [t2, t3]]) P6 (some ⟨r13.heap.size, 0, none⟩) p6 2 zz1 w2.out a9.tm hty.out
          rw [v2.out] at h9
          exact h9
        replace ke := Lib.hid ke
        replace x9 := Lib.hid x9
        replace a9 := Lib.hid a9
        go_wp2_with fail
        refine ke.out.mono ?_
        rintro e zz2 ⟨rfl, hb⟩
        replace hX := Lib.hid (hX.out.later hb)
        replace hU0 := Lib.hid (hU0.out.later hb)
        replace hU1 := Lib.hid (hU1.out.later hb)
        replace hU2 := Lib.hid (hU2.out.later hb)
        replace hU3 := Lib.hid (hU3.out.later hb)
        replace hrw := Lib.hid (hrw.out.later hb)
        replace a3 := Lib.hid (a3.out.later hb)
        replace hbx := Lib.hid (hbx.out.later hb)
        replace hby := Lib.hid (hby.out.later hb)
        replace hty := Lib.hid (hty.out.later hb)
        clear hb ke a9 x9 c90 c91 c92 c93 d90 d91 d92 d93
        go_wp2_with fail
        go_ret
        exact ⟨rfl, hX.out.below⟩
      clear hK7
      go_region_held3 (fun W => W.cell? ⟨w9.heap.size, 0, none⟩ = some (.string s0) ∧ W.cell? ⟨w9.heap.size, 1, none⟩ = some (.string s1) ∧ W.cell? ⟨w9.heap.size, 2, none⟩ = some (.string s2) ∧ W.cell? ⟨w9.heap.size, 3, none⟩ = some (.string s3)) (first | exact ⟨e0, e1, e2, e3⟩ | exact hc.out _ hbB.out | exact hc.out _ hv.out | exact hc.out _ (hv.out.trans ((X.later_alloc _ _).mono hv.out.size)) | exact hc.out _ (set4_below hv.out (Nat.le_refl _))) (first
        | (go_at_call 15
           refine (kp.out _ hbA.out).mono ?_
           rintro e v1 ⟨rfl, hb⟩
           have hv := Lib.hid (hbA.out.trans (hb.mono hbA.out.size))
           have hend := fun y74 y75 y76 y77 y78 y79 y80 y81 y82 y83 y84 y85 y86 y87 y88 y89 y90 => hA.out v1.heap.size none 0 _ y74 y75 y76 y77 y78 y79 y80 y81 y82 y83 y84 y85 y86 y87 y88 y89 y90 ((hX.out.later hv.out).add (T0_at v1 _)) ((hU0.out.later hv.out).later (X.later_alloc _ _)) ((hU1.out.later hv.out).later (X.later_alloc _ _)) ((hU2.out.later hv.out).later (X.later_alloc _ _)) ((hU3.out.later hv.out).later (X.later_alloc _ _)) ((hrw.out.later hv.out).later (X.later_alloc _ _))
           replace hend := Lib.hid hend
           clear hb)
        | (go_at_call 15
           refine (kp.out _ hbB.out).mono ?_
           rintro e v1 ⟨rfl, hb⟩
           have hv := Lib.hid (hbB.out.trans (hb.mono hbB.out.size))
           have hz9 := hzB.out v1 hb
           have f0 := frozen_of_row hz9 0
           have f1 := frozen_of_row hz9 1
           have f2 := frozen_of_row hz9 2
           have f3 := frozen_of_row hz9 3
           have g0 := cell_of_row v1 u2.heap.size 0 _ _ _ hz9
           have g1 := cell_of_row v1 u2.heap.size 1 _ _ _ hz9
           have g2 := cell_of_row v1 u2.heap.size 2 _ _ _ hz9
           have g3 := cell_of_row v1 u2.heap.size 3 _ _ _ hz9
           have hq9 := set4_below (v0 := .int .i64 T0.kind) (v1 := .string T0.name) (v2 := .int .i64 T0.num) (v3 := .slice none T0.kids.length 0) hv.out (Nat.le_refl _)
           have hend := fun y74 y75 y76 y77 y78 y79 y80 y81 y82 y83 y84 y85 y86 y87 y88 y89 y90 => hA.out u2.heap.size none 0 _ y74 y75 y76 y77 y78 y79 y80 y81 y82 y83 y84 y85 y86 y87 y88 y89 y90 (hX.out.put hv.out hz9 hsB.out (T0_at v1 _)) (hU0.out.later hq9) (hU1.out.later hq9) (hU2.out.later hq9) (hU3.out.later hq9) (hrw.out.later hq9)
           replace hend := Lib.hid hend
           clear hq9
           replace hz9 := Lib.hid hz9
           clear hb))
      all_goals exact hend.out _ _ _ _ _ _ _ _ _ _ _ _ _ _ _ _ _
    clear hK6
    go_region_held3 (fun W => W.cell? ⟨w9.heap.size, 0, none⟩ = some (.string s0) ∧ W.cell? ⟨w9.heap.size, 1, none⟩ = some (.string s1) ∧ W.cell? ⟨w9.heap.size, 2, none⟩ = some (.string s2) ∧ W.cell? ⟨w9.heap.size, 3, none⟩ = some (.string s3)) (first | exact ⟨e0, e1, e2, e3⟩ | exact hc.out _ hbB.out | exact hc.out _ hv.out | exact hc.out _ (hv.out.trans ((X.later_alloc _ _).mono hv.out.size)) | exact hc.out _ (set4_below hv.out (Nat.le_refl _))) (first
      | (go_at_call 15
         refine (kp.out _ hbA.out).mono ?_
         rintro e v1 ⟨P1, p1, rfl, hb, hT, _⟩
         have hv := Lib.hid (hbA.out.trans (hb.mono hbA.out.size))
         have hend := fun y54 y55 y56 y57 y58 y59 y60 y61 y62 y63 y64 y65 y66 y67 y68 y69 y70 y71 y72 y73 => hA.out v1.heap.size P1 p1 _ y54 y55 y56 y57 y58 y59 y60 y61 y62 y63 y64 y65 y66 y67 y68 y69 y70 y71 y72 y73 ((hX.out.later hv.out).add (hT.kept (fun _ h => h.2) (fun _ _ => rfl))) ((hU0.out.later hv.out).later (X.later_alloc _ _)) ((hU1.out.later hv.out).later (X.later_alloc _ _)) ((hU2.out.later hv.out).later (X.later_alloc _ _)) ((hU3.out.later hv.out).later (X.later_alloc _ _)) ((hrw.out.later hv.out).later (X.later_alloc _ _))
         replace hend := Lib.hid hend
         clear hb hT)
      | (go_at_call 15
         refine (kp.out _ hbB.out).mono ?_
         rintro e v1 ⟨P1, p1, rfl, hb, hT, _⟩
         have hv := Lib.hid (hbB.out.trans (hb.mono hbB.out.size))
         have hz9 := hzB.out v1 hb
         have f0 := frozen_of_row hz9 0
         have f1 := frozen_of_row hz9 1
         have f2 := frozen_of_row hz9 2
         have f3 := frozen_of_row hz9 3
         have g0 := cell_of_row v1 u1.heap.size 0 _ _ _ hz9
         have g1 := cell_of_row v1 u1.heap.size 1 _ _ _ hz9
         have g2 := cell_of_row v1 u1.heap.size 2 _ _ _ hz9
         have g3 := cell_of_row v1 u1.heap.size 3 _ _ _ hz9
         have hq9 := set4_below (v0 := .int .i64 x2.kind) (v1 := .string x2.name) (v2 := .int .i64 x2.num) (v3 := .slice P1 x2.kids.length p1) hv.out (Nat.le_refl _)
         have hend := fun y54 y55 y56 y57 y58 y59 y60 y61 y62 y63 y64 y65 y66 y67 y68 y69 y70 y71 y72 y73 => hA.out u1.heap.size P1 p1 _ y54 y55 y56 y57 y58 y59 y60 y61 y62 y63 y64 y65 y66 y67 y68 y69 y70 y71 y72 y73 (hX.out.put hv.out hz9 hsB.out hT) (hU0.out.later hq9) (hU1.out.later hq9) (hU2.out.later hq9) (hU3.out.later hq9) (hrw.out.later hq9)
         replace hend := Lib.hid hend
         clear hq9
         replace hz9 := Lib.hid hz9
         clear hb hT))
    all_goals exact hend.out _ _ _ _ _ _ _ _ _ _ _ _ _ _ _ _ _ _ _ _
  clear hK5
  go_region_held3 (fun W => W.cell? ⟨w9.heap.size, 0, none⟩ = some (.string s0) ∧ W.cell? ⟨w9.heap.size, 1, none⟩ = some (.string s1) ∧ W.cell? ⟨w9.heap.size, 2, none⟩ = some (.string s2) ∧ W.cell? ⟨w9.heap.size, 3, none⟩ = some (.string s3)) (first | exact ⟨e0, e1, e2, e3⟩ | exact hc.out _ hbB.out | exact hc.out _ hv.out | exact hc.out _ (hv.out.trans ((X.later_alloc _ _).mono hv.out.size)) | exact hc.out _ (set4_below hv.out (Nat.le_refl _))) (first
    | (go_at_call 15
       refine (kp.out _ hbA.out).mono ?_
       rintro e v1 ⟨P1, p1, rfl, hb, hT, _⟩
       have hv := Lib.hid (hbA.out.trans (hb.mono hbA.out.size))
       have hend := fun y19 y20 y21 y22 y23 y24 y25 y26 y27 y28 y29 y30 y31 y32 y33 y34 y35 y36 y37 y38 y39 y40 y41 y42 y43 y44 y45 y46 y47 y48 y49 y50 y51 y52 y53 => hA.out v1.heap.size P1 p1 _ y19 y20 y21 y22 y23 y24 y25 y26 y27 y28 y29 y30 y31 y32 y33 y34 y35 y36 y37 y38 y39 y40 y41 y42 y43 y44 y45 y46 y47 y48 y49 y50 y51 y52 y53 ((hX.out.later hv.out).add (hT.kept (fun _ h => h.2) (fun _ _ => rfl))) ((hU0.out.later hv.out).later (X.later_alloc _ _)) ((hU1.out.later hv.out).later (X.later_alloc _ _)) ((hU2.out.later hv.out).later (X.later_alloc _ _)) ((hU3.out.later hv.out).later (X.later_alloc _ _)) ((hrw.out.later hv.out).later (X.later_alloc _ _))
       replace hend := Lib.hid hend
       clear hb hT)
    | (go_at_call 15
       refine (kp.out _ hbB.out).mono ?_
       rintro e v1 ⟨P1, p1, rfl, hb, hT, _⟩
       have hv := Lib.hid (hbB.out.trans (hb.mono hbB.out.size))
       have hz9 := hzB.out v1 hb
       have f0 := frozen_of_row hz9 0
       have f1 := frozen_of_row hz9 1
       have f2 := frozen_of_row hz9 2
       have f3 := frozen_of_row hz9 3
       have g0 := cell_of_row v1 VR.heap.size 0 _ _ _ hz9
       have g1 := cell_of_row v1 VR.heap.size 1 _ _ _ hz9
       have g2 := cell_of_row v1 VR.heap.size 2 _ _ _ hz9
       have g3 := cell_of_row v1 VR.heap.size 3 _ _ _ hz9
       have hq9 := set4_below (v0 := .int .i64 x1.kind) (v1 := .string x1.name) (v2 := .int .i64 x1.num) (v3 := .slice P1 x1.kids.length p1) hv.out (Nat.le_refl _)
       have hend := fun y19 y20 y21 y22 y23 y24 y25 y26 y27 y28 y29 y30 y31 y32 y33 y34 y35 y36 y37 y38 y39 y40 y41 y42 y43 y44 y45 y46 y47 y48 y49 y50 y51 y52 y53 => hA.out VR.heap.size P1 p1 _ y19 y20 y21 y22 y23 y24 y25 y26 y27 y28 y29 y30 y31 y32 y33 y34 y35 y36 y37 y38 y39 y40 y41 y42 y43 y44 y45 y46 y47 y48 y49 y50 y51 y52 y53 (hX.out.put hv.out hz9 hsB.out hT) (hU0.out.later hq9) (hU1.out.later hq9) (hU2.out.later hq9) (hU3.out.later hq9) (hrw.out.later hq9)
       replace hend := Lib.hid hend
       clear hq9
       replace hz9 := Lib.hid hz9
       clear hb hT))
  all_goals exact hend.out _ _ _ _ _ _ _ _ _ _ _ _ _ _ _ _ _ _ _ _ _ _ _ _ _ _ _ _ _ _ _ _ _ _ _
end Go.Proofs.YtpdombmpmhnolaaGreatDoor.Pa
