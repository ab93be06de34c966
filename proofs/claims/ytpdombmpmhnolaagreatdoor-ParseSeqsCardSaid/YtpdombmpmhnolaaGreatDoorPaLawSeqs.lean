/-
  ParseSeqs's walk: true of whatever bytes. Conditions: the variables that are read lie as laid; what comes in can be read.
-/
import Derived.Test.YtpdombmpmhnolaaGreatDoorPaPr
namespace Go.Proofs.YtpdombmpmhnolaaGreatDoor.Pa
open Go.RowKit Go.Shelf Go.Tm Go.Lx Go.Maps
attribute [local go_sem] Oper.semAt_some

set_option maxRecDepth 100000 in
set_option maxHeartbeats 4000000 in
theorem parseSeqs_any (A0 : Option Addr) (zs0 : List Int) (c0 : Nat) (A1 : Option Addr) (zs1 : List Int) (c1 : Nat) (A2 : Option Addr) (zs2 : List Int) (c2 : Nat) (w : World) (hE : EnvP w) (hU0 : BtsS w A0 zs0) (hz0 : ∀ z ∈ zs0, 0 ≤ z ∧ z ≤ 255) (hl0 : zs0.length ≤ 9223372036854775807) (hc0 : zs0.length ≤ c0) (hd0 : c0 ≤ 9223372036854775807) (hU1 : BtsS w A1 zs1) (hz1 : ∀ z ∈ zs1, 0 ≤ z ∧ z ≤ 255) (hl1 : zs1.length ≤ 9223372036854775807) (hc1 : zs1.length ≤ c1) (hd1 : c1 ≤ 9223372036854775807) (hU2 : BtsS w A2 zs2) (hz2 : ∀ z ∈ zs2, 0 ≤ z ∧ z ≤ 255) (hl2 : zs2.length ≤ 9223372036854775807) (hc2 : zs2.length ≤ c2) (hd2 : c2 ≤ 9223372036854775807) :
    Calls Tryz.prog 7 #[.slice A0 zs0.length c0, .slice A1 zs1.length c1, .slice A2 zs2.length c2] w fun e w' => e = .returned (.bool true) ∧ Below w.heap.size w w' := by
  have hX := Lib.hid (Bx.new hE)
  have km0 := Lib.hid (fun W h => made_any A0 zs0 c0 W h hz0 hl0 hc0 hd0)
  replace hU0 := Lib.hid hU0
  have km1 := Lib.hid (fun W h => made_any A1 zs1 c1 W h hz1 hl1 hc1 hd1)
  replace hU1 := Lib.hid hU1
  have km2 := Lib.hid (fun W h => made_any A2 zs2 c2 W h hz2 hl2 hc2 hd2)
  replace hU2 := Lib.hid hU2
  clear hE hz0 hl0 hc0 hd0 hz1 hl1 hc1 hd1 hz2 hl2 hc2 hd2
  obtain ⟨N0, hN0⟩ : ∃ N, zs0.length = N := ⟨_, rfl⟩
  rw [hN0] at km0 ⊢
  replace hN0 := Lib.hid hN0
  obtain ⟨N1, hN1⟩ : ∃ N, zs1.length = N := ⟨_, rfl⟩
  rw [hN1] at km1 ⊢
  replace hN1 := Lib.hid hN1
  obtain ⟨N2, hN2⟩ : ∃ N, zs2.length = N := ⟨_, rfl⟩
  rw [hN2] at km2 ⊢
  replace hN2 := Lib.hid hN2
  go_enter Tryz.func7, Tryz.ntmps7
  go_wp2_with fail
  refine (examplesP_any _ hX.out.env).mono ?_
  rintro e w1 ⟨rfl, hb⟩
  replace hX := Lib.hid (hX.out.later hb)
  replace hU0 := Lib.hid (hU0.out.later hb)
  replace hU1 := Lib.hid (hU1.out.later hb)
  replace hU2 := Lib.hid (hU2.out.later hb)
  clear hb
  replace km0 := Lib.hid (km0.out w1 hU0.out)
  unfold tmV at km0
  clear hU0
  go_wp2_with fail
  refine km0.out.mono ?_
  rintro e m0 ⟨t0, B0, d0, rfl, hr0, hs0, hp0, hb, hT⟩
  replace hT := TmV.wide hT
  replace hX := Lib.hid (hX.out.later hb)
  replace hU1 := Lib.hid (hU1.out.later hb)
  replace hU2 := Lib.hid (hU2.out.later hb)
  clear km0
  have hz1 := Lib.hid hX.out.below.size
  replace hX := Lib.hid (hX.out.add hT)
  obtain ⟨V1, hV1⟩ : ∃ W, m0.alloc (.cells #[.int .i64 t0.kind, .string t0.name, .int .i64 t0.num, .slice B0 t0.kids.length d0] 26) = W := ⟨_, rfl⟩
  replace hX : Hid (Bx w (⟨t0, B0, d0, m0.heap.size⟩ :: []) V1) := by rw [← hV1]; exact hX
  replace hU1 := by have h9 := hU1.out.later (X.later_alloc m0 (.cells #[.int .i64 t0.kind, .string t0.name, .int .i64 t0.num, .slice B0 t0.kids.length d0] 26)); rw [hV1] at h9; exact Lib.hid h9
  replace hU2 := by have h9 := hU2.out.later (X.later_alloc m0 (.cells #[.int .i64 t0.kind, .string t0.name, .int .i64 t0.num, .slice B0 t0.kids.length d0] 26)); rw [hV1] at h9; exact Lib.hid h9
  clear hb hT
  replace hr0 := Lib.hid hr0
  replace hp0 := Lib.hid hp0
  replace hs0 := Lib.hid hs0
  replace km1 := Lib.hid (km1.out V1 hU1.out)
  unfold tmV at km1
  clear hU1
  go_wp2_with fail
  replace hV1 := Lib.hid hV1
  refine km1.out.mono ?_
  rintro e m1 ⟨t1, B1, d1, rfl, hr1, hs1, hp1, hb, hT⟩
  replace hT := TmV.wide hT
  replace hX := Lib.hid (hX.out.later hb)
  replace hU2 := Lib.hid (hU2.out.later hb)
  clear km1
  have hz2 := Lib.hid hX.out.below.size
  replace hX := Lib.hid (hX.out.add hT)
  obtain ⟨V2, hV2⟩ : ∃ W, m1.alloc (.cells #[.int .i64 t1.kind, .string t1.name, .int .i64 t1.num, .slice B1 t1.kids.length d1] 26) = W := ⟨_, rfl⟩
  replace hX : Hid (Bx w (⟨t1, B1, d1, m1.heap.size⟩ :: (⟨t0, B0, d0, m0.heap.size⟩ :: [])) V2) := by rw [← hV2]; exact hX
  replace hU2 := by have h9 := hU2.out.later (X.later_alloc m1 (.cells #[.int .i64 t1.kind, .string t1.name, .int .i64 t1.num, .slice B1 t1.kids.length d1] 26)); rw [hV2] at h9; exact Lib.hid h9
  clear hb hT
  replace hr1 := Lib.hid hr1
  replace hp1 := Lib.hid hp1
  replace hs1 := Lib.hid hs1
  replace km2 := Lib.hid (km2.out V2 hU2.out)
  unfold tmV at km2
  clear hU2
  go_wp2_with fail
  replace hV2 := Lib.hid hV2
  refine km2.out.mono ?_
  rintro e m2 ⟨t2, B2, d2, rfl, hr2, hs2, hp2, hb, hT⟩
  replace hT := TmV.wide hT
  replace hX := Lib.hid (hX.out.later hb)
  clear km2
  have hz3 := Lib.hid hX.out.below.size
  replace hX := Lib.hid (hX.out.add hT)
  obtain ⟨V3, hV3⟩ : ∃ W, m2.alloc (.cells #[.int .i64 t2.kind, .string t2.name, .int .i64 t2.num, .slice B2 t2.kids.length d2] 26) = W := ⟨_, rfl⟩
  replace hX : Hid (Bx w (⟨t2, B2, d2, m2.heap.size⟩ :: (⟨t1, B1, d1, m1.heap.size⟩ :: (⟨t0, B0, d0, m0.heap.size⟩ :: []))) V3) := by rw [← hV3]; exact hX
  clear hb hT
  replace hr2 := Lib.hid hr2
  replace hp2 := Lib.hid hp2
  replace hs2 := Lib.hid hs2
  have hR0 := small_right hr0.out hs0.out hp0.out
  have htz0 := (small_told hr0.out hs0.out hp0.out).2
  have hne0 := toks_ne hr0.out
  have hsp0 := show_pS hR0
  have hri0 := toks_right hr0.out
  have hz09 := hs0.out
  have hR1 := small_right hr1.out hs1.out hp1.out
  have htz1 := (small_told hr1.out hs1.out hp1.out).2
  have hne1 := toks_ne hr1.out
  have hsp1 := show_pS hR1
  have hri1 := toks_right hr1.out
  have hz19 := hs1.out
  have hR2 := small_right hr2.out hs2.out hp2.out
  have htz2 := (small_told hr2.out hs2.out hp2.out).2
  have hne2 := toks_ne hr2.out
  have hsp2 := show_pS hR2
  have hri2 := toks_right hr2.out
  have hz29 := hs2.out
  have htold := told_seqs hR0 hR1 hR2 (by omega) (by have := hp0.out; have := hp1.out; have := hp2.out; omega)
  have htx := seq_pS hne0 hne1 hne2
  have hrx := right_seqL3 hri0 hri1 hri2
  rw [hsp0] at htz0
  rw [hsp1] at htz1
  rw [hsp2] at htz2
  have hzx : (pS (seqL3 (toksT t0) (toksT t1) (toksT t2))).size ≤ 60000 := by
    rw [← htx]
    simp only [ByteArray.size_append]
    show 2 + _ + 7 + _ + 5 + _ ≤ _
    omega
  have hts := toldS_print hrx (by omega) htold
  obtain ⟨s0, hs90⟩ : ∃ s, pS (toksT t0) = s := ⟨_, rfl⟩
  rw [hs90] at hsp0 htx htz0
  obtain ⟨s1, hs91⟩ : ∃ s, pS (toksT t1) = s := ⟨_, rfl⟩
  rw [hs91] at hsp1 htx htz1
  obtain ⟨s2, hs92⟩ : ∃ s, pS (toksT t2) = s := ⟨_, rfl⟩
  rw [hs92] at hsp2 htx htz2
  obtain ⟨sx, hsx⟩ : ∃ s, pS (seqL3 (toksT t0) (toksT t1) (toksT t2)) = s := ⟨_, rfl⟩
  rw [hsx] at htx hts hzx
  have KS : Hid (∀ (S : BS w (⟨t2, B2, d2, m2.heap.size⟩ :: (⟨t1, B1, d1, m1.heap.size⟩ :: (⟨t0, B0, d0, m0.heap.size⟩ :: [])))) (v r : Value), ((v = .agg #[.int .i64 t0.kind, .string t0.name, .int .i64 t0.num, .slice B0 t0.kids.length d0] ∧ r = .string s0) ∨ (v = .agg #[.int .i64 t1.kind, .string t1.name, .int .i64 t1.num, .slice B1 t1.kids.length d1] ∧ r = .string s1) ∨ (v = .agg #[.int .i64 t2.kind, .string t2.name, .int .i64 t2.num, .slice B2 t2.kids.length d2] ∧ r = .string s2)) → Calls Tryz.prog 20 #[v] S.W fun e w'' => e = .returned r ∧ ∃ S' : BS w (⟨t2, B2, d2, m2.heap.size⟩ :: (⟨t1, B1, d1, m1.heap.size⟩ :: (⟨t0, B0, d0, m0.heap.size⟩ :: []))), w'' = S'.W) := fun S v r hv => by
    rcases hv with ⟨rfl, rfl⟩ | ⟨rfl, rfl⟩ | ⟨rfl, rfl⟩
    · exact (show_any t0 B0 d0 S.W S.ok.env.s (by omega) (S.ok.at_ ⟨t0, B0, d0, m0.heap.size⟩ (by simp)).tm).mono fun e w' h9 => ⟨by rw [h9.1, hsp0], ⟨w', S.ok.later h9.2⟩, rfl⟩
    · exact (show_any t1 B1 d1 S.W S.ok.env.s (by omega) (S.ok.at_ ⟨t1, B1, d1, m1.heap.size⟩ (by simp)).tm).mono fun e w' h9 => ⟨by rw [h9.1, hsp1], ⟨w', S.ok.later h9.2⟩, rfl⟩
    · exact (show_any t2 B2 d2 S.W S.ok.env.s (by omega) (S.ok.at_ ⟨t2, B2, d2, m2.heap.size⟩ (by simp)).tm).mono fun e w' h9 => ⟨by rw [h9.1, hsp2], ⟨w', S.ok.later h9.2⟩, rfl⟩
  have y0 : ¬ 9223372036854775807 < 2 + s0.size := by omega
  have y1 : ¬ 9223372036854775807 < 2 + s0.size + 7 := by omega
  have y2 : ¬ 9223372036854775807 < 2 + s0.size + 7 + s1.size := by omega
  have y3 : ¬ 9223372036854775807 < 2 + s0.size + 7 + s1.size + 5 := by omega
  have y4 : ¬ 9223372036854775807 < 2 + s0.size + 7 + s1.size + 5 + s2.size := by omega
  have f0 : ∀ S : BS w (⟨t2, B2, d2, m2.heap.size⟩ :: (⟨t1, B1, d1, m1.heap.size⟩ :: (⟨t0, B0, d0, m0.heap.size⟩ :: []))), TB.At S.W ⟨t0, B0, d0, m0.heap.size⟩ := fun S => S.ok.at_ _ (by simp)
  have q00 : ∀ S : BS w (⟨t2, B2, d2, m2.heap.size⟩ :: (⟨t1, B1, d1, m1.heap.size⟩ :: (⟨t0, B0, d0, m0.heap.size⟩ :: []))), S.W.cell? ⟨m0.heap.size, 0, none⟩ = some (.int .i64 t0.kind) := fun S => cell_of_row S.W (m0.heap.size) 0 _ _ _ (f0 S).box
  have q01 : ∀ S : BS w (⟨t2, B2, d2, m2.heap.size⟩ :: (⟨t1, B1, d1, m1.heap.size⟩ :: (⟨t0, B0, d0, m0.heap.size⟩ :: []))), S.W.cell? ⟨m0.heap.size, 1, none⟩ = some (.string t0.name) := fun S => cell_of_row S.W (m0.heap.size) 1 _ _ _ (f0 S).box
  have q02 : ∀ S : BS w (⟨t2, B2, d2, m2.heap.size⟩ :: (⟨t1, B1, d1, m1.heap.size⟩ :: (⟨t0, B0, d0, m0.heap.size⟩ :: []))), S.W.cell? ⟨m0.heap.size, 2, none⟩ = some (.int .i64 t0.num) := fun S => cell_of_row S.W (m0.heap.size) 2 _ _ _ (f0 S).box
  have q03 : ∀ S : BS w (⟨t2, B2, d2, m2.heap.size⟩ :: (⟨t1, B1, d1, m1.heap.size⟩ :: (⟨t0, B0, d0, m0.heap.size⟩ :: []))), S.W.cell? ⟨m0.heap.size, 3, none⟩ = some (.slice B0 t0.kids.length d0) := fun S => cell_of_row S.W (m0.heap.size) 3 _ _ _ (f0 S).box
  replace f0 := Lib.hid f0
  have f1 : ∀ S : BS w (⟨t2, B2, d2, m2.heap.size⟩ :: (⟨t1, B1, d1, m1.heap.size⟩ :: (⟨t0, B0, d0, m0.heap.size⟩ :: []))), TB.At S.W ⟨t1, B1, d1, m1.heap.size⟩ := fun S => S.ok.at_ _ (by simp)
  have q10 : ∀ S : BS w (⟨t2, B2, d2, m2.heap.size⟩ :: (⟨t1, B1, d1, m1.heap.size⟩ :: (⟨t0, B0, d0, m0.heap.size⟩ :: []))), S.W.cell? ⟨m1.heap.size, 0, none⟩ = some (.int .i64 t1.kind) := fun S => cell_of_row S.W (m1.heap.size) 0 _ _ _ (f1 S).box
  have q11 : ∀ S : BS w (⟨t2, B2, d2, m2.heap.size⟩ :: (⟨t1, B1, d1, m1.heap.size⟩ :: (⟨t0, B0, d0, m0.heap.size⟩ :: []))), S.W.cell? ⟨m1.heap.size, 1, none⟩ = some (.string t1.name) := fun S => cell_of_row S.W (m1.heap.size) 1 _ _ _ (f1 S).box
  have q12 : ∀ S : BS w (⟨t2, B2, d2, m2.heap.size⟩ :: (⟨t1, B1, d1, m1.heap.size⟩ :: (⟨t0, B0, d0, m0.heap.size⟩ :: []))), S.W.cell? ⟨m1.heap.size, 2, none⟩ = some (.int .i64 t1.num) := fun S => cell_of_row S.W (m1.heap.size) 2 _ _ _ (f1 S).box
  have q13 : ∀ S : BS w (⟨t2, B2, d2, m2.heap.size⟩ :: (⟨t1, B1, d1, m1.heap.size⟩ :: (⟨t0, B0, d0, m0.heap.size⟩ :: []))), S.W.cell? ⟨m1.heap.size, 3, none⟩ = some (.slice B1 t1.kids.length d1) := fun S => cell_of_row S.W (m1.heap.size) 3 _ _ _ (f1 S).box
  replace f1 := Lib.hid f1
  have f2 : ∀ S : BS w (⟨t2, B2, d2, m2.heap.size⟩ :: (⟨t1, B1, d1, m1.heap.size⟩ :: (⟨t0, B0, d0, m0.heap.size⟩ :: []))), TB.At S.W ⟨t2, B2, d2, m2.heap.size⟩ := fun S => S.ok.at_ _ (by simp)
  have q20 : ∀ S : BS w (⟨t2, B2, d2, m2.heap.size⟩ :: (⟨t1, B1, d1, m1.heap.size⟩ :: (⟨t0, B0, d0, m0.heap.size⟩ :: []))), S.W.cell? ⟨m2.heap.size, 0, none⟩ = some (.int .i64 t2.kind) := fun S => cell_of_row S.W (m2.heap.size) 0 _ _ _ (f2 S).box
  have q21 : ∀ S : BS w (⟨t2, B2, d2, m2.heap.size⟩ :: (⟨t1, B1, d1, m1.heap.size⟩ :: (⟨t0, B0, d0, m0.heap.size⟩ :: []))), S.W.cell? ⟨m2.heap.size, 1, none⟩ = some (.string t2.name) := fun S => cell_of_row S.W (m2.heap.size) 1 _ _ _ (f2 S).box
  have q22 : ∀ S : BS w (⟨t2, B2, d2, m2.heap.size⟩ :: (⟨t1, B1, d1, m1.heap.size⟩ :: (⟨t0, B0, d0, m0.heap.size⟩ :: []))), S.W.cell? ⟨m2.heap.size, 2, none⟩ = some (.int .i64 t2.num) := fun S => cell_of_row S.W (m2.heap.size) 2 _ _ _ (f2 S).box
  have q23 : ∀ S : BS w (⟨t2, B2, d2, m2.heap.size⟩ :: (⟨t1, B1, d1, m1.heap.size⟩ :: (⟨t0, B0, d0, m0.heap.size⟩ :: []))), S.W.cell? ⟨m2.heap.size, 3, none⟩ = some (.slice B2 t2.kids.length d2) := fun S => cell_of_row S.W (m2.heap.size) 3 _ _ _ (f2 S).box
  replace f2 := Lib.hid f2
  replace hR0 := Lib.hid hR0
  replace hne0 := Lib.hid hne0
  replace hsp0 := Lib.hid hsp0
  replace hri0 := Lib.hid hri0
  replace hs90 := Lib.hid hs90
  replace hz09 := Lib.hid hz09
  replace htz0 := Lib.hid htz0
  replace hR1 := Lib.hid hR1
  replace hne1 := Lib.hid hne1
  replace hsp1 := Lib.hid hsp1
  replace hri1 := Lib.hid hri1
  replace hs91 := Lib.hid hs91
  replace hz19 := Lib.hid hz19
  replace htz1 := Lib.hid htz1
  replace hR2 := Lib.hid hR2
  replace hne2 := Lib.hid hne2
  replace hsp2 := Lib.hid hsp2
  replace hri2 := Lib.hid hri2
  replace hs92 := Lib.hid hs92
  replace hz29 := Lib.hid hz29
  replace htz2 := Lib.hid htz2
  replace htold := Lib.hid htold
  replace htx := Lib.hid htx
  replace hrx := Lib.hid hrx
  replace hzx := Lib.hid hzx
  replace hts := Lib.hid hts
  replace hsx := Lib.hid hsx
  haveI : Nonempty (BS w (⟨t2, B2, d2, m2.heap.size⟩ :: (⟨t1, B1, d1, m1.heap.size⟩ :: (⟨t0, B0, d0, m0.heap.size⟩ :: [])))) := ⟨⟨_, hX.out⟩⟩
  go_wp2_with fail
  replace hV3 := Lib.hid hV3
  refine wp_region_quiet_in (S := BS w (⟨t2, B2, d2, m2.heap.size⟩ :: (⟨t1, B1, d1, m1.heap.size⟩ :: (⟨t0, B0, d0, m0.heap.size⟩ :: [])))) (fun s => s.W) (by kernel_rfl) (by kernel_rfl) ⟨⟨_, hX.out.later (Below.refl _ _).drew⟩, rfl⟩ ?_
  repeat (go_big_quiet_step ((go_at_call 20; exact KS.out _ _ _ (by first | exact .inl ⟨rfl, rfl⟩ | exact .inr (.inl ⟨rfl, rfl⟩) | exact .inr (.inr ⟨rfl, rfl⟩)))))
  refine wpQuiet_nil ?_
  rintro _ ⟨S, rfl⟩
  clear hX KS
  have hX := Lib.hid S.ok
  generalize S.W = W4 at hX ⊢
  clear q00
  clear q01
  clear q02
  clear q03
  clear f0
  clear q10
  clear q11
  clear q12
  clear q13
  clear f1
  clear q20
  clear q21
  clear q22
  clear q23
  clear f2
  obtain ⟨tw, htw⟩ : ∃ t, Go.Tm.T.node 13 ⟨#[]⟩ 0 [t0, .node 13 ⟨#[]⟩ 0 [t1, t2]] = t := ⟨_, rfl⟩
  have kp : Calls Tryz.prog 15 #[.string sx] W4 fun e w' => ∃ B d, e = .returned (.tuple #[.agg #[.int .i64 13, .string ⟨#[]⟩, .int .i64 0, .slice B 2 d], .int .i64 0]) ∧ Below W4.heap.size W4 w' ∧ TmV w' (· < w'.heap.size) tw B d ∧ tw.size ≤ 10000 := by
    rw [← htw]
    exact parse_ok hts.out W4 hX.out.env (by have := hzx.out; omega)
  replace kp := Lib.hid kp
  go_wp2_with fail
  rw [htx.out]
  refine kp.out.mono ?_
  rintro e w5 ⟨P, p, rfl, hb, hT, hz9⟩
  replace hz9 := Lib.hid hz9
  replace hX := Lib.hid (hX.out.later hb)
  have hz4 := Lib.hid hX.out.below.size
  replace hX := Lib.hid (hX.out.add hT)
  obtain ⟨V4, hV4⟩ : ∃ W, w5.alloc (.cells #[.int .i64 13, .string ⟨#[]⟩, .int .i64 0, .slice P 2 p] 26) = W := ⟨_, rfl⟩
  replace hX : Hid (Bx w (⟨tw, P, p, w5.heap.size⟩ :: (⟨t2, B2, d2, m2.heap.size⟩ :: (⟨t1, B1, d1, m1.heap.size⟩ :: (⟨t0, B0, d0, m0.heap.size⟩ :: [])))) V4) := by rw [← hV4]; subst htw; exact hX
  clear hb hT kp
  have a0 : TB.At V4 ⟨t0, B0, d0, m0.heap.size⟩ := hX.out.at_ _ (by simp)
  have x0 : V4.heap[m0.heap.size]? = some (.cells #[.int .i64 t0.kind, .string t0.name, .int .i64 t0.num, .slice B0 t0.kids.length d0] 26 (0, 0)) := a0.box
  have c00 := cell_of_row V4 (m0.heap.size) 0 _ _ _ x0
  have c01 := cell_of_row V4 (m0.heap.size) 1 _ _ _ x0
  have c02 := cell_of_row V4 (m0.heap.size) 2 _ _ _ x0
  have c03 := cell_of_row V4 (m0.heap.size) 3 _ _ _ x0
  replace x0 := Lib.hid x0
  replace a0 := Lib.hid a0
  have a1 : TB.At V4 ⟨t1, B1, d1, m1.heap.size⟩ := hX.out.at_ _ (by simp)
  have x1 : V4.heap[m1.heap.size]? = some (.cells #[.int .i64 t1.kind, .string t1.name, .int .i64 t1.num, .slice B1 t1.kids.length d1] 26 (0, 0)) := a1.box
  have c10 := cell_of_row V4 (m1.heap.size) 0 _ _ _ x1
  have c11 := cell_of_row V4 (m1.heap.size) 1 _ _ _ x1
  have c12 := cell_of_row V4 (m1.heap.size) 2 _ _ _ x1
  have c13 := cell_of_row V4 (m1.heap.size) 3 _ _ _ x1
  replace x1 := Lib.hid x1
  replace a1 := Lib.hid a1
  have a2 : TB.At V4 ⟨t2, B2, d2, m2.heap.size⟩ := hX.out.at_ _ (by simp)
  have x2 : V4.heap[m2.heap.size]? = some (.cells #[.int .i64 t2.kind, .string t2.name, .int .i64 t2.num, .slice B2 t2.kids.length d2] 26 (0, 0)) := a2.box
  have c20 := cell_of_row V4 (m2.heap.size) 0 _ _ _ x2
  have c21 := cell_of_row V4 (m2.heap.size) 1 _ _ _ x2
  have c22 := cell_of_row V4 (m2.heap.size) 2 _ _ _ x2
  have c23 := cell_of_row V4 (m2.heap.size) 3 _ _ _ x2
  replace x2 := Lib.hid x2
  replace a2 := Lib.hid a2
  obtain ⟨U1, hU1⟩ : ∃ W, V4.alloc (.cells #[.int .i64 t1.kind, .string t1.name, .int .i64 t1.num, .slice B1 t1.kids.length d1, .int .i64 t2.kind, .string t2.name, .int .i64 t2.num, .slice B2 t2.kids.length d2] 26) = W := ⟨_, rfl⟩
  obtain ⟨U2, hU2⟩ : ∃ W, U1.alloc (.cells #[.int .i64 t0.kind, .string t0.name, .int .i64 t0.num, .slice B0 t0.kids.length d0, .int .i64 13, .string ⟨#[]⟩, .int .i64 0, .slice (some ⟨V4.heap.size, 0, none⟩) 2 2] 26) = W := ⟨_, rfl⟩
  have k1 := X.later_alloc V4 (.cells #[.int .i64 t1.kind, .string t1.name, .int .i64 t1.num, .slice B1 t1.kids.length d1, .int .i64 t2.kind, .string t2.name, .int .i64 t2.num, .slice B2 t2.kids.length d2] 26)
  rw [hU1] at k1
  have k2 := X.later_alloc U1 (.cells #[.int .i64 t0.kind, .string t0.name, .int .i64 t0.num, .slice B0 t0.kids.length d0, .int .i64 13, .string ⟨#[]⟩, .int .i64 0, .slice (some ⟨V4.heap.size, 0, none⟩) 2 2] 26)
  rw [hU2] at k2
  have z1 : U1.heap.size = V4.heap.size + 1 := by rw [← hU1]; exact World.size_alloc _ _
  have z2 : U2.heap.size = V4.heap.size + 1 + 1 := by rw [← hU2, ← z1]; exact World.size_alloc _ _
  have r1 := World.alloc_heap_new V4 (.cells #[.int .i64 t1.kind, .string t1.name, .int .i64 t1.num, .slice B1 t1.kids.length d1, .int .i64 t2.kind, .string t2.name, .int .i64 t2.num, .slice B2 t2.kids.length d2] 26)
  rw [hU1] at r1
  have r2 := World.alloc_heap_new U1 (.cells #[.int .i64 t0.kind, .string t0.name, .int .i64 t0.num, .slice B0 t0.kids.length d0, .int .i64 13, .string ⟨#[]⟩, .int .i64 0, .slice (some ⟨V4.heap.size, 0, none⟩) 2 2] 26)
  rw [hU2, z1] at r2
  have hX2 := (hX.out.later k1).later k2
  have b0 := (hX2.at_ ⟨t0, B0, d0, m0.heap.size⟩ (by simp)).tm
  have b1 := (hX2.at_ ⟨t1, B1, d1, m1.heap.size⟩ (by simp)).tm
  have b2 := (hX2.at_ ⟨t2, B2, d2, m2.heap.size⟩ (by simp)).tm
  have hin : TmV U2 (· < U2.heap.size) (.node 13 ⟨#[]⟩ 0 [t1, t2]) (some ⟨V4.heap.size, 0, none⟩) 2 := row_tm (by decide) [(t1, B1, d1), (t2, B2, d2)] 2 (fun x hx => by
    rcases List.mem_cons.1 hx with rfl | hx
    · exact b1
    · obtain rfl := List.mem_singleton.1 hx
      exact b2) ((k2.block _ (World.lt_of_get r1)).trans r1)
  have hout : TmV U2 (· < U2.heap.size) tw (some ⟨V4.heap.size + 1, 0, none⟩) 2 := by
    rw [← htw]
    exact row_tm (by decide) [(t0, B0, d0), (.node 13 ⟨#[]⟩ 0 [t1, t2], some ⟨V4.heap.size, 0, none⟩, 2)] 2 (fun x hx => by
      rcases List.mem_cons.1 hx with rfl | hx
      · exact b0
      · obtain rfl := List.mem_singleton.1 hx
        exact hin) r2
  replace hX := Lib.hid (hX2.add hout)
  obtain ⟨V5, hV5⟩ : ∃ W, U2.alloc (.cells #[.int .i64 13, .string ⟨#[]⟩, .int .i64 0, .slice (some ⟨V4.heap.size + 1, 0, none⟩) 2 2] 26) = W := ⟨_, rfl⟩
  replace hX : Hid (Bx w (⟨tw, (some ⟨V4.heap.size + 1, 0, none⟩), 2, U2.heap.size⟩ :: (⟨tw, P, p, w5.heap.size⟩ :: (⟨t2, B2, d2, m2.heap.size⟩ :: (⟨t1, B1, d1, m1.heap.size⟩ :: (⟨t0, B0, d0, m0.heap.size⟩ :: []))))) V5) := by rw [← hV5]; subst htw; exact hX
  clear b0 b1 b2 hin hout k1 k2 r1 r2 hX2
  have hV9 : ((V4.alloc (.cells #[.int .i64 t1.kind, .string t1.name, .int .i64 t1.num, .slice B1 t1.kids.length d1, .int .i64 t2.kind, .string t2.name, .int .i64 t2.num, .slice B2 t2.kids.length d2] 26)).alloc (.cells #[.int .i64 t0.kind, .string t0.name, .int .i64 t0.num, .slice B0 t0.kids.length d0, .int .i64 13, .string ⟨#[]⟩, .int .i64 0, .slice (some ⟨V4.heap.size, 0, none⟩) 2 2] 26)).alloc (.cells #[.int .i64 13, .string ⟨#[]⟩, .int .i64 0, .slice (some ⟨V4.heap.size + 1, 0, none⟩) 2 2] 26) = V5 := by rw [hU1, hU2, hV5]
  rw [z2] at hX
  replace z1 := Lib.hid z1
  replace z2 := Lib.hid z2
  replace hU1 := Lib.hid hU1
  replace hU2 := Lib.hid hU2
  replace hV5 := Lib.hid hV5
  have v2 : TB.At V5 ⟨t2, B2, d2, m2.heap.size⟩ := hX.out.at_ _ (by simp)
  have vx : V5.heap[m2.heap.size]? = some (.cells #[.int .i64 t2.kind, .string t2.name, .int .i64 t2.num, .slice B2 t2.kids.length d2] 26 (0, 0)) := v2.box
  have v20 := cell_of_row V5 m2.heap.size 0 _ _ _ vx
  replace vx := Lib.hid vx
  clear v2
  replace htw := Lib.hid htw
  have e1 : Hid (tw.kind = 13) := by show _ = _; rw [← htw.out]; rfl
  have e2 : Hid (tw.name = ⟨#[]⟩) := by show _ = _; rw [← htw.out]; rfl
  have e3 : Hid (tw.num = 0) := by show _ = _; rw [← htw.out]; rfl
  have e4 : Hid (tw.kids.length = 2) := by show _ = _; rw [← htw.out]; rfl
  have bb3 : ∀ S : BS w (⟨tw, (some ⟨V4.heap.size + 1, 0, none⟩), 2, (V4.heap.size + 1 + 1)⟩ :: (⟨tw, P, p, w5.heap.size⟩ :: (⟨t2, B2, d2, m2.heap.size⟩ :: (⟨t1, B1, d1, m1.heap.size⟩ :: (⟨t0, B0, d0, m0.heap.size⟩ :: []))))), S.W.heap[w5.heap.size]? = some (.cells #[.int .i64 13, .string ⟨#[]⟩, .int .i64 0, .slice P 2 p] 26 (0, 0)) := fun S => by
    have h9 := (S.ok.at_ ⟨tw, P, p, w5.heap.size⟩ (by simp)).box
    dsimp only at h9
    rw [e1.out, e2.out, e3.out, e4.out] at h9
    exact h9
  have x3 := bb3 ⟨V5, hX.out⟩
  have c30 := cell_of_row V5 w5.heap.size 0 _ _ _ x3
  have c31 := cell_of_row V5 w5.heap.size 1 _ _ _ x3
  have c32 := cell_of_row V5 w5.heap.size 2 _ _ _ x3
  have c33 := cell_of_row V5 w5.heap.size 3 _ _ _ x3
  have q30 : ∀ S : BS w (⟨tw, (some ⟨V4.heap.size + 1, 0, none⟩), 2, (V4.heap.size + 1 + 1)⟩ :: (⟨tw, P, p, w5.heap.size⟩ :: (⟨t2, B2, d2, m2.heap.size⟩ :: (⟨t1, B1, d1, m1.heap.size⟩ :: (⟨t0, B0, d0, m0.heap.size⟩ :: []))))), S.W.cell? ⟨w5.heap.size, 0, none⟩ = some (.int .i64 13) := fun S => cell_of_row S.W w5.heap.size 0 _ _ _ (bb3 S)
  have q31 : ∀ S : BS w (⟨tw, (some ⟨V4.heap.size + 1, 0, none⟩), 2, (V4.heap.size + 1 + 1)⟩ :: (⟨tw, P, p, w5.heap.size⟩ :: (⟨t2, B2, d2, m2.heap.size⟩ :: (⟨t1, B1, d1, m1.heap.size⟩ :: (⟨t0, B0, d0, m0.heap.size⟩ :: []))))), S.W.cell? ⟨w5.heap.size, 1, none⟩ = some (.string ⟨#[]⟩) := fun S => cell_of_row S.W w5.heap.size 1 _ _ _ (bb3 S)
  have q32 : ∀ S : BS w (⟨tw, (some ⟨V4.heap.size + 1, 0, none⟩), 2, (V4.heap.size + 1 + 1)⟩ :: (⟨tw, P, p, w5.heap.size⟩ :: (⟨t2, B2, d2, m2.heap.size⟩ :: (⟨t1, B1, d1, m1.heap.size⟩ :: (⟨t0, B0, d0, m0.heap.size⟩ :: []))))), S.W.cell? ⟨w5.heap.size, 2, none⟩ = some (.int .i64 0) := fun S => cell_of_row S.W w5.heap.size 2 _ _ _ (bb3 S)
  have q33 : ∀ S : BS w (⟨tw, (some ⟨V4.heap.size + 1, 0, none⟩), 2, (V4.heap.size + 1 + 1)⟩ :: (⟨tw, P, p, w5.heap.size⟩ :: (⟨t2, B2, d2, m2.heap.size⟩ :: (⟨t1, B1, d1, m1.heap.size⟩ :: (⟨t0, B0, d0, m0.heap.size⟩ :: []))))), S.W.cell? ⟨w5.heap.size, 3, none⟩ = some (.slice P 2 p) := fun S => cell_of_row S.W w5.heap.size 3 _ _ _ (bb3 S)
  replace x3 := Lib.hid x3
  replace bb3 := Lib.hid bb3
  have bb4 : ∀ S : BS w (⟨tw, (some ⟨V4.heap.size + 1, 0, none⟩), 2, (V4.heap.size + 1 + 1)⟩ :: (⟨tw, P, p, w5.heap.size⟩ :: (⟨t2, B2, d2, m2.heap.size⟩ :: (⟨t1, B1, d1, m1.heap.size⟩ :: (⟨t0, B0, d0, m0.heap.size⟩ :: []))))), S.W.heap[(V4.heap.size + 1 + 1)]? = some (.cells #[.int .i64 13, .string ⟨#[]⟩, .int .i64 0, .slice (some ⟨V4.heap.size + 1, 0, none⟩) 2 2] 26 (0, 0)) := fun S => by
    have h9 := (S.ok.at_ ⟨tw, some ⟨V4.heap.size + 1, 0, none⟩, 2, V4.heap.size + 1 + 1⟩ (by simp)).box
    dsimp only at h9
    rw [e1.out, e2.out, e3.out, e4.out] at h9
    exact h9
  have x4 := bb4 ⟨V5, hX.out⟩
  have c40 := cell_of_row V5 (V4.heap.size + 1 + 1) 0 _ _ _ x4
  have c41 := cell_of_row V5 (V4.heap.size + 1 + 1) 1 _ _ _ x4
  have c42 := cell_of_row V5 (V4.heap.size + 1 + 1) 2 _ _ _ x4
  have c43 := cell_of_row V5 (V4.heap.size + 1 + 1) 3 _ _ _ x4
  have q40 : ∀ S : BS w (⟨tw, (some ⟨V4.heap.size + 1, 0, none⟩), 2, (V4.heap.size + 1 + 1)⟩ :: (⟨tw, P, p, w5.heap.size⟩ :: (⟨t2, B2, d2, m2.heap.size⟩ :: (⟨t1, B1, d1, m1.heap.size⟩ :: (⟨t0, B0, d0, m0.heap.size⟩ :: []))))), S.W.cell? ⟨(V4.heap.size + 1 + 1), 0, none⟩ = some (.int .i64 13) := fun S => cell_of_row S.W (V4.heap.size + 1 + 1) 0 _ _ _ (bb4 S)
  have q41 : ∀ S : BS w (⟨tw, (some ⟨V4.heap.size + 1, 0, none⟩), 2, (V4.heap.size + 1 + 1)⟩ :: (⟨tw, P, p, w5.heap.size⟩ :: (⟨t2, B2, d2, m2.heap.size⟩ :: (⟨t1, B1, d1, m1.heap.size⟩ :: (⟨t0, B0, d0, m0.heap.size⟩ :: []))))), S.W.cell? ⟨(V4.heap.size + 1 + 1), 1, none⟩ = some (.string ⟨#[]⟩) := fun S => cell_of_row S.W (V4.heap.size + 1 + 1) 1 _ _ _ (bb4 S)
  have q42 : ∀ S : BS w (⟨tw, (some ⟨V4.heap.size + 1, 0, none⟩), 2, (V4.heap.size + 1 + 1)⟩ :: (⟨tw, P, p, w5.heap.size⟩ :: (⟨t2, B2, d2, m2.heap.size⟩ :: (⟨t1, B1, d1, m1.heap.size⟩ :: (⟨t0, B0, d0, m0.heap.size⟩ :: []))))), S.W.cell? ⟨(V4.heap.size + 1 + 1), 2, none⟩ = some (.int .i64 0) := fun S => cell_of_row S.W (V4.heap.size + 1 + 1) 2 _ _ _ (bb4 S)
  have q43 : ∀ S : BS w (⟨tw, (some ⟨V4.heap.size + 1, 0, none⟩), 2, (V4.heap.size + 1 + 1)⟩ :: (⟨tw, P, p, w5.heap.size⟩ :: (⟨t2, B2, d2, m2.heap.size⟩ :: (⟨t1, B1, d1, m1.heap.size⟩ :: (⟨t0, B0, d0, m0.heap.size⟩ :: []))))), S.W.cell? ⟨(V4.heap.size + 1 + 1), 3, none⟩ = some (.slice (some ⟨V4.heap.size + 1, 0, none⟩) 2 2) := fun S => cell_of_row S.W (V4.heap.size + 1 + 1) 3 _ _ _ (bb4 S)
  replace x4 := Lib.hid x4
  replace bb4 := Lib.hid bb4
  have KZ : Hid (∀ (S : BS w (⟨tw, (some ⟨V4.heap.size + 1, 0, none⟩), 2, (V4.heap.size + 1 + 1)⟩ :: (⟨tw, P, p, w5.heap.size⟩ :: (⟨t2, B2, d2, m2.heap.size⟩ :: (⟨t1, B1, d1, m1.heap.size⟩ :: (⟨t0, B0, d0, m0.heap.size⟩ :: [])))))) (v : Value), (v = .agg #[.int .i64 13, .string ⟨#[]⟩, .int .i64 0, .slice P 2 p] ∨ v = .agg #[.int .i64 13, .string ⟨#[]⟩, .int .i64 0, .slice (some ⟨V4.heap.size + 1, 0, none⟩) 2 2]) → Calls Tryz.prog 24 #[v] S.W fun e w'' => e = .returned (.int .i64 (tw.size : Nat)) ∧ ∃ S' : BS w (⟨tw, (some ⟨V4.heap.size + 1, 0, none⟩), 2, (V4.heap.size + 1 + 1)⟩ :: (⟨tw, P, p, w5.heap.size⟩ :: (⟨t2, B2, d2, m2.heap.size⟩ :: (⟨t1, B1, d1, m1.heap.size⟩ :: (⟨t0, B0, d0, m0.heap.size⟩ :: []))))), w'' = S'.W) := fun S v hv => by
    have hz := hz9.out
    rcases hv with rfl | rfl
    · have h9 := size_any tw P p S.W (by omega) (S.ok.at_ ⟨tw, P, p, w5.heap.size⟩ (by simp)).tm
      unfold tmV at h9
      rw [e1.out, e2.out, e3.out, e4.out] at h9
      exact h9.mono fun e w' h => ⟨h.1, ⟨w', S.ok.later h.2⟩, rfl⟩
    · have h9 := size_any tw (some ⟨V4.heap.size + 1, 0, none⟩) 2 S.W (by omega) (S.ok.at_ ⟨tw, some ⟨V4.heap.size + 1, 0, none⟩, 2, V4.heap.size + 1 + 1⟩ (by simp)).tm
      unfold tmV at h9
      rw [e1.out, e2.out, e3.out, e4.out] at h9
      exact h9.mono fun e w' h => ⟨h.1, ⟨w', S.ok.later h.2⟩, rfl⟩
  have KE : Hid (Calls Tryz.prog 22 #[.agg #[.int .i64 13, .string ⟨#[]⟩, .int .i64 0, .slice P 2 p], .agg #[.int .i64 13, .string ⟨#[]⟩, .int .i64 0, .slice (some ⟨V4.heap.size + 1, 0, none⟩) 2 2]] V5 fun e w'' => e = .returned (.bool true) ∧ Below V5.heap.size V5 w'') := by
    have hz := hz9.out
    have h9 := same_any tw tw P (some ⟨V4.heap.size + 1, 0, none⟩) p 2 V5 (by omega) (hX.out.at_ ⟨tw, P, p, w5.heap.size⟩ (by simp)).tm (hX.out.at_ ⟨tw, some ⟨V4.heap.size + 1, 0, none⟩, 2, V4.heap.size + 1 + 1⟩ (by simp)).tm
    unfold tmV at h9
    rw [Go.Proofs.YtpdombmpmhnolaaGreatDoor.Eq.self_eq, e1.out, e2.out, e3.out, e4.out] at h9
    exact h9
  obtain ⟨zz, hzz⟩ : ∃ n : Int, (tw.size : Int) = n := ⟨_, rfl⟩
  rw [hzz] at KZ
  replace hzz := Lib.hid hzz
  haveI : Nonempty (BS w (⟨tw, (some ⟨V4.heap.size + 1, 0, none⟩), 2, (V4.heap.size + 1 + 1)⟩ :: (⟨tw, P, p, w5.heap.size⟩ :: (⟨t2, B2, d2, m2.heap.size⟩ :: (⟨t1, B1, d1, m1.heap.size⟩ :: (⟨t0, B0, d0, m0.heap.size⟩ :: [])))))) := ⟨⟨_, hX.out⟩⟩
  by_cases hk : t2.kind = 13
  · have hk2 : (t2.kind == 13) = true := by rw [hk]; rfl
    have hk3 : decide (t2.kind = 13) = true := decide_eq_true hk
    clear KE hk2 hk3
    rw [hk] at hV9 c20 v20
    go_wp2_with fail
    refine wp_region_quiet_in (S := BS w (⟨tw, (some ⟨V4.heap.size + 1, 0, none⟩), 2, (V4.heap.size + 1 + 1)⟩ :: (⟨tw, P, p, w5.heap.size⟩ :: (⟨t2, B2, d2, m2.heap.size⟩ :: (⟨t1, B1, d1, m1.heap.size⟩ :: (⟨t0, B0, d0, m0.heap.size⟩ :: [])))))) (fun s => s.W) (by kernel_rfl) (by kernel_rfl) ⟨⟨_, hX.out.later (Below.refl _ _).drew⟩, rfl⟩ ?_
    try simp only [List.append_eq, List.cons_append, List.nil_append]
    repeat (go_big_quiet_step (first | (go_at_call 24; exact KZ.out _ _ (by first | exact .inl rfl | exact .inr rfl))))
    refine wpQuiet_nil ?_
    rintro _ ⟨S, rfl⟩
    go_wp2
    go_ret
    exact ⟨rfl, S.ok.below⟩
  · have hk2 : (t2.kind == 13) = false := by rw [beq_eq_false_iff_ne]; exact hk
    have hk3 : decide (t2.kind = 13) = false := decide_eq_false hk
    clear KZ
    go_wp2_with fail
    refine KE.out.mono ?_
    rintro e w9 ⟨rfl, hb⟩
    replace hX := Lib.hid (hX.out.later hb)
    clear hb KE
    go_wp2_with fail
    go_ret
    exact ⟨rfl, hX.out.below⟩
end Go.Proofs.YtpdombmpmhnolaaGreatDoor.Pa
