/-
  ParseBack's walk: true of whatever bytes. Conditions: the variables that are read lie as laid; what comes in can be read.
-/
import Derived.Test.YtpdombmpmhnolaaGreatDoorPaPr
namespace Go.Proofs.YtpdombmpmhnolaaGreatDoor.Pa
open Go.RowKit Go.Shelf Go.Tm Go.Lx Go.Maps
attribute [local go_sem] Oper.semAt_some

set_option maxRecDepth 100000 in
set_option maxHeartbeats 4000000 in
theorem parseBack_any (A0 : Option Addr) (zs0 : List Int) (c0 : Nat) (w : World) (hE : EnvP w) (hU0 : BtsS w A0 zs0) (hz0 : ∀ z ∈ zs0, 0 ≤ z ∧ z ≤ 255) (hl0 : zs0.length ≤ 9223372036854775807) (hc0 : zs0.length ≤ c0) (hd0 : c0 ≤ 9223372036854775807) :
    Calls Tryz.prog 4 #[.slice A0 zs0.length c0] w fun e w' => e = .returned (.bool true) ∧ Below w.heap.size w w' := by
  have hX := Lib.hid (Bx.new hE)
  have km0 := Lib.hid (fun W h => made_any A0 zs0 c0 W h hz0 hl0 hc0 hd0)
  replace hU0 := Lib.hid hU0
  clear hE hz0 hl0 hc0 hd0
  obtain ⟨N0, hN0⟩ : ∃ N, zs0.length = N := ⟨_, rfl⟩
  rw [hN0] at km0 ⊢
  replace hN0 := Lib.hid hN0
  go_enter Tryz.func4, Tryz.ntmps4
  go_wp2_with fail
  refine (examplesP_any _ hX.out.env).mono ?_
  rintro e w1 ⟨rfl, hb⟩
  replace hX := Lib.hid (hX.out.later hb)
  replace hU0 := Lib.hid (hU0.out.later hb)
  clear hb
  replace km0 := Lib.hid (km0.out w1 hU0.out)
  unfold tmV at km0
  clear hU0
  go_wp2_with fail
  refine km0.out.mono ?_
  rintro e m0 ⟨t0, B0, d0, rfl, hr0, hs0, hp0, hb, hT⟩
  replace hT := TmV.wide hT
  replace hX := Lib.hid (hX.out.later hb)
  clear km0
  have hz1 := Lib.hid hX.out.below.size
  replace hX := Lib.hid (hX.out.add hT)
  obtain ⟨V1, hV1⟩ : ∃ W, m0.alloc (.cells #[.int .i64 t0.kind, .string t0.name, .int .i64 t0.num, .slice B0 t0.kids.length d0] 26) = W := ⟨_, rfl⟩
  replace hX : Hid (Bx w (⟨t0, B0, d0, m0.heap.size⟩ :: []) V1) := by rw [← hV1]; exact hX
  clear hb hT
  replace hr0 := Lib.hid hr0
  replace hp0 := Lib.hid hp0
  replace hs0 := Lib.hid hs0
  have hR := small_right hr0.out hs0.out hp0.out
  obtain ⟨hts, htz⟩ := small_told hr0.out hs0.out hp0.out
  have htb := told_back hR
  have hsh := toks_short9 hr0.out
  have htl := toks_len hr0.out
  have hst := showT_right hR
  have hs9 : t0.size ≤ 181 := hs0.out
  have a0 : TB.At V1 ⟨t0, B0, d0, m0.heap.size⟩ := hX.out.at_ _ (by simp)
  have x0 : V1.heap[m0.heap.size]? = some (.cells #[.int .i64 t0.kind, .string t0.name, .int .i64 t0.num, .slice B0 t0.kids.length d0] 26 (0, 0)) := a0.box
  have c00 := cell_of_row V1 (m0.heap.size) 0 _ _ _ x0
  have c01 := cell_of_row V1 (m0.heap.size) 1 _ _ _ x0
  have c02 := cell_of_row V1 (m0.heap.size) 2 _ _ _ x0
  have c03 := cell_of_row V1 (m0.heap.size) 3 _ _ _ x0
  replace x0 := Lib.hid x0
  replace a0 := Lib.hid a0
  have ks := show_any t0 B0 d0 V1 hX.out.env.s (by omega) a0.out.tm
  unfold tmV at ks
  obtain ⟨sx, hsx⟩ : ∃ s, showS t0 = s := ⟨_, rfl⟩
  rw [hsx] at ks hts htz
  replace hsx := Lib.hid hsx
  replace ks := Lib.hid ks
  replace hR := Lib.hid hR
  replace hts := Lib.hid hts
  replace htz := Lib.hid htz
  replace htb := Lib.hid htb
  replace hsh := Lib.hid hsh
  replace htl := Lib.hid htl
  replace hst := Lib.hid hst
  replace hs9 := Lib.hid hs9
  go_wp2_with fail
  replace hV1 := Lib.hid hV1
  refine ks.out.mono ?_
  rintro e w3 ⟨rfl, hb⟩
  replace hX := Lib.hid (hX.out.later hb)
  clear hb ks
  clear a0 x0 c00 c01 c02 c03
  have kp := Lib.hid (parse_ok hts.out w3 hX.out.env (by have := htz.out; omega))
  go_wp2_with fail
  refine kp.out.mono ?_
  rintro e w4 ⟨P, p, rfl, hb, hT, _⟩
  replace hX := Lib.hid (hX.out.later hb)
  have hz2 := Lib.hid hX.out.below.size
  replace hX := Lib.hid (hX.out.add hT)
  obtain ⟨V2, hV2⟩ : ∃ W, w4.alloc (.cells #[.int .i64 t0.kind, .string t0.name, .int .i64 t0.num, .slice P t0.kids.length p] 26) = W := ⟨_, rfl⟩
  replace hX : Hid (Bx w (⟨t0, P, p, w4.heap.size⟩ :: (⟨t0, B0, d0, m0.heap.size⟩ :: [])) V2) := by rw [← hV2]; exact hX
  clear hb hT kp
  have a0 : TB.At V2 ⟨t0, B0, d0, m0.heap.size⟩ := hX.out.at_ _ (by simp)
  have x0 : V2.heap[m0.heap.size]? = some (.cells #[.int .i64 t0.kind, .string t0.name, .int .i64 t0.num, .slice B0 t0.kids.length d0] 26 (0, 0)) := a0.box
  have c00 := cell_of_row V2 (m0.heap.size) 0 _ _ _ x0
  have c01 := cell_of_row V2 (m0.heap.size) 1 _ _ _ x0
  have c02 := cell_of_row V2 (m0.heap.size) 2 _ _ _ x0
  have c03 := cell_of_row V2 (m0.heap.size) 3 _ _ _ x0
  replace x0 := Lib.hid x0
  replace a0 := Lib.hid a0
  have kt := toks_any t0 B0 d0 V2 hX.out.env.s (by have := hs9.out; omega) a0.out.tm
  rw [hst.out] at kt
  unfold tmV at kt
  obtain ⟨ts, hts9⟩ : ∃ l, toksT t0 = l := ⟨_, rfl⟩
  rw [hts9] at kt htb hsh htl
  obtain ⟨L, hL⟩ : ∃ n, ts.length = n := ⟨_, rfl⟩
  have kk := Lib.hid (fun W A c h hU => toksP_ok htb.out A c W h hU hsh.out (by have := htl.out; have := hs9.out; omega))
  rw [hL] at kt kk
  replace hL := Lib.hid hL
  replace hts9 := Lib.hid hts9
  replace kt := Lib.hid kt
  go_wp2_with fail
  replace hV2 := Lib.hid hV2
  refine kt.out.mono ?_
  rintro e w5 ⟨C, k, rfl, hC, hb⟩
  replace hX := Lib.hid (hX.out.later hb)
  clear hb kt
  clear a0 x0 c00 c01 c02 c03
  replace kk := Lib.hid (kk.out w5 C k hX.out.env hC)
  clear hC
  go_wp2_with fail
  refine kk.out.mono ?_
  rintro e w6 ⟨Q, q, rfl, hb, hT, _⟩
  replace hX := Lib.hid (hX.out.later hb)
  have hz3 := Lib.hid hX.out.below.size
  replace hX := Lib.hid (hX.out.add hT)
  obtain ⟨V3, hV3⟩ : ∃ W, w6.alloc (.cells #[.int .i64 t0.kind, .string t0.name, .int .i64 t0.num, .slice Q t0.kids.length q] 26) = W := ⟨_, rfl⟩
  replace hX : Hid (Bx w (⟨t0, Q, q, w6.heap.size⟩ :: (⟨t0, P, p, w4.heap.size⟩ :: (⟨t0, B0, d0, m0.heap.size⟩ :: []))) V3) := by rw [← hV3]; exact hX
  clear hb hT kk
  have a0 : TB.At V3 ⟨t0, B0, d0, m0.heap.size⟩ := hX.out.at_ _ (by simp)
  have x0 : V3.heap[m0.heap.size]? = some (.cells #[.int .i64 t0.kind, .string t0.name, .int .i64 t0.num, .slice B0 t0.kids.length d0] 26 (0, 0)) := a0.box
  have c00 := cell_of_row V3 (m0.heap.size) 0 _ _ _ x0
  have c01 := cell_of_row V3 (m0.heap.size) 1 _ _ _ x0
  have c02 := cell_of_row V3 (m0.heap.size) 2 _ _ _ x0
  have c03 := cell_of_row V3 (m0.heap.size) 3 _ _ _ x0
  replace x0 := Lib.hid x0
  replace a0 := Lib.hid a0
  have a1 : TB.At V3 ⟨t0, P, p, w4.heap.size⟩ := hX.out.at_ _ (by simp)
  have x1 : V3.heap[w4.heap.size]? = some (.cells #[.int .i64 t0.kind, .string t0.name, .int .i64 t0.num, .slice P t0.kids.length p] 26 (0, 0)) := a1.box
  have c10 := cell_of_row V3 (w4.heap.size) 0 _ _ _ x1
  have c11 := cell_of_row V3 (w4.heap.size) 1 _ _ _ x1
  have c12 := cell_of_row V3 (w4.heap.size) 2 _ _ _ x1
  have c13 := cell_of_row V3 (w4.heap.size) 3 _ _ _ x1
  replace x1 := Lib.hid x1
  replace a1 := Lib.hid a1
  have ke : Calls Tryz.prog 22 #[.agg #[.int .i64 t0.kind, .string t0.name, .int .i64 t0.num, .slice P t0.kids.length p], .agg #[.int .i64 t0.kind, .string t0.name, .int .i64 t0.num, .slice B0 t0.kids.length d0]] V3 fun e w'' => e = .returned (.bool true) ∧ Below V3.heap.size V3 w'' := by
    have h9 := same_any t0 t0 P B0 p d0 V3 (by have := hs9.out; omega) a1.out.tm a0.out.tm
    rw [Go.Proofs.YtpdombmpmhnolaaGreatDoor.Eq.self_eq] at h9
    exact h9
  replace ke := Lib.hid ke
  go_wp2_with fail
  replace hV3 := Lib.hid hV3
  refine ke.out.mono ?_
  rintro e w7 ⟨rfl, hb⟩
  replace hX := Lib.hid (hX.out.later hb)
  clear hb ke
  clear a0 x0 c00 c01 c02 c03
  clear a1 x1 c10 c11 c12 c13
  have a0 : TB.At w7 ⟨t0, B0, d0, m0.heap.size⟩ := hX.out.at_ _ (by simp)
  have x0 : w7.heap[m0.heap.size]? = some (.cells #[.int .i64 t0.kind, .string t0.name, .int .i64 t0.num, .slice B0 t0.kids.length d0] 26 (0, 0)) := a0.box
  have c00 := cell_of_row w7 (m0.heap.size) 0 _ _ _ x0
  have c01 := cell_of_row w7 (m0.heap.size) 1 _ _ _ x0
  have c02 := cell_of_row w7 (m0.heap.size) 2 _ _ _ x0
  have c03 := cell_of_row w7 (m0.heap.size) 3 _ _ _ x0
  replace x0 := Lib.hid x0
  replace a0 := Lib.hid a0
  have a2 : TB.At w7 ⟨t0, Q, q, w6.heap.size⟩ := hX.out.at_ _ (by simp)
  have x2 : w7.heap[w6.heap.size]? = some (.cells #[.int .i64 t0.kind, .string t0.name, .int .i64 t0.num, .slice Q t0.kids.length q] 26 (0, 0)) := a2.box
  have c20 := cell_of_row w7 (w6.heap.size) 0 _ _ _ x2
  have c21 := cell_of_row w7 (w6.heap.size) 1 _ _ _ x2
  have c22 := cell_of_row w7 (w6.heap.size) 2 _ _ _ x2
  have c23 := cell_of_row w7 (w6.heap.size) 3 _ _ _ x2
  replace x2 := Lib.hid x2
  replace a2 := Lib.hid a2
  have ke : Calls Tryz.prog 22 #[.agg #[.int .i64 t0.kind, .string t0.name, .int .i64 t0.num, .slice Q t0.kids.length q], .agg #[.int .i64 t0.kind, .string t0.name, .int .i64 t0.num, .slice B0 t0.kids.length d0]] w7 fun e w'' => e = .returned (.bool true) ∧ Below w7.heap.size w7 w'' := by
    have h9 := same_any t0 t0 Q B0 q d0 w7 (by have := hs9.out; omega) a2.out.tm a0.out.tm
    rw [Go.Proofs.YtpdombmpmhnolaaGreatDoor.Eq.self_eq] at h9
    exact h9
  replace ke := Lib.hid ke
  go_wp2_with fail
  refine ke.out.mono ?_
  rintro e w8 ⟨rfl, hb⟩
  replace hX := Lib.hid (hX.out.later hb)
  clear hb ke
  clear a0 x0 c00 c01 c02 c03
  clear a2 x2 c20 c21 c22 c23
  go_wp2_with fail
  go_ret
  exact ⟨rfl, hX.out.below⟩
end Go.Proofs.YtpdombmpmhnolaaGreatDoor.Pa
