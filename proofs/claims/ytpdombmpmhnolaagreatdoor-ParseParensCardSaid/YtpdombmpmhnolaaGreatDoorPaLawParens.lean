/-
  ParseParens's walk: true of whatever bytes and number. Conditions: the variables that are read lie as laid; what comes in can be read.
-/
import Derived.Test.YtpdombmpmhnolaaGreatDoorPaPr
namespace Go.Proofs.YtpdombmpmhnolaaGreatDoor.Pa
open Go.RowKit Go.Shelf Go.Tm Go.Lx Go.Maps
attribute [local go_sem] Oper.semAt_some

set_option maxRecDepth 100000 in
set_option maxHeartbeats 4000000 in
theorem parseParens_any (A0 : Option Addr) (zs0 : List Int) (c0 : Nat) (a : Int) (w : World) (hE : EnvP w) (hU0 : BtsS w A0 zs0) (hz0 : ∀ z ∈ zs0, 0 ≤ z ∧ z ≤ 255) (hl0 : zs0.length ≤ 9223372036854775807) (hc0 : zs0.length ≤ c0) (hd0 : c0 ≤ 9223372036854775807) (h0 : 0 ≤ a) (h1 : a < 256) :
    Calls Tryz.prog 6 #[.slice A0 zs0.length c0, .int .u8 a] w fun e w' => e = .returned (.bool true) ∧ Below w.heap.size w w' := by
  have hX := Lib.hid (Bx.new hE)
  have km0 := Lib.hid (fun W h => made_any A0 zs0 c0 W h hz0 hl0 hc0 hd0)
  replace hU0 := Lib.hid hU0
  clear hE hz0 hl0 hc0 hd0
  obtain ⟨N0, hN0⟩ : ∃ N, zs0.length = N := ⟨_, rfl⟩
  rw [hN0] at km0 ⊢
  replace hN0 := Lib.hid hN0
  obtain ⟨M, hM⟩ : ∃ M : Nat, a % 100 = (M : Int) := ⟨(a % 100).toNat, by omega⟩
  have hMu : M < 100 := by omega
  have ha0 : 0 ≤ a % 100 := by omega
  have ha1 : a % 100 < 100 := by omega
  replace hM := Lib.hid hM
  replace hMu := Lib.hid hMu
  go_enter Tryz.func6, Tryz.ntmps6
  go_wp2_with fail
  refine (examplesP_any _ hX.out.env).mono ?_
  rintro e w1 ⟨rfl, hb⟩
  replace hX := Lib.hid (hX.out.later hb)
  replace hU0 := Lib.hid (hU0.out.later hb)
  clear hb
  replace km0 := Lib.hid (km0.out w1 hU0.out)
  unfold tmV at km0
  clear hU0
  go_wp2_with fail
  refine km0.out.mono ?_
  rintro e m0 ⟨t0, B0, d0, rfl, hr0, hs0, hp0, hb, hT⟩
  replace hT := TmV.wide hT
  replace hX := Lib.hid (hX.out.later hb)
  clear km0
  have hz1 := Lib.hid hX.out.below.size
  replace hX := Lib.hid (hX.out.add hT)
  obtain ⟨V1, hV1⟩ : ∃ W, m0.alloc (.cells #[.int .i64 t0.kind, .string t0.name, .int .i64 t0.num, .slice B0 t0.kids.length d0] 26) = W := ⟨_, rfl⟩
  replace hX : Hid (Bx w (⟨t0, B0, d0, m0.heap.size⟩ :: []) V1) := by rw [← hV1]; exact hX
  clear hb hT
  replace hr0 := Lib.hid hr0
  replace hp0 := Lib.hid hp0
  replace hs0 := Lib.hid hs0
  have hR := small_right hr0.out hs0.out hp0.out
  obtain ⟨hts, htz⟩ := small_told hr0.out hs0.out hp0.out
  have hne := toks_ne hr0.out
  have hsp := show_pS hR
  have hs9 : t0.size ≤ 181 := hs0.out
  have hd9 : t0.depth ≤ 7 := hp0.out
  have a0 : TB.At V1 ⟨t0, B0, d0, m0.heap.size⟩ := hX.out.at_ _ (by simp)
  have x0 : V1.heap[m0.heap.size]? = some (.cells #[.int .i64 t0.kind, .string t0.name, .int .i64 t0.num, .slice B0 t0.kids.length d0] 26 (0, 0)) := a0.box
  have c00 := cell_of_row V1 (m0.heap.size) 0 _ _ _ x0
  have c01 := cell_of_row V1 (m0.heap.size) 1 _ _ _ x0
  have c02 := cell_of_row V1 (m0.heap.size) 2 _ _ _ x0
  have c03 := cell_of_row V1 (m0.heap.size) 3 _ _ _ x0
  replace x0 := Lib.hid x0
  replace a0 := Lib.hid a0
  have ks := show_any t0 B0 d0 V1 hX.out.env.s (by omega) a0.out.tm
  rw [hsp] at ks htz
  unfold tmV at ks
  obtain ⟨l, hl⟩ : ∃ l, toksT t0 = l := ⟨_, rfl⟩
  have ht := fun n h => told_parens (n := n) hR h
  have hri := toks_right hr0.out
  rw [hl] at ks htz hne ht hri
  have hrn := fun n => parN_right hri n
  have hsz := fun n => parN_size hne n
  have hl0 := Lib.hid hl
  replace ks := Lib.hid ks
  replace hR := Lib.hid hR
  replace hts := Lib.hid hts
  replace hsp := Lib.hid hsp
  replace htz := Lib.hid htz
  replace hne := Lib.hid hne
  replace ht := Lib.hid ht
  replace hri := Lib.hid hri
  replace hrn := Lib.hid hrn
  replace hsz := Lib.hid hsz
  replace hs9 := Lib.hid hs9
  replace hd9 := Lib.hid hd9
  clear hl
  go_wp2_with fail
  replace hV1 := Lib.hid hV1
  refine ks.out.mono ?_
  rintro e w3 ⟨rfl, hb⟩
  replace hX := Lib.hid (hX.out.later hb)
  clear hb ks
  clear a0 x0 c00 c01 c02 c03
  go_wp2_with fail
  go_loopw [7, 8] (fun s i wr => ∃ k : Nat, k ≤ M ∧ s = .string (pS (parN k l)) ∧ i = .int .i64 k ∧ Hid (Bx w (⟨t0, B0, d0, m0.heap.size⟩ :: []) wr)) (fun _ i _ => M - (intOf i).toNat)
  case atStart => exact ⟨0, Nat.zero_le _, rfl, rfl, hX.out⟩
  case round =>
    clear hX
    obtain ⟨k, hk, rfl, rfl, hX⟩ := hrel
    by_cases hlt : (k : Int) < a % 100
    · have e1 := Lib.hid (parL_pS (parN_ne hne.out k))
      have z1 := hsz.out k
      have z2 := htz.out
      have z3 : (pS (parN k l)).size ≤ 20000 := by have := hMu.out; omega
      have hlt9 : k < M := by have := hM.out; omega
      obtain ⟨S, hS⟩ : ∃ S, pS (parN k l) = S := ⟨_, rfl⟩
      rw [hS] at e1 z3 ⊢
      replace z1 := Lib.hid z1
      replace z2 := Lib.hid z2
      replace hS := Lib.hid hS
      replace hlt9 := Lib.hid hlt9
      have z4 : (⟨#[40, 32]⟩ ++ S : ByteArray).size ≤ 20002 := by rw [ByteArray.size_append]; show 2 + S.size ≤ _; omega
      go_wp2_with fail
      go_roundw
      case rel => exact ⟨k + 1, hlt9.out, by rw [e1.out]; rfl, by go_num, hX⟩
      case measure => have := hlt9.out; simp [intOf]; omega
    · obtain rfl : M = k := by have := hM.out; omega
      have z1 := hsz.out M
      have z2 := htz.out
      have z3 : (pS (parN M l)).size ≤ 20000 := by have := hMu.out; omega
      obtain ⟨g1, g2, g3⟩ := ht.out M (by have := hd9.out; have := hMu.out; omega)
      have f1 := toldS_print (hrn.out M) (by omega) g1
      have r2 : Go.Lx.rightL (mTok [40] :: parN M l) = true := right_cons (by decide +kernel) (hrn.out M)
      have r3 : Go.Lx.rightL (parN M l ++ [mTok [41]]) = true := right_app (hrn.out M) (by decide +kernel)
      have e2 := ahead_pS (parN_ne hne.out M)
      have e3 := behind_pS (parN_ne hne.out M)
      have z5 : (pS (mTok [40] :: parN M l)).size ≤ 20002 := by rw [← e2, ByteArray.size_append]; show 2 + (pS (parN M l)).size ≤ _; omega
      have z6 : (pS (parN M l ++ [mTok [41]])).size ≤ 20002 := by rw [← e3, ByteArray.size_append]; show (pS (parN M l)).size + 2 ≤ _; omega
      have f2 := toldS_print r2 (by omega) g2
      have f3 := toldS_print r3 (by omega) g3
      obtain ⟨S, hS⟩ : ∃ S, pS (parN M l) = S := ⟨_, rfl⟩
      obtain ⟨S2, hS2⟩ : ∃ S, pS (mTok [40] :: parN M l) = S := ⟨_, rfl⟩
      obtain ⟨S3, hS3⟩ : ∃ S, pS (parN M l ++ [mTok [41]]) = S := ⟨_, rfl⟩
      rw [hS] at z3 f1 e2 e3 ⊢
      rw [hS2] at f2 z5 e2
      rw [hS3] at f3 z6 e3
      replace z1 := Lib.hid z1
      replace z2 := Lib.hid z2
      replace hS := Lib.hid hS
      replace hS2 := Lib.hid hS2
      replace hS3 := Lib.hid hS3
      replace g1 := Lib.hid g1
      replace g2 := Lib.hid g2
      replace g3 := Lib.hid g3
      replace f1 := Lib.hid f1
      replace f2 := Lib.hid f2
      replace f3 := Lib.hid f3
      replace r2 := Lib.hid r2
      replace r3 := Lib.hid r3
      replace e2 := Lib.hid e2
      replace e3 := Lib.hid e3
      replace z5 := Lib.hid z5
      replace z6 := Lib.hid z6
      have kp := Lib.hid (parse_ok f1.out wr hX.out.env (by omega))
      go_wp2_with fail
      refine kp.out.mono ?_
      rintro e w4 ⟨P, p, rfl, hb, hT, _⟩
      replace hX := Lib.hid (hX.out.later hb)
      have hz2 := Lib.hid hX.out.below.size
      replace hX := Lib.hid (hX.out.add hT)
      obtain ⟨V2, hV2⟩ : ∃ W, w4.alloc (.cells #[.int .i64 t0.kind, .string t0.name, .int .i64 t0.num, .slice P t0.kids.length p] 26) = W := ⟨_, rfl⟩
      replace hX : Hid (Bx w (⟨t0, P, p, w4.heap.size⟩ :: (⟨t0, B0, d0, m0.heap.size⟩ :: [])) V2) := by rw [← hV2]; exact hX
      clear hb hT kp
      have kp := Lib.hid (parse_no f2.out (by decide) V2 hX.out.env (by have := z5.out; omega))
      go_wp2_with fail
      replace hV2 := Lib.hid hV2
      rw [e2.out]
      refine kp.out.mono ?_
      rintro e w5 ⟨rfl, hb⟩
      replace hX := Lib.hid (hX.out.later hb)
      have hT := T0_at w5 (· < w5.heap.size)
      have hz3 := Lib.hid hX.out.below.size
      replace hX := Lib.hid (hX.out.add hT)
      obtain ⟨V3, hV3⟩ : ∃ W, w5.alloc (.cells #[.int .i64 0, .string ⟨#[]⟩, .int .i64 0, .slice none 0 0] 26) = W := ⟨_, rfl⟩
      replace hX : Hid (Bx w (⟨T0, none, 0, w5.heap.size⟩ :: (⟨t0, P, p, w4.heap.size⟩ :: (⟨t0, B0, d0, m0.heap.size⟩ :: []))) V3) := by rw [← hV3]; exact hX
      clear hb hT kp
      replace hV3 := Lib.hid hV3
      have kp := Lib.hid (parse_no f3.out (by decide) V3 hX.out.env (by have := z6.out; omega))
      go_wp2_with fail
      rw [e3.out, hV3.out]
      refine kp.out.mono ?_
      rintro e w6 ⟨rfl, hb⟩
      replace hX := Lib.hid (hX.out.later hb)
      have hT := T0_at w6 (· < w6.heap.size)
      have hz4 := Lib.hid hX.out.below.size
      replace hX := Lib.hid (hX.out.add hT)
      obtain ⟨V4, hV4⟩ : ∃ W, w6.alloc (.cells #[.int .i64 0, .string ⟨#[]⟩, .int .i64 0, .slice none 0 0] 26) = W := ⟨_, rfl⟩
      replace hX : Hid (Bx w (⟨T0, none, 0, w6.heap.size⟩ :: (⟨T0, none, 0, w5.heap.size⟩ :: (⟨t0, P, p, w4.heap.size⟩ :: (⟨t0, B0, d0, m0.heap.size⟩ :: [])))) V4) := by rw [← hV4]; exact hX
      clear hb hT kp
      replace hV4 := Lib.hid hV4
      have a0 : TB.At V4 ⟨t0, B0, d0, m0.heap.size⟩ := hX.out.at_ _ (by simp)
      have x0 : (w6.alloc (.cells #[.int .i64 0, .string ⟨#[]⟩, .int .i64 0, .slice none 0 0] 26)).heap[m0.heap.size]? = some (.cells #[.int .i64 t0.kind, .string t0.name, .int .i64 t0.num, .slice B0 t0.kids.length d0] 26 (0, 0)) := by rw [hV4.out]; exact a0.box
      have c00 := cell_of_row _ (m0.heap.size) 0 _ _ _ x0
      have c01 := cell_of_row _ (m0.heap.size) 1 _ _ _ x0
      have c02 := cell_of_row _ (m0.heap.size) 2 _ _ _ x0
      have c03 := cell_of_row _ (m0.heap.size) 3 _ _ _ x0
      replace x0 := Lib.hid x0
      replace a0 := Lib.hid a0
      have a1 : TB.At V4 ⟨t0, P, p, w4.heap.size⟩ := hX.out.at_ _ (by simp)
      have x1 : (w6.alloc (.cells #[.int .i64 0, .string ⟨#[]⟩, .int .i64 0, .slice none 0 0] 26)).heap[w4.heap.size]? = some (.cells #[.int .i64 t0.kind, .string t0.name, .int .i64 t0.num, .slice P t0.kids.length p] 26 (0, 0)) := by rw [hV4.out]; exact a1.box
      have c10 := cell_of_row _ (w4.heap.size) 0 _ _ _ x1
      have c11 := cell_of_row _ (w4.heap.size) 1 _ _ _ x1
      have c12 := cell_of_row _ (w4.heap.size) 2 _ _ _ x1
      have c13 := cell_of_row _ (w4.heap.size) 3 _ _ _ x1
      replace x1 := Lib.hid x1
      replace a1 := Lib.hid a1
      have ke : Calls Tryz.prog 22 #[.agg #[.int .i64 t0.kind, .string t0.name, .int .i64 t0.num, .slice P t0.kids.length p], .agg #[.int .i64 t0.kind, .string t0.name, .int .i64 t0.num, .slice B0 t0.kids.length d0]] V4 fun e w'' => e = .returned (.bool true) ∧ Below V4.heap.size V4 w'' := by
        have h9 := same_any t0 t0 P B0 p d0 V4 (by have := hs9.out; omega) a1.out.tm a0.out.tm
        rw [Go.Proofs.YtpdombmpmhnolaaGreatDoor.Eq.self_eq] at h9
        exact h9
      replace ke := Lib.hid ke
      go_wp2_with fail
      rw [hV4.out]
      refine ke.out.mono ?_
      rintro e w7 ⟨rfl, hb⟩
      replace hX := Lib.hid (hX.out.later hb)
      clear hb ke
      clear a0 x0 c00 c01 c02 c03
      clear a1 x1 c10 c11 c12 c13
      go_wp2_with fail
      go_ret
      exact ⟨rfl, hX.out.below⟩
end Go.Proofs.YtpdombmpmhnolaaGreatDoor.Pa
