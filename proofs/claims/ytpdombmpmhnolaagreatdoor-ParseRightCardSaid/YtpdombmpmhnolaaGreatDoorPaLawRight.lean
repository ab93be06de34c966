/-
  ParseRight's walk: true of whatever text. Conditions: the variables that are read lie as laid; what comes in can be read.
-/
import Derived.Test.YtpdombmpmhnolaaGreatDoorPaPr
namespace Go.Proofs.YtpdombmpmhnolaaGreatDoor.Pa
open Go.RowKit Go.Shelf Go.Tm Go.Lx Go.Maps
attribute [local go_sem] Oper.semAt_some

theorem size_cut (s : ByteArray) : (s.extract 0 (min (s.size : Int) 3000).toNat).size ≤ 3000 := by
  rw [ByteArray.size_extract]; omega
set_option maxRecDepth 100000 in
set_option maxHeartbeats 4000000 in
theorem parseRight_any (s : ByteArray) (w : World) (hE : EnvP w) (hs : s.size ≤ 140737488355328) :
    Calls Tryz.prog 5 #[.string s] w fun e w' => e = .returned (.bool true) ∧ Below w.heap.size w w' := by
  have hX := Lib.hid (Bx.new hE)
  clear hE
  go_enter Tryz.func5, Tryz.ntmps5
  go_wp2_with fail
  refine (examplesP_any _ hX.out.env).mono ?_
  rintro e w1 ⟨rfl, hb⟩
  replace hX := Lib.hid (hX.out.later hb)
  clear hb
  go_wp2_with fail
  have hcut := size_cut s
  obtain ⟨x, hx⟩ : ∃ x, s.extract 0 (min (s.size : Int) 3000).toNat = x := ⟨_, rfl⟩
  rw [hx] at hcut ⊢
  replace hx := Lib.hid hx
  have hp := parse_any x w1 hX.out.env (by omega)
  replace hcut := Lib.hid hcut
  refine hp.mono ?_
  clear hp
  rintro e w2 ⟨hb, ho⟩
  rcases ho with ⟨t, P, p, ht, hsz, rfl, hT⟩ | ⟨n, hn, ht, rfl⟩
  · replace hX := Lib.hid (hX.out.later hb)
    replace hT : TmV w2 (· < w2.heap.size) t P p := hT
    unfold tmV
    have hpart : rightT t = true ∧ (printL (toksT t)).length ≤ 30000 := by
      rcases ht with ⟨_, _, h⟩ | ⟨_, _, _, h⟩ | ⟨l, _, h2, h3⟩
      · cases h
      · cases h
      · have h4 := told_short h2 h3
        have h5 : x.data.toList.length = x.size := by simp
        have := hcut.out
        exact ⟨h4.1, by omega⟩
    obtain ⟨hR, hpl⟩ := hpart
    have hts := told_show hR (by omega)
    have htz : (showS t).size ≤ 30000 := by rw [size_show hR]; exact hpl
    have hz1 := Lib.hid hX.out.below.size
    replace hX := Lib.hid (hX.out.add hT)
    obtain ⟨V1, hV1⟩ : ∃ W, w2.alloc (.cells #[.int .i64 t.kind, .string t.name, .int .i64 t.num, .slice P t.kids.length p] 26) = W := ⟨_, rfl⟩
    replace hX : Hid (Bx w (⟨t, P, p, w2.heap.size⟩ :: []) V1) := by rw [← hV1]; exact hX
    clear hb hT ht
    have a0 : TB.At V1 ⟨t, P, p, w2.heap.size⟩ := hX.out.at_ _ (by simp)
    have x0 : V1.heap[w2.heap.size]? = some (.cells #[.int .i64 t.kind, .string t.name, .int .i64 t.num, .slice P t.kids.length p] 26 (0, 0)) := a0.box
    have c00 := cell_of_row V1 (w2.heap.size) 0 _ _ _ x0
    have c01 := cell_of_row V1 (w2.heap.size) 1 _ _ _ x0
    have c02 := cell_of_row V1 (w2.heap.size) 2 _ _ _ x0
    have c03 := cell_of_row V1 (w2.heap.size) 3 _ _ _ x0
    replace x0 := Lib.hid x0
    replace a0 := Lib.hid a0
    have ks := show_any t P p V1 hX.out.env.s (by omega) a0.out.tm
    unfold tmV at ks
    obtain ⟨sx, hsx⟩ : ∃ s, showS t = s := ⟨_, rfl⟩
    rw [hsx] at ks hts htz
    replace hsx := Lib.hid hsx
    replace ks := Lib.hid ks
    replace hR := Lib.hid hR
    replace hts := Lib.hid hts
    replace htz := Lib.hid htz
    replace hpl := Lib.hid hpl
    replace hsz := Lib.hid hsz
    go_wp2_with fail
    replace hV1 := Lib.hid hV1
    refine ks.out.mono ?_
    rintro e w3 ⟨rfl, hb⟩
    replace hX := Lib.hid (hX.out.later hb)
    clear hb ks
    clear a0 x0 c00 c01 c02 c03
    have kp := Lib.hid (parse_ok hts.out w3 hX.out.env (by have := htz.out; omega))
    go_wp2_with fail
    refine kp.out.mono ?_
    rintro e w4 ⟨Q, q, rfl, hb, hT, _⟩
    replace hX := Lib.hid (hX.out.later hb)
    have hz2 := Lib.hid hX.out.below.size
    replace hX := Lib.hid (hX.out.add hT)
    obtain ⟨V2, hV2⟩ : ∃ W, w4.alloc (.cells #[.int .i64 t.kind, .string t.name, .int .i64 t.num, .slice Q t.kids.length q] 26) = W := ⟨_, rfl⟩
    replace hX : Hid (Bx w (⟨t, Q, q, w4.heap.size⟩ :: (⟨t, P, p, w2.heap.size⟩ :: [])) V2) := by rw [← hV2]; exact hX
    clear hb hT kp
    have a0 : TB.At V2 ⟨t, P, p, w2.heap.size⟩ := hX.out.at_ _ (by simp)
    have x0 : V2.heap[w2.heap.size]? = some (.cells #[.int .i64 t.kind, .string t.name, .int .i64 t.num, .slice P t.kids.length p] 26 (0, 0)) := a0.box
    have c00 := cell_of_row V2 (w2.heap.size) 0 _ _ _ x0
    have c01 := cell_of_row V2 (w2.heap.size) 1 _ _ _ x0
    have c02 := cell_of_row V2 (w2.heap.size) 2 _ _ _ x0
    have c03 := cell_of_row V2 (w2.heap.size) 3 _ _ _ x0
    replace x0 := Lib.hid x0
    replace a0 := Lib.hid a0
    have kr := right_any t P p V2 hX.out.env.s.tm (by have := hsz.out; omega) a0.out.tm
    rw [hR.out] at kr
    unfold tmV at kr
    replace kr := Lib.hid kr
    go_wp2_with fail
    replace hV2 := Lib.hid hV2
    refine kr.out.mono ?_
    rintro e w5 ⟨rfl, hb⟩
    replace hX := Lib.hid (hX.out.later hb)
    clear hb kr
    clear a0 x0 c00 c01 c02 c03
    have a0 : TB.At w5 ⟨t, P, p, w2.heap.size⟩ := hX.out.at_ _ (by simp)
    have x0 : w5.heap[w2.heap.size]? = some (.cells #[.int .i64 t.kind, .string t.name, .int .i64 t.num, .slice P t.kids.length p] 26 (0, 0)) := a0.box
    have c00 := cell_of_row w5 (w2.heap.size) 0 _ _ _ x0
    have c01 := cell_of_row w5 (w2.heap.size) 1 _ _ _ x0
    have c02 := cell_of_row w5 (w2.heap.size) 2 _ _ _ x0
    have c03 := cell_of_row w5 (w2.heap.size) 3 _ _ _ x0
    replace x0 := Lib.hid x0
    replace a0 := Lib.hid a0
    have a1 : TB.At w5 ⟨t, Q, q, w4.heap.size⟩ := hX.out.at_ _ (by simp)
    have x1 : w5.heap[w4.heap.size]? = some (.cells #[.int .i64 t.kind, .string t.name, .int .i64 t.num, .slice Q t.kids.length q] 26 (0, 0)) := a1.box
    have c10 := cell_of_row w5 (w4.heap.size) 0 _ _ _ x1
    have c11 := cell_of_row w5 (w4.heap.size) 1 _ _ _ x1
    have c12 := cell_of_row w5 (w4.heap.size) 2 _ _ _ x1
    have c13 := cell_of_row w5 (w4.heap.size) 3 _ _ _ x1
    replace x1 := Lib.hid x1
    replace a1 := Lib.hid a1
    have ke : Calls Tryz.prog 22 #[.agg #[.int .i64 t.kind, .string t.name, .int .i64 t.num, .slice Q t.kids.length q], .agg #[.int .i64 t.kind, .string t.name, .int .i64 t.num, .slice P t.kids.length p]] w5 fun e w'' => e = .returned (.bool true) ∧ Below w5.heap.size w5 w'' := by
      have h9 := same_any t t Q P q p w5 (by have := hsz.out; omega) a1.out.tm a0.out.tm
      rw [Go.Proofs.YtpdombmpmhnolaaGreatDoor.Eq.self_eq] at h9
      exact h9
    replace ke := Lib.hid ke
    go_wp2_with fail
    refine ke.out.mono ?_
    rintro e w6 ⟨rfl, hb⟩
    replace hX := Lib.hid (hX.out.later hb)
    clear hb ke
    clear a0 x0 c00 c01 c02 c03
    clear a1 x1 c10 c11 c12 c13
    go_wp2_with fail
    go_ret
    exact ⟨rfl, hX.out.below⟩
  · replace hX := Lib.hid (hX.out.later hb)
    have hT := T0_at w2 (· < w2.heap.size)
    unfold noV
    have hz1 := Lib.hid hX.out.below.size
    replace hX := Lib.hid (hX.out.add hT)
    obtain ⟨V1, hV1⟩ : ∃ W, w2.alloc (.cells #[.int .i64 0, .string ⟨#[]⟩, .int .i64 0, .slice none 0 0] 26) = W := ⟨_, rfl⟩
    replace hX : Hid (Bx w (⟨T0, none, 0, w2.heap.size⟩ :: []) V1) := by rw [← hV1]; exact hX
    clear hb hT
    have hn9 := Lib.hid ht
    clear ht
    have a0 : TB.At V1 ⟨T0, none, 0, w2.heap.size⟩ := hX.out.at_ _ (by simp)
    have x0 : V1.heap[w2.heap.size]? = some (.cells #[.int .i64 0, .string ⟨#[]⟩, .int .i64 0, .slice none 0 0] 26 (0, 0)) := a0.box
    have c00 := cell_of_row V1 w2.heap.size 0 _ _ _ x0
    have c01 := cell_of_row V1 w2.heap.size 1 _ _ _ x0
    have c02 := cell_of_row V1 w2.heap.size 2 _ _ _ x0
    have c03 := cell_of_row V1 w2.heap.size 3 _ _ _ x0
    replace x0 := Lib.hid x0
    replace a0 := Lib.hid a0
    have ke : Calls Tryz.prog 22 #[.agg #[.int .i64 0, .string ⟨#[]⟩, .int .i64 0, .slice none 0 0], .agg #[.int .i64 0, .string ⟨#[]⟩, .int .i64 0, .slice none 0 0]] V1 fun e w'' => e = .returned (.bool true) ∧ Below V1.heap.size V1 w'' := by
      have h9 := same_any T0 T0 none none 0 0 V1 (by decide) a0.out.tm (T0_at V1 _)
      rw [Go.Proofs.YtpdombmpmhnolaaGreatDoor.Eq.self_eq] at h9
      exact h9
    replace ke := Lib.hid ke
    rcases hn with rfl | rfl
    · replace hV1 := Lib.hid hV1
      go_wp2_with fail
      rw [hV1.out]
      refine ke.out.mono ?_
      rintro e w3 ⟨rfl, hb⟩
      replace hX := Lib.hid (hX.out.later hb)
      clear hb ke
      go_wp2_with fail
      go_ret
      exact ⟨rfl, hX.out.below⟩
    · replace hV1 := Lib.hid hV1
      go_wp2_with fail
      rw [hV1.out]
      refine ke.out.mono ?_
      rintro e w3 ⟨rfl, hb⟩
      replace hX := Lib.hid (hX.out.later hb)
      clear hb ke
      go_wp2_with fail
      go_ret
      exact ⟨rfl, hX.out.below⟩
end Go.Proofs.YtpdombmpmhnolaaGreatDoor.Pa
