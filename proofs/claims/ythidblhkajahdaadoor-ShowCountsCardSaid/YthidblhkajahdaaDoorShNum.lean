/-
  The statements' own counts: of tokens with a text, of terms of a kind. Conditions: as for Toks.
  The statements' count of the tokens that have a text. Conditions: as for Toks.
-/
import Derived.Test.YthidblhkajahdaaDoorShShow
import Derived.Test.YthidblhkajahdaaDoorShMath3
namespace Go.Proofs.YthidblhkajahdaaDoor
open Go.RowKit Go.Shelf Go.Tm Go.Lx Go.Maps
attribute [local go_sem] Oper.semAt_some

theorem kcounts_snoc (K : Int) : ∀ (ks : List Go.Tm.T) (k : Nat), k < ks.length → kcounts K (ks.take (k + 1)) = kcounts K (ks.take k) + kcount K (ks.getD k default)
  | [], _, h => absurd h (Nat.not_lt_zero _)
  | t :: ts, 0, _ => by
    rw [List.take_succ_cons, List.take_zero, List.take_zero, kcounts, kcounts]
    show kcount K t + 0 = 0 + kcount K t
    omega
  | t :: ts, k + 1, h => by
    rw [List.take_succ_cons, List.take_succ_cons, kcounts, kcounts, kcounts_snoc K ts k (by simpa using h)]
    show _ = _ + kcount K (ts.getD k default)
    omega
mutual
theorem kcount_le (K : Int) : ∀ t : Go.Tm.T, kcount K t ≤ t.size
  | .node k s n ks => by
    rw [kcount, T.size]
    have := kcounts_le K ks
    split <;> omega
theorem kcounts_le (K : Int) : ∀ ts : List Go.Tm.T, kcounts K ts ≤ sizes ts
  | [] => by rw [kcounts]; exact Nat.zero_le _
  | t :: ts => by
    rw [kcounts, sizes]
    have := kcount_le K t
    have := kcounts_le K ts
    omega
end
theorem kcount_eq (K : Int) (t : Go.Tm.T) : kcount K t = (if t.kind = K then 1 else 0) + kcounts K t.kids := by cases t; rw [kcount]; rfl
def KindsStmt (K : Int) (n : Nat) : Prop := ∀ (t : Go.Tm.T) (A : Option Addr) (c : Nat) (w : World), t.size ≤ n → t.size ≤ 4611686018427387904 → TmV w (· < w.heap.size) t A c →
    Calls Tryd.prog 30 #[tmV t A c, .int .i64 K] w fun e w' => e = .returned (.int .i64 (kcount K t : Nat)) ∧ Below w.heap.size w w'

set_option maxRecDepth 100000 in
set_option maxHeartbeats 2000000 in
theorem kinds_step (K : Int) (n : Nat) (IH0 : KindsStmt K n) : KindsStmt K (n + 1) := fun t A c w hn hz hT => by
  have IH := Lib.hid IH0
  unfold KindsStmt at IH
  clear IH0
  have hks := kids_lt t
  have hLs := len_sizes t.kids
  have hkz := kcounts_le K t.kids
  replace hT := Lib.hid hT
  unfold tmV
  obtain ⟨L, hL⟩ : ∃ L, t.kids.length = L := ⟨_, rfl⟩
  rw [hL] at hLs ⊢
  obtain ⟨V, hV⟩ : ∃ V, w.alloc (.cells #[.int .i64 t.kind, .string t.name, .int .i64 t.num, .slice A L c] 24) = V := ⟨_, rfl⟩
  have hbx : V.heap[w.heap.size]? = some (.cells #[.int .i64 t.kind, .string t.name, .int .i64 t.num, .slice A L c] 24 (0, 0)) := by rw [← hV]; exact World.alloc_heap_new _ _
  have hbV : Below w.heap.size w V := by rw [← hV]; exact later_alloc _ _
  have hTV := Lib.hid (hT.out.later hbV)
  have hVz : w.heap.size < V.heap.size := World.lt_of_get hbx
  replace hbx := Lib.hid hbx
  replace hbV := Lib.hid hbV
  replace hL := Lib.hid hL
  replace hV := Lib.hid hV
  obtain ⟨m, hm⟩ : ∃ m : Nat, (if t.kind = K then 1 else 0) = m := ⟨_, rfl⟩
  have hm1 : m ≤ 1 := by rw [← hm]; split <;> omega
  have hfin : Hid (kcount K t = m + kcounts K t.kids) := by show _ = _; rw [kcount_eq, hm]
  cases hq : (t.kind == K)
  case' true =>
    obtain rfl : m = 1 := by rw [← hm, if_pos (by simpa using hq)]
    replace hm := Lib.hid hm
    go_enter Tryd.func30, Tryd.ntmps30
    go_wp2_with fail
    try rw [hV.out]
    replace hq := Lib.hid hq
    go_loopw [5, 6] (fun s i wr => ∃ k : Nat, k ≤ L ∧ i = .int .i64 k ∧ s = .int .i64 ((1 + kcounts K (t.kids.take k) : Nat)) ∧ Hid (Below V.heap.size V wr)) (fun _ i _ => L - (intOf i).toNat)
    case atStart => exact ⟨0, Nat.zero_le _, rfl, by rw [List.take_zero, kcounts]; rfl, Below.refl _ _⟩
  case' false =>
    obtain rfl : m = 0 := by rw [← hm, if_neg (by simpa using hq)]
    replace hm := Lib.hid hm
    go_enter Tryd.func30, Tryd.ntmps30
    go_wp2_with fail
    try rw [hV.out]
    replace hq := Lib.hid hq
    go_loopw [5, 6] (fun s i wr => ∃ k : Nat, k ≤ L ∧ i = .int .i64 k ∧ s = .int .i64 ((0 + kcounts K (t.kids.take k) : Nat)) ∧ Hid (Below V.heap.size V wr)) (fun _ i _ => L - (intOf i).toNat)
    case atStart => exact ⟨0, Nat.zero_le _, rfl, by rw [List.take_zero, kcounts]; rfl, Below.refl _ _⟩
  all_goals
    obtain ⟨k, hk, rfl, rfl, hB⟩ := hrel
    have hb2 := (hB.out.block w.heap.size hVz).trans hbx.out
    have p3 := cell_of_row wr w.heap.size 3 _ _ _ hb2
    have hl := World.lt_of_get hb2
    replace hb2 := Lib.hid hb2
    by_cases hlt : k < L
    · have hk9 : k < t.kids.length := by rw [hL.out]; exact hlt
      obtain ⟨kb, ko, rfl, hrow⟩ := (hTV.out.later hB.out).row.resolve_left (fun e => by rw [e] at hk9; exact absurd hk9 (Nat.not_lt_zero _))
      obtain ⟨A2, c2, hh, hv⟩ := node_tmv (hrow.get k hk9)
      have hsn := sizes_snoc t.kids k hk9
      have hle := sizes_take_le t.kids (k + 1)
      have hcs := kcounts_snoc K t.kids k hk9
      have hc1 := kcounts_le K (t.kids.take k)
      obtain ⟨u, hu⟩ : ∃ u, t.kids.getD k default = u := ⟨_, rfl⟩
      rw [hu] at hh hv hsn hcs
      have hc2 := kcount_le K u
      have hun : u.size ≤ n := by omega
      have huz : u.size ≤ 4611686018427387904 := by omega
      replace hu := Lib.hid hu
      clear hrow
      obtain ⟨z1, hz1⟩ : ∃ z, kcounts K (t.kids.take k) = z := ⟨_, rfl⟩
      obtain ⟨z2, hz2⟩ : ∃ z, kcounts K (t.kids.take (k + 1)) = z := ⟨_, rfl⟩
      obtain ⟨z3, hz3⟩ : ∃ z, kcount K u = z := ⟨_, rfl⟩
      have kk := IH.out u A2 c2 wr hun huz hv
      rw [hz3] at kk hcs hc2
      rw [hz1] at hcs hc1 ⊢
      rw [hz2] at hcs
      have hs1 : z1 + z3 ≤ 4611686018427387904 := by omega
      clear hsn hle hc1 hc2
      replace hz1 := Lib.hid hz1
      replace hz3 := Lib.hid hz3
      have c0 := hh.kind
      have c1 := hh.name
      have c2' := hh.num
      have c3 := hh.kids
      replace hh := Lib.hid hh
      clear hv
      unfold tmV at kk
      replace kk := Lib.hid kk
      replace hz2 := Lib.hid hz2
      replace hcs := Lib.hid hcs
      go_wp2_with fail
      refine kk.out.mono ?_
      rintro e w4 ⟨rfl, hb9⟩
      have hB2 := Lib.hid (hB.out.trans (hb9.mono hB.out.size))
      clear hb9 kk
      go_wp2_with fail
      go_roundw
      case rel => exact ⟨k + 1, by omega, by go_num, by rw [hz2.out, hcs.out]; congr 1; push_cast; omega, hB2.out⟩
      case measure => simp [intOf]; omega
    · obtain rfl : k = L := by omega
      first
        | (have h9 : (1 + kcounts K (t.kids.take k)) = kcount K t := by rw [← hL.out, List.take_length]; exact hfin.out.symm
           rw [h9])
        | (have h9 : (0 + kcounts K (t.kids.take k)) = kcount K t := by rw [← hL.out, List.take_length]; exact hfin.out.symm
           rw [h9])
      have hlast := Lib.hid (hbV.out.trans (hB.out.mono (by omega)))
      go_wp2_with fail
      go_ret
      exact ⟨rfl, hlast.out⟩
theorem kinds_any (K : Int) (n : Nat) : KindsStmt K n := by
  induction n with
  | zero => exact fun t _ _ _ h _ _ => by have := kids_lt t; omega
  | succ n ih => exact kinds_step K n ih
end Go.Proofs.YthidblhkajahdaaDoor
namespace Go.Proofs.YthidblhkajahdaaDoor
open Go.RowKit Go.Shelf Go.Tm Go.Lx Go.Maps
attribute [local go_sem] Oper.semAt_some

theorem text_eq (x : Tok) (s : ByteArray) : ((X.strOf x.text).toList == s.toList) = (x.text == s.data.toList) := by
  rw [ByteArray.toList_eq, ByteArray.toList_eq, X.data_strOf]
theorem cnt_snoc (w : List UInt8) (l : List Tok) (k : Nat) (hk : k < l.length) : cntW w (l.take (k + 1)) = cntW w (l.take k) + if ((l.getD k ⟨0, [], 0⟩).text == w) = true then 1 else 0 := by
  rw [List.take_succ_eq_append_getElem hk, List.getD_eq_getElem?_getD, List.getElem?_eq_getElem hk]
  unfold cntW
  rw [List.countP_append, List.countP_singleton]; rfl
theorem cntW_le (w : List UInt8) (l : List Tok) : cntW w l ≤ l.length := List.countP_le_length
theorem showT_len (t : Go.Tm.T) : (showT t).length ≤ 60000 := by
  unfold showT
  split
  · rename_i h
    obtain ⟨h1, h2⟩ := right_rt h
    have := (toks_len h1).1
    omega
  · simp

set_option maxRecDepth 100000 in
set_option maxHeartbeats 2000000 in
theorem words_any (t : Go.Tm.T) (s : ByteArray) (A : Option Addr) (c : Nat) (w : World) (hE : EnvS w) (hz : t.size ≤ 4194304) (hT : TmV w (· < w.heap.size) t A c) :
    Calls Tryd.prog 29 #[tmV t A c, .string s] w fun e w' => e = .returned (.int .i64 (cntW s.data.toList (showT t) : Nat)) ∧ Below w.heap.size w w' := by
  have hbV : Below w.heap.size w (w.alloc (.cells #[.int .i64 t.kind, .string t.name, .int .i64 t.num, .slice A t.kids.length c] 24)) := later_alloc _ _
  have hbx : (w.alloc (.cells #[.int .i64 t.kind, .string t.name, .int .i64 t.num, .slice A t.kids.length c] 24)).heap[w.heap.size]? = some (.cells #[.int .i64 t.kind, .string t.name, .int .i64 t.num, .slice A t.kids.length c] 24 (0, 0)) := World.alloc_heap_new _ _
  have kt := toks_any t A c (w.alloc (.cells #[.int .i64 t.kind, .string t.name, .int .i64 t.num, .slice A t.kids.length c] 24)) (hE.later hbV) hz (hT.later hbV)
  unfold tmV at kt ⊢
  have i0 := cell_of_row _ w.heap.size 0 _ _ _ hbx
  have i1 := cell_of_row _ w.heap.size 1 _ _ _ hbx
  have i2 := cell_of_row _ w.heap.size 2 _ _ _ hbx
  have i3 := cell_of_row _ w.heap.size 3 _ _ _ hbx
  have hl6 := showT_len t
  replace kt := Lib.hid kt
  replace hbV := Lib.hid hbV
  replace hbx := Lib.hid hbx
  clear hE hT
  obtain ⟨ts, hts⟩ : ∃ l, showT t = l := ⟨_, rfl⟩
  rw [hts] at kt hl6 ⊢
  replace hts := Lib.hid hts
  obtain ⟨L, hL⟩ : ∃ n, ts.length = n := ⟨_, rfl⟩
  rw [hL] at kt hl6
  replace hL := Lib.hid hL
  go_enter Tryd.func29, Tryd.ntmps29
  go_wp2_with fail
  refine kt.out.mono ?_
  rintro e w1 ⟨B, d, rfl, hTk, hb1⟩
  have hb := Lib.hid (hbV.out.trans (hb1.mono hbV.out.size))
  replace hTk := Lib.hid hTk
  clear hb1 kt i0 i1 i2 i3 hbx hbV
  go_wp2_with fail
  go_loopw [5, 11] (fun m i wr => ∃ k : Nat, k ≤ L ∧ i = .int .i64 k ∧ m = .int .i64 (cntW s.data.toList (ts.take k) : Nat) ∧ Hid (Below w1.heap.size w1 wr)) (fun _ i _ => L - (intOf i).toNat)
  case atStart => exact ⟨0, Nat.zero_le _, rfl, by rw [List.take_zero]; rfl, Below.refl _ _⟩
  case round =>
    obtain ⟨k, hk, rfl, rfl, hB⟩ := hrel
    by_cases hlt : k < L
    · have hk9 : k < ts.length := by rw [hL.out]; exact hlt
      obtain ⟨b, off, rfl, hbb, hc⟩ := (hTk.out.later hB.out) (by intro e; subst e; simp at hk9)
      obtain ⟨c0, c1, c2⟩ := hc k hk9
      have hsn := cnt_snoc s.data.toList ts k hk9
      have hle := cntW_le s.data.toList (ts.take k)
      have hle2 : (ts.take k).length ≤ k := by rw [List.length_take]; omega
      clear hc
      obtain ⟨x, hx⟩ : ∃ x, ts.getD k ⟨0, [], 0⟩ = x := ⟨_, rfl⟩
      rw [hx] at c0 c1 c2 hsn
      have hte := text_eq x s
      obtain ⟨S, hS⟩ : ∃ S, X.strOf x.text = S := ⟨_, rfl⟩
      rw [hS] at c1 hte
      obtain ⟨z1, hz1⟩ : ∃ z, cntW s.data.toList (ts.take k) = z := ⟨_, rfl⟩
      rw [hz1] at hsn hle ⊢
      have hz9 : z1 ≤ 60000 := by omega
      replace hz1 := Lib.hid hz1
      replace hx := Lib.hid hx
      replace hS := Lib.hid hS
      have hbn := Lib.hid (hB.out.trans ((later_alloc wr (.cells #[.int .i64 x.kind, .string S, .int .i64 x.num] 50)).mono hB.out.size))
      clear hle hle2
      cases hq : (S.toList == s.toList) with
      | true =>
        have hF : Hid (cntW s.data.toList (ts.take (k + 1)) = z1 + 1) := by show _ = _; rw [hsn, ← hte, hq]; rfl
        replace hsn := Lib.hid hsn
        replace hte := Lib.hid hte
        go_wp2_with fail
        go_roundw
        case rel => exact ⟨k + 1, by omega, by go_num, by rw [hF.out]; rfl, hbn.out⟩
        case measure => simp [intOf]; omega
      | false =>
        have hF : Hid (cntW s.data.toList (ts.take (k + 1)) = z1) := by show _ = _; rw [hsn, ← hte, hq]; rfl
        have n2 : ¬ S.toList = s.toList := fun h => by rw [h, beq_self_eq_true] at hq; cases hq
        have d2 : decide (S.toList = s.toList) = false := decide_eq_false n2
        replace hsn := Lib.hid hsn
        replace hte := Lib.hid hte
        go_wp2_with fail
        go_roundw
        case rel => exact ⟨k + 1, by omega, by go_num, by rw [hF.out], hbn.out⟩
        case measure => simp [intOf]; omega
    · obtain rfl : k = L := by omega
      have h9 : cntW s.data.toList (ts.take k) = cntW s.data.toList ts := by rw [← hL.out, List.take_length]
      rw [h9]
      replace h9 := Lib.hid h9
      have hlast := Lib.hid (hb.out.trans (hB.out.mono hb.out.size))
      go_wp2_with fail
      go_ret
      exact ⟨rfl, hlast.out⟩
end Go.Proofs.YthidblhkajahdaaDoor
