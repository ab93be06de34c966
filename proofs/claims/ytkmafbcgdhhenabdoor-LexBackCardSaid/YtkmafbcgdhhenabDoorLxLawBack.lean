/-
  LexBack's walk: true of whatever bytes and note. Conditions: the variables that are read lie as laid; the bytes can be read.
-/
import Derived.Test.YtkmafbcgdhhenabDoorLxSome
import Derived.Test.YtkmafbcgdhhenabDoorLxLawRight
import Derived.Deep.RegionHeld3
import Derived.Deep.DrawnRows
namespace Go.Proofs.YtkmafbcgdhhenabDoor
open Go.RowKit Go.Lx
attribute [local go_sem ↓] Go.wp_at_zero Go.wp_at_succ

/-- tokens with blanks, line feeds and notes between -/
def noteL (u : List UInt8) : List Tok → List UInt8
  | [] => []
  | t :: l => 32 :: 10 :: (t.text ++ 35 :: u ++ 10 :: noteL u l)
theorem noteL_lex {u : List UInt8} (hu : u.all inLine = true) : ∀ l, rightL l = true → lexL (noteL u l) = some l
  | [], _ => rfl
  | t :: l, h => by
    have h1 : rightT t = true ∧ rightL l = true := by unfold rightL at h ⊢; simpa using h
    have ih := noteL_lex hu l h1.2
    show lexL (32 :: 10 :: (t.text ++ 35 :: u ++ 10 :: noteL u l)) = _
    rw [lexL_blank 32 (by simp), lexL_blank 10 (by simp), List.append_assoc, List.cons_append, lexL_tok h1.1 35 (by simp)]
    have := lexL_note u hu (noteL u l)
    rw [List.cons_append] at this
    rw [this, ih]
    rfl
theorem noteL_snoc (u : List UInt8) (t : Tok) : ∀ l, noteL u (l ++ [t]) = noteL u l ++ (32 :: 10 :: (t.text ++ 35 :: u ++ [10]))
  | [] => by simp [noteL]
  | x :: l => by
    show 32 :: 10 :: (x.text ++ 35 :: u ++ 10 :: noteL u (l ++ [t])) = 32 :: 10 :: (x.text ++ 35 :: u ++ 10 :: noteL u l) ++ _
    rw [noteL_snoc u t l]
    simp
theorem noteL_len (u : List UInt8) : ∀ l, (∀ t ∈ l, t.text.length ≤ 10) → (noteL u l).length ≤ l.length * (14 + u.length)
  | [], _ => by simp [noteL]
  | t :: l, h => by
    have ih := noteL_len u l fun x hx => h x (List.mem_cons_of_mem _ hx)
    have h1 := h t (List.mem_cons_self ..)
    have e : (noteL u (t :: l)).length = 4 + t.text.length + u.length + (noteL u l).length := by
      show (32 :: 10 :: (t.text ++ 35 :: u ++ 10 :: noteL u l)).length = _
      simp; omega
    rw [e, List.length_cons, Nat.succ_mul]
    omega
theorem note_step (u : List UInt8) (l : List Tok) (t : Tok) : strOf (noteL u l) ++ ⟨#[32, 10]⟩ ++ strOf t.text ++ ⟨#[35]⟩ ++ strOf u ++ ⟨#[10]⟩ = strOf (noteL u (l ++ [t])) := by
  apply strOf_inj
  rw [noteL_snoc]
  simp only [ByteArray.data_append, Array.toList_append, data_strOf]
  simp
theorem take_succ_get (l : List Tok) (k : Nat) (hk : k < l.length) : l.take (k + 1) = l.take k ++ [l.getD k ⟨0, [], 0⟩] := by
  rw [List.take_succ_eq_append_getElem hk, List.getD_eq_getElem?_getD, List.getElem?_eq_getElem hk]; rfl
theorem some_right {zs : List Int} : rightL (someL zs) = true ∧ ∀ t ∈ someL zs, t.text.length ≤ 10 := by
  have h : ∀ t ∈ someL zs, rightT t = true ∧ t.text.length ≤ 10 := fun t ht => by
    unfold someL at ht
    obtain ⟨z, _, rfl⟩ := List.mem_map.1 ht
    exact all14_right _ (pick_mem z)
  exact ⟨List.all_eq_true.2 fun t ht => (h t ht).1, fun t ht => (h t ht).2⟩
theorem lens_small : ∀ l : List Tok, (∀ t ∈ l, t.text.length ≤ 10) → Lib.lens (l.map (·.text)) ≤ l.length * 10
  | [], _ => by simp [Lib.lens]
  | t :: l, h => by
    have ih := lens_small l fun x hx => h x (List.mem_cons_of_mem _ hx)
    have h1 := h t (List.mem_cons_self ..)
    simp only [Lib.lens, List.map_cons, List.sum_cons, List.length_cons] at ih ⊢
    omega

set_option maxRecDepth 100000 in
set_option maxHeartbeats 2000000 in
theorem lexBack_any (A : Option Addr) (zs : List Int) (c : Nat) (note : ByteArray) (w : World) (hE : Env w) (hU : Bts w w.heap.size A zs) (hz : ∀ z ∈ zs, 0 ≤ z) (hl : zs.length ≤ 9223372036854775807) (hc : zs.length ≤ c) (hc2 : c ≤ 9223372036854775807) (hs : note.size ≤ 140737488355328) :
    Calls Tryd.prog 4 #[.slice A zs.length c, .string note] w fun e w' => e = .returned (.bool true) ∧ Below w.heap.size w w' := by
  have hX := Lib.hid (Now.new hE)
  replace hU := Lib.hid hU
  replace hz := Lib.hid hz
  clear hE
  go_enter Tryd.func4, Tryd.ntmps4
  go_wp2_with fail
  refine (examples_any _ hX.out.env).mono ?_
  rintro e w1 ⟨rfl, hb⟩
  replace hX := Lib.hid (hX.out.later hb)
  replace hU := Lib.hid (hU.out.later hb)
  clear hb
  go_wp2_with fail
  have hy1 : (min (zs.length : Int) 300).toNat = (zs.take 300).length := by rw [List.length_take]; omega
  have hy2 : Hid (Bts w1 w1.heap.size A (zs.take 300)) := fun hn => by
    obtain ⟨b, off, hA, hlt, hcc⟩ := hU.out (by intro e; subst e; simp at hn)
    refine ⟨b, off, hA, hlt, fun j hj => ?_⟩
    rw [List.length_take] at hj
    have h1 := hcc j (by omega)
    rw [List.getD_eq_getElem?_getD] at h1 ⊢
    rw [List.getElem?_take_of_lt (by omega)]
    exact h1
  have hy3 : Hid (∀ z ∈ zs.take 300, 0 ≤ z) := fun z hzz => hz.out z (List.mem_of_mem_take hzz)
  have hy4 : (zs.take 300).length ≤ 300 := by rw [List.length_take]; omega
  have hN : (note.extract 0 (min (note.size : Int) 20).toNat).size ≤ 20 := by rw [ByteArray.size_extract]; omega
  rw [hy1]
  generalize note.extract 0 (min (note.size : Int) 20).toNat = nt at hN ⊢
  generalize zs.take 300 = ys at hy2 hy3 hy4 ⊢
  clear hy1 hU hz
  refine (some_any A ys c w1 hy2.out hy3.out hy4).mono ?_
  rintro e w2 ⟨B, d, rfl, hb, tB, d1, d2⟩
  have hlen : (someL ys).length = ys.length := by unfold someL; rw [List.length_map]
  rw [← hlen] at d1 ⊢
  obtain ⟨hr, ht10⟩ := some_right (zs := ys)
  rw [← hlen] at hy4
  have hY : Hid (NowT w w2 B (someL ys)) := ⟨hX.out.later hb, tB⟩
  clear hX hb tB hy2 hy3 hlen
  generalize someL ys = ts at hY hr ht10 hy4 d1 ⊢
  have hsh : Short ts := fun j => by
    by_cases hj : j < ts.length
    · have := ht10 ts[j] (List.getElem_mem hj)
      rw [List.getD_eq_getElem?_getD, List.getElem?_eq_getElem hj]
      simp only [Option.getD_some]; omega
    · rw [List.getD_eq_getElem?_getD, List.getElem?_eq_none (by omega)]
      show (0 : Nat) ≤ _; omega
  have hj := join_len ts
  have hj2 := lens_small ts ht10
  have hp := lexL_print ts hr
  go_wp2_with fail
  refine (print_any B ts d w2 hY.out.toks (by omega) (by omega)).mono ?_
  rintro e w3 ⟨rfl, hb⟩
  replace hY := Lib.hid (hY.out.later hb)
  clear hb
  generalize Lib.join (ts.map (·.text)) [32] = J at hj hp ⊢
  have hp2 : lexL (strOf J).data.toList = some ts := by rw [data_strOf]; exact hp
  have hJ : (strOf J).size ≤ 65536 := by rw [size_strOf]; omega
  replace hp2 := Lib.hid hp2
  generalize strOf J = z at hp2 hJ ⊢
  clear hp hj hj2
  go_wp2_with fail
  refine (lex_some hY.out.now.env hJ hp2.out).mono ?_
  rintro e w4 ⟨C, cc, rfl, hb, tC, e1, e2, _⟩
  replace hY := Lib.hid (hY.out.later hb)
  replace tC := Lib.hid tC
  replace hr := Lib.hid hr
  replace ht10 := Lib.hid ht10
  replace hsh := Lib.hid hsh
  clear hb hp2 hJ
  have hu := cleanL_all nt.data.toList
  have kc := Lib.hid (fun W => clean_any nt W (by omega))
  have hul : (cleanL nt.data.toList).length ≤ 20 := by
    have h1 : (cleanL nt.data.toList).length ≤ nt.data.toList.length := List.length_filter_le _ _
    rw [size_data] at h1
    omega
  replace hu := Lib.hid hu
  generalize cleanL nt.data.toList = u at hu kc hul
  go_wp2_with fail
  go_loopw [9, 10] (fun v i wr => ∃ k : Nat, k ≤ ts.length ∧ i = .int .i64 k ∧ v = .string (strOf (noteL u (ts.take k))) ∧ Hid (Below w4.heap.size w4 wr)) (fun _ i _ => ts.length - (intOf i).toNat)
  case atStart => exact ⟨0, Nat.zero_le _, rfl, rfl, Below.refl _ _⟩
  case round =>
    obtain ⟨k, hk, rfl, rfl, hB⟩ := hrel
    by_cases hlt : k < ts.length
    · obtain ⟨b, off, rfl, hbb, hcc⟩ := hY.out.toks (by intro e; subst e; simp at hlt)
      have c1 := (hB.out.cell (p := ⟨b, off + k * 3 + 1, none⟩) hbb).trans (hcc k hlt).2.1
      have hst := note_step u (ts.take k) (ts.getD k ⟨0, [], 0⟩)
      rw [← take_succ_get ts k hlt] at hst
      have s1 : (strOf (noteL u (ts.take k))).size ≤ 20000 := by
        rw [size_strOf]
        have h1 := noteL_len u (ts.take k) fun t ht => ht10.out t (List.mem_of_mem_take ht)
        have h2 : (ts.take k).length ≤ 300 := by rw [List.length_take]; omega
        have h3 : (ts.take k).length * (14 + u.length) ≤ 300 * 34 := Nat.mul_le_mul h2 (by omega)
        omega
      have s2 : (strOf (ts.getD k ⟨0, [], 0⟩).text).size ≤ 10 := by
        rw [size_strOf, List.getD_eq_getElem?_getD, List.getElem?_eq_getElem hlt]
        exact ht10.out _ (List.getElem_mem hlt)
      have s3 : (strOf u).size ≤ 20 := by rw [size_strOf]; exact hul
      have hb9 : Hid (Below w4.heap.size w4 wr.drew) := hB.out.drew
      replace hst := Lib.hid hst
      clear hcc
      generalize strOf (noteL u (ts.take k)) = P0 at hst s1 ⊢
      generalize strOf (ts.getD k ⟨0, [], 0⟩).text = T0 at hst s2 c1
      generalize strOf u = U0 at hst s3 kc
      have x1 : ¬ 9223372036854775807 < P0.size + 2 := by omega
      have x2 : ¬ 9223372036854775807 < P0.size + 2 + T0.size := by omega
      have x3 : ¬ 9223372036854775807 < P0.size + 2 + T0.size + 1 := by omega
      have x4 : ¬ 9223372036854775807 < P0.size + 2 + T0.size + 1 + U0.size := by omega
      have x5 : ¬ 9223372036854775807 < P0.size + 2 + T0.size + 1 + U0.size + 1 := by omega
      go_wp2_with fail
      go_region_held3 (fun w' => w'.cell? ⟨b, off + k * 3 + 1, none⟩ = some (.string T0)) (exact c1) (first | (go_at_call 21; refine (kc.out _).mono ?_; rintro e w9 ⟨rfl, rfl⟩))
      all_goals go_wp2
      all_goals go_roundw
      case rel => exact ⟨k + 1, by omega, by go_num, by rw [← hst.out], hb9⟩
      case measure => simp [intOf]; omega
    · obtain rfl : k = ts.length := by omega
      have hfin : Hid (lexL (strOf (noteL u (ts.take ts.length))).data.toList = some ts) := by
        show lexL _ = _
        rw [data_strOf, List.take_length]
        exact noteL_lex hu.out ts hr.out
      have s1 : (strOf (noteL u (ts.take ts.length))).size ≤ 65536 := by
        rw [size_strOf, List.take_length]
        have h1 := noteL_len u ts ht10.out
        have h3 : ts.length * (14 + u.length) ≤ 300 * 34 := Nat.mul_le_mul hy4 (by omega)
        omega
      generalize strOf (noteL u (ts.take ts.length)) = Z at hfin s1 ⊢
      replace hY := Lib.hid (hY.out.later hB.out)
      replace tC := Lib.hid (tC.out.later hB.out)
      go_wp2_with fail
      refine (lex_some hY.out.now.env s1 hfin.out).mono ?_
      rintro e w5 ⟨D, cd, rfl, hb, tD, f1, f2, _⟩
      replace hY := Lib.hid (hY.out.later hb)
      replace tC := Lib.hid (tC.out.later hb)
      replace tD := Lib.hid tD
      have kr := rights_any B ts d w5 hY.out.now.env hY.out.toks hsh.out (by omega)
      rw [hr.out] at kr
      replace kr := Lib.hid kr
      clear hb hfin s1
      go_wp2_with fail
      refine kr.out.mono ?_
      rintro e w6 ⟨rfl, hb⟩
      replace hY := Lib.hid (hY.out.later hb)
      replace tC := Lib.hid (tC.out.later hb)
      replace tD := Lib.hid (tD.out.later hb)
      clear hb kr
      go_wp2_with fail
      refine (same_any C B ts cc d w6 tC.out hY.out.toks (by omega)).mono ?_
      rintro e w7 ⟨rfl, hb⟩
      replace hY := Lib.hid (hY.out.later hb)
      replace tD := Lib.hid (tD.out.later hb)
      clear hb
      go_wp2_with fail
      refine (same_any D B ts cd d w7 tD.out hY.out.toks (by omega)).mono ?_
      rintro e w8 ⟨rfl, hb⟩
      replace hY := Lib.hid (hY.out.later hb)
      clear hb
      go_wp2_with fail
      go_ret
      exact ⟨rfl, hY.out.now.below⟩
end Go.Proofs.YtkmafbcgdhhenabDoor
