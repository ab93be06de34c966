/-
  LexKinds's walk: true of whatever text. Conditions: the variables that are read lie as laid; the text is shorter than 2^47 bytes.
-/
import Derived.Test.YtkmafbcgdhhenabDoorLxEx
namespace Go.Proofs.YtkmafbcgdhhenabDoor
open Go.RowKit Go.Lx

theorem one_toks {W : World} {t : Tok} : Toks (W.alloc (.cells #[.int .i64 t.kind, .string (strOf t.text), .int .i64 t.num] 41)) (W.alloc (.cells #[.int .i64 t.kind, .string (strOf t.text), .int .i64 t.num] 41)).heap.size (some ⟨W.heap.size, 0, none⟩) [t] := fun _ => by
  have h := Box3.new W (.int .i64 t.kind) (.string (strOf t.text)) (.int .i64 t.num)
  refine ⟨W.heap.size, 0, rfl, h.lt, fun j hj => ?_⟩
  obtain rfl : j = 0 := by simp at hj; omega
  exact ⟨h.c0, h.c1, h.c2⟩
theorem one_short {t : Tok} (h : t.text.length ≤ 140737488355328) : Short [t] := fun j => by
  cases j with
  | zero => exact h
  | succ j => rw [List.getD_cons_succ]; show (0 : Nat) ≤ _; omega
theorem rightL_one (t : Tok) : rightL [t] = rightT t := by unfold rightL; simp
/-- Right of one token in new memory -/
theorem right_one {w W : World} (hX : Now w W) (k : Int) (s : ByteArray) (hs : s.size ≤ 140737488355328) {r : Bool} (hr : rightT ⟨k, s.data.toList, 0⟩ = r) :
    Calls Tryd.prog 13 #[.slice (some ⟨W.heap.size, 0, none⟩) 1 1] (W.alloc (.cells #[.int .i64 k, .string s, .int .i64 0] 41)) fun e w' => e = .returned (.bool r) ∧ Hid (Now w w') := by
  have h := one_toks (W := W) (t := ⟨k, s.data.toList, 0⟩)
  dsimp only at h
  rw [strOf_data] at h
  have hb := later_alloc W (.cells #[.int .i64 k, .string s, .int .i64 0] 41)
  exact (rights_any (some ⟨W.heap.size, 0, none⟩) [⟨k, s.data.toList, 0⟩] 1 _ (hX.later hb).env h (one_short (by show s.data.toList.length ≤ _; rw [size_data]; exact hs)) (by simp)).mono fun e w' ⟨h1, h2⟩ => ⟨by rw [h1, rightL_one, hr], (hX.later hb).later h2⟩

set_option maxRecDepth 100000 in
set_option maxHeartbeats 2000000 in
theorem kinds_tt (s : ByteArray) (w : World) (hE : Env w) (hs : s.size ≤ 140737488355328) (hk : isKey s.data.toList = true) (hn : nameB s = true) :
    Calls Tryd.prog 8 #[.string s] w fun e w' => e = .returned (.bool true) ∧ Below w.heap.size w w' := by
  have hX := Lib.hid (Now.new hE)
  have r1 : rightT ⟨3, s.data.toList, 0⟩ = true := by rw [key_right]; exact hk
  have r2 : rightT ⟨1, s.data.toList, 0⟩ = false := by
    rw [name_right, hk, show nameL s.data.toList = true from hn]; rfl
  replace r1 := Lib.hid r1
  replace r2 := Lib.hid r2
  replace hk := Lib.hid hk
  replace hn := Lib.hid hn
  clear hE
  go_enter Tryd.func8, Tryd.ntmps8
  go_wp2_with fail
  refine (examples_any _ hX.out.env).mono ?_
  rintro e w1 ⟨rfl, hb⟩
  replace hX := Lib.hid (hX.out.later hb)
  clear hb
  go_wp2_with fail
  refine (right_one hX.out 3 s hs r1.out).mono ?_
  rintro e w2 ⟨rfl, hX⟩
  go_wp2_with fail
  refine (right_one hX.out 1 s hs r2.out).mono ?_
  rintro e w3 ⟨rfl, hX⟩
  clear r1 r2
  go_wp2_with fail
  replace hk := hk.out
  replace hn := hn.out
  have hlx : lexL s.data.toList = some [⟨3, s.data.toList, 0⟩] := lexL_one (t := ⟨3, s.data.toList, 0⟩) (by rw [key_right]; exact hk)
  have hsz : s.size ≤ 65536 := by
    rw [← size_data]
    have := keys_short _ hk
    omega
  refine (lex_some hX.out.env hsz hlx).mono ?_
  rintro e w4 ⟨A, c, rfl, hb, hT, hc1, hc2, _⟩
  replace hX := Lib.hid (hX.out.later hb)
  obtain ⟨b, off, rfl, hbb, hc⟩ := hT (by simp)
  have c0 : w4.cell? ⟨b, off, none⟩ = some (.int .i64 3) := (hc 0 (by simp)).1
  have c1 := (hc 0 (by simp)).2.1
  rw [show (([⟨3, s.data.toList, 0⟩] : List Tok).getD 0 ⟨0, [], 0⟩).text = s.data.toList from rfl, strOf_data] at c1
  have c1 : w4.cell? ⟨b, off + 1, none⟩ = some (.string s) := c1
  have kk := keyword_any s w4 hX.out.env
  rw [hk] at kk
  replace kk := Lib.hid kk
  have kn := name_any s w4 (by omega)
  rw [hn] at kn
  replace kn := Lib.hid kn
  clear hc hb hT hlx hsz hk hn
  go_wp2_with fail
  refine kk.out.mono ?_
  rintro e w' ⟨rfl, rfl⟩
  go_wp2_with fail
  refine kn.out.mono ?_
  rintro e w' ⟨rfl, rfl⟩
  go_wp2_with fail
  go_ret
  exact ⟨rfl, hX.out.below⟩

set_option maxRecDepth 100000 in
set_option maxHeartbeats 2000000 in
theorem kinds_tf (s : ByteArray) (w : World) (hE : Env w) (hs : s.size ≤ 140737488355328) (hk : isKey s.data.toList = true) (hn : nameB s = false) :
    Calls Tryd.prog 8 #[.string s] w fun e w' => e = .returned (.bool true) ∧ Below w.heap.size w w' := by
  have hX := Lib.hid (Now.new hE)
  have r1 : rightT ⟨3, s.data.toList, 0⟩ = true := by rw [key_right]; exact hk
  have r2 : rightT ⟨1, s.data.toList, 0⟩ = false := by
    rw [name_right, hk, show nameL s.data.toList = false from hn]; rfl
  replace r1 := Lib.hid r1
  replace r2 := Lib.hid r2
  replace hk := Lib.hid hk
  replace hn := Lib.hid hn
  clear hE
  go_enter Tryd.func8, Tryd.ntmps8
  go_wp2_with fail
  refine (examples_any _ hX.out.env).mono ?_
  rintro e w1 ⟨rfl, hb⟩
  replace hX := Lib.hid (hX.out.later hb)
  clear hb
  go_wp2_with fail
  refine (right_one hX.out 3 s hs r1.out).mono ?_
  rintro e w2 ⟨rfl, hX⟩
  go_wp2_with fail
  refine (right_one hX.out 1 s hs r2.out).mono ?_
  rintro e w3 ⟨rfl, hX⟩
  clear r1 r2
  go_wp2_with fail
  replace hk := hk.out
  replace hn := hn.out
  have hlx : lexL s.data.toList = some [⟨3, s.data.toList, 0⟩] := lexL_one (t := ⟨3, s.data.toList, 0⟩) (by rw [key_right]; exact hk)
  have hsz : s.size ≤ 65536 := by
    rw [← size_data]
    have := keys_short _ hk
    omega
  refine (lex_some hX.out.env hsz hlx).mono ?_
  rintro e w4 ⟨A, c, rfl, hb, hT, hc1, hc2, _⟩
  replace hX := Lib.hid (hX.out.later hb)
  obtain ⟨b, off, rfl, hbb, hc⟩ := hT (by simp)
  have c0 : w4.cell? ⟨b, off, none⟩ = some (.int .i64 3) := (hc 0 (by simp)).1
  have c1 := (hc 0 (by simp)).2.1
  rw [show (([⟨3, s.data.toList, 0⟩] : List Tok).getD 0 ⟨0, [], 0⟩).text = s.data.toList from rfl, strOf_data] at c1
  have c1 : w4.cell? ⟨b, off + 1, none⟩ = some (.string s) := c1
  have kk := keyword_any s w4 hX.out.env
  rw [hk] at kk
  replace kk := Lib.hid kk
  have kn := name_any s w4 (by omega)
  rw [hn] at kn
  replace kn := Lib.hid kn
  clear hc hb hT hlx hsz hk hn
  go_wp2_with fail
  refine kk.out.mono ?_
  rintro e w' ⟨rfl, rfl⟩
  go_wp2_with fail
  refine kn.out.mono ?_
  rintro e w' ⟨rfl, rfl⟩
  go_wp2_with fail
  go_ret
  exact ⟨rfl, hX.out.below⟩

set_option maxRecDepth 100000 in
set_option maxHeartbeats 2000000 in
theorem kinds_ft (s : ByteArray) (w : World) (hE : Env w) (hs : s.size ≤ 140737488355328) (hk : isKey s.data.toList = false) (hn : nameB s = true) :
    Calls Tryd.prog 8 #[.string s] w fun e w' => e = .returned (.bool true) ∧ Below w.heap.size w w' := by
  have hX := Lib.hid (Now.new hE)
  have r1 : rightT ⟨3, s.data.toList, 0⟩ = false := by rw [key_right]; exact hk
  have r2 : rightT ⟨1, s.data.toList, 0⟩ = true := by
    rw [name_right, hk, show nameL s.data.toList = true from hn]; rfl
  replace r1 := Lib.hid r1
  replace r2 := Lib.hid r2
  replace hk := Lib.hid hk
  replace hn := Lib.hid hn
  clear hE
  go_enter Tryd.func8, Tryd.ntmps8
  go_wp2_with fail
  refine (examples_any _ hX.out.env).mono ?_
  rintro e w1 ⟨rfl, hb⟩
  replace hX := Lib.hid (hX.out.later hb)
  clear hb
  go_wp2_with fail
  refine (right_one hX.out 3 s hs r1.out).mono ?_
  rintro e w2 ⟨rfl, hX⟩
  go_wp2_with fail
  refine (right_one hX.out 1 s hs r2.out).mono ?_
  rintro e w3 ⟨rfl, hX⟩
  clear r1 r2
  go_wp2_with fail
  replace hk := hk.out
  replace hn := hn.out
  have hlx : lexL s.data.toList = some [⟨1, s.data.toList, 0⟩] := lexL_one (t := ⟨1, s.data.toList, 0⟩) (by rw [name_right, hk, show nameL s.data.toList = true from hn]; rfl)
  have hsz : s.size ≤ 65536 := by
    rw [← size_data]
    have := (headRun_name hn).2.2
    omega
  refine (lex_some hX.out.env hsz hlx).mono ?_
  rintro e w4 ⟨A, c, rfl, hb, hT, hc1, hc2, _⟩
  replace hX := Lib.hid (hX.out.later hb)
  obtain ⟨b, off, rfl, hbb, hc⟩ := hT (by simp)
  have c0 : w4.cell? ⟨b, off, none⟩ = some (.int .i64 1) := (hc 0 (by simp)).1
  have c1 := (hc 0 (by simp)).2.1
  rw [show (([⟨1, s.data.toList, 0⟩] : List Tok).getD 0 ⟨0, [], 0⟩).text = s.data.toList from rfl, strOf_data] at c1
  have c1 : w4.cell? ⟨b, off + 1, none⟩ = some (.string s) := c1
  have kk := keyword_any s w4 hX.out.env
  rw [hk] at kk
  replace kk := Lib.hid kk
  have kn := name_any s w4 (by omega)
  rw [hn] at kn
  replace kn := Lib.hid kn
  clear hc hb hT hlx hsz hk hn
  go_wp2_with fail
  refine kk.out.mono ?_
  rintro e w' ⟨rfl, rfl⟩
  go_wp2_with fail
  refine kn.out.mono ?_
  rintro e w' ⟨rfl, rfl⟩
  go_wp2_with fail
  go_ret
  exact ⟨rfl, hX.out.below⟩

set_option maxRecDepth 100000 in
set_option maxHeartbeats 2000000 in
theorem kinds_ff (s : ByteArray) (w : World) (hE : Env w) (hs : s.size ≤ 140737488355328) (hk : isKey s.data.toList = false) (hn : nameB s = false) :
    Calls Tryd.prog 8 #[.string s] w fun e w' => e = .returned (.bool true) ∧ Below w.heap.size w w' := by
  have hX := Lib.hid (Now.new hE)
  have r1 : rightT ⟨3, s.data.toList, 0⟩ = false := by rw [key_right]; exact hk
  have r2 : rightT ⟨1, s.data.toList, 0⟩ = false := by
    rw [name_right, hk, show nameL s.data.toList = false from hn]; rfl
  replace r1 := Lib.hid r1
  replace r2 := Lib.hid r2
  replace hk := Lib.hid hk
  replace hn := Lib.hid hn
  clear hE
  go_enter Tryd.func8, Tryd.ntmps8
  go_wp2_with fail
  refine (examples_any _ hX.out.env).mono ?_
  rintro e w1 ⟨rfl, hb⟩
  replace hX := Lib.hid (hX.out.later hb)
  clear hb
  go_wp2_with fail
  refine (right_one hX.out 3 s hs r1.out).mono ?_
  rintro e w2 ⟨rfl, hX⟩
  go_wp2_with fail
  refine (right_one hX.out 1 s hs r2.out).mono ?_
  rintro e w3 ⟨rfl, hX⟩
  clear r1 r2
  go_wp2_with fail
  replace hk := hk.out
  replace hn := hn.out
  refine (lex_any s _ hX.out.env (by omega)).mono ?_
  rintro e w4 ⟨hb, ho⟩
  replace hX := Lib.hid (hX.out.later hb)
  have kk := keyword_any s w4 hX.out.env
  rw [hk] at kk
  replace kk := Lib.hid kk
  have kn := name_any s w4 (by omega)
  rw [hn] at kn
  replace kn := Lib.hid kn
  clear hb hk hn
  rcases ho with ⟨h1, rfl⟩ | ⟨h1, _, rfl⟩ | ⟨h1, l, A, c, _, rfl, _, hc1, hc2, _⟩
  all_goals
    go_wp2_with fail
    refine kk.out.mono ?_
    rintro e w' ⟨rfl, rfl⟩
    go_wp2_with fail
    refine kn.out.mono ?_
    rintro e w' ⟨rfl, rfl⟩
    go_wp2_with fail
    go_ret
    exact ⟨rfl, hX.out.below⟩

theorem lexKinds_any (s : ByteArray) (w : World) (hE : Env w) (hs : s.size ≤ 140737488355328) :
    Calls Tryd.prog 8 #[.string s] w fun e w' => e = .returned (.bool true) ∧ Below w.heap.size w w' := by
  cases hk : isKey s.data.toList <;> cases hn : nameB s
  · exact kinds_ff s w hE hs hk hn
  · exact kinds_ft s w hE hs hk hn
  · exact kinds_tf s w hE hs hk hn
  · exact kinds_tt s w hE hs hk hn
end Go.Proofs.YtkmafbcgdhhenabDoor
