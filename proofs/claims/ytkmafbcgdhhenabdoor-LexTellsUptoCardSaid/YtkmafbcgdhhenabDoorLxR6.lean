/-
  The walk of the reference's right. Condition: the text is shorter than 2^47 bytes.
-/
import Derived.Test.YtkmafbcgdhhenabDoorLxR5
namespace Go.Proofs.YtkmafbcgdhhenabDoor
open Go.RowKit Go.Lx

set_option maxRecDepth 100000 in
set_option maxHeartbeats 40000000 in
theorem refright_any (k : Int) (s : ByteArray) (n : Int) (w : World) (hs : s.size ≤ 140737488355328) :
    Calls Tryd.prog 31 #[.agg #[.int .i64 k, .string s, .int .i64 n]] w fun e w' => e = .returned (.bool (refRight ⟨k, s.data.toList, n⟩)) ∧ Below w.heap.size w w' := by
  have hb0 := Lib.hid (later_alloc w (.cells #[.int .i64 k, .string s, .int .i64 n] 51))
  have hx0 := Lib.hid (BoxT.new w 51 (.int .i64 k) (.string s) (.int .i64 n))
  generalize hR : refRight ⟨k, s.data.toList, n⟩ = R
  unfold refRight at hR
  dsimp only at hR
  have c0 := hx0.out.c0
  have c1 := hx0.out.c1
  have c2 := hx0.out.c2
  have hn0 : (n == 0) = decide (n = 0) := rfl
  by_cases k1 : k = 1
  · subst k1
    rw [if_pos rfl] at hR
    have kn := refname_any s (w.alloc (.cells #[.int .i64 1, .string s, .int .i64 n] 51)) (by omega)
    have kk := refkeyword_any s (w.alloc (.cells #[.int .i64 1, .string s, .int .i64 n] 51))
    rw [show nameL s.data.toList = nameB s from rfl] at hR
    generalize nameB s = b1 at hR kn
    generalize isKey s.data.toList = b2 at hR kk
    replace kn := Lib.hid kn
    replace kk := Lib.hid kk
    cases b1 with
    | false =>
      obtain rfl : false = R := by simpa using hR
      clear hR hn0
      go_enter Tryd.func31, Tryd.ntmps31
      go_wp2_with fail
      refine kn.out.mono ?_
      rintro e w' ⟨rfl, rfl⟩
      go_wp2_with fail
      go_ret
      exact ⟨rfl, hb0.out⟩
    | true =>
      cases b2 with
      | true =>
        obtain rfl : false = R := by simpa using hR
        clear hR hn0
        go_enter Tryd.func31, Tryd.ntmps31
        go_wp2_with fail
        refine kn.out.mono ?_
        rintro e w' ⟨rfl, rfl⟩
        go_wp2_with fail
        refine kk.out.mono ?_
        rintro e W1 ⟨rfl, hb⟩
        replace hb0 := Lib.hid (hb0.out.trans (hb.mono hb0.out.size))
        clear hb
        go_wp2_with fail
        go_ret
        exact ⟨rfl, hb0.out⟩
      | false =>
        have hR2 : Hid (decide (n = 0) = R) := by show _ = _; simpa using hR
        clear hR hn0
        go_enter Tryd.func31, Tryd.ntmps31
        go_wp2_with fail
        refine kn.out.mono ?_
        rintro e w' ⟨rfl, rfl⟩
        go_wp2_with fail
        refine kk.out.mono ?_
        rintro e W1 ⟨rfl, hb⟩
        replace hx0 := Lib.hid (hx0.out.later hb)
        replace hb0 := Lib.hid (hb0.out.trans (hb.mono hb0.out.size))
        clear hb c0 c1 c2
        have c2 := hx0.out.c2
        go_wp2_with fail
        go_ret
        exact ⟨ret_bool (by rw [← hR2.out]; rfl), hb0.out⟩
  rw [if_neg k1] at hR
  have e1 : (k == 1) = false := by simpa using k1
  by_cases k2 : k = 2
  · subst k2
    rw [if_pos rfl] at hR
    have kn := refnumber_any s (w.alloc (.cells #[.int .i64 2, .string s, .int .i64 n] 51)) hs
    generalize refNum s.data.toList = o at hR kn
    replace kn := Lib.hid kn
    cases o with
    | none =>
      obtain rfl : false = R := hR
      clear hn0 k1
      go_enter Tryd.func31, Tryd.ntmps31
      go_wp2_with fail
      refine kn.out.mono ?_
      rintro e W1 ⟨rfl, hb⟩
      rw [show numV none = .tuple #[.int .i64 0, .bool false] from rfl]
      replace hb0 := Lib.hid (hb0.out.trans (hb.mono hb0.out.size))
      clear hb
      go_wp2_with fail
      go_ret
      exact ⟨rfl, hb0.out⟩
    | some m =>
      have hR2 : Hid (decide ((m : Int) = n) = R) := hR
      clear hR hn0 k1
      go_enter Tryd.func31, Tryd.ntmps31
      go_wp2_with fail
      refine kn.out.mono ?_
      rintro e W1 ⟨rfl, hb⟩
      rw [show numV (some m) = .tuple #[.int .i64 (m : Int), .bool true] from rfl]
      replace hx0 := Lib.hid (hx0.out.later hb)
      replace hb0 := Lib.hid (hb0.out.trans (hb.mono hb0.out.size))
      clear hb c0 c1 c2
      have c2 := hx0.out.c2
      go_wp2_with fail
      go_ret
      exact ⟨ret_bool (by rw [← hR2.out]; rfl), hb0.out⟩
  rw [if_neg k2] at hR
  have e2 : (k == 2) = false := by simpa using k2
  by_cases k3 : k = 3
  · subst k3
    rw [if_pos rfl] at hR
    have kk := refkeyword_any s (w.alloc (.cells #[.int .i64 3, .string s, .int .i64 n] 51))
    generalize isKey s.data.toList = b2 at hR kk
    replace kk := Lib.hid kk
    cases b2 with
    | false =>
      obtain rfl : false = R := by simpa using hR
      clear hR hn0 k1 k2
      go_enter Tryd.func31, Tryd.ntmps31
      go_wp2_with fail
      refine kk.out.mono ?_
      rintro e W1 ⟨rfl, hb⟩
      replace hb0 := Lib.hid (hb0.out.trans (hb.mono hb0.out.size))
      clear hb
      go_wp2_with fail
      go_ret
      exact ⟨rfl, hb0.out⟩
    | true =>
      have hR2 : Hid (decide (n = 0) = R) := by show _ = _; simpa using hR
      clear hR hn0 k1 k2
      go_enter Tryd.func31, Tryd.ntmps31
      go_wp2_with fail
      refine kk.out.mono ?_
      rintro e W1 ⟨rfl, hb⟩
      replace hx0 := Lib.hid (hx0.out.later hb)
      replace hb0 := Lib.hid (hb0.out.trans (hb.mono hb0.out.size))
      clear hb c0 c1 c2
      have c2 := hx0.out.c2
      go_wp2_with fail
      go_ret
      exact ⟨ret_bool (by rw [← hR2.out]; rfl), hb0.out⟩
  rw [if_neg k3] at hR
  have e3 : (k == 3) = false := by simpa using k3
  by_cases k4 : k = 4
  · subst k4
    rw [if_pos rfl] at hR
    have hx1 : Hid (BoxT (w.alloc (.cells #[.int .i64 4, .string s, .int .i64 n] 51)).drew 51 w.heap.size (.int .i64 4) (.string s) (.int .i64 n)) := hx0.out.later (Below.refl _ _).drew
    have hb1 : Hid (Below w.heap.size w (w.alloc (.cells #[.int .i64 4, .string s, .int .i64 n] 51)).drew) := hb0.out.drew
    have hh : hasT marksL s.data.toList = marksL.contains s.data.toList := rfl
    rw [← hh] at hR
    have km : Hid (∀ (W : World) (b : Nat), Txt W b marksL → Calls Tryd.prog 33 #[.slice (some ⟨b, 0, none⟩) 13 13, .string s] W fun e w' => e = .returned (.bool (hasT marksL s.data.toList)) ∧ w' = W) := fun W b hT => has_any b marksL 13 s W hT (by decide)
    have e9 := Lib.hid (show (w.alloc (.cells #[.int .i64 4, .string s, .int .i64 n] 51)).drew.heap.size = w.heap.size + 1 by simp [World.drew])
    generalize hasT marksL s.data.toList = b2 at hR km
    cases b2 with
    | false =>
      obtain rfl : false = R := by simpa using hR
      clear hR hn0 k1 k2 k3 hh
      go_enter Tryd.func31, Tryd.ntmps31
      go_wp2_with fail
      first
        | go_region_with (first | (go_at_call 46; refine (marks_any _).mono ?_; rintro e w9 ⟨rfl, hb9, hT9⟩; have hx9 := Lib.hid (hx1.out.later hb9); have c19 := hx9.out.c1; have hbb := Lib.hid (hb1.out.trans (hb9.mono hb1.out.size)); rw [e9.out] at hT9; replace hT9 := Lib.hid hT9; clear hb9) | (go_at_call 33; refine (km.out _ _ hT9.out).mono ?_; rintro e w10 ⟨rfl, rfl⟩))
        | fail
      all_goals go_wp2
      all_goals go_ret
      all_goals exact ⟨rfl, hbb.out⟩
    | true =>
      have hR2 : Hid (decide (n = 0) = R) := by show _ = _; simpa using hR
      clear hR hn0 k1 k2 k3 hh
      go_enter Tryd.func31, Tryd.ntmps31
      go_wp2_with fail
      go_region_with (first | (go_at_call 46; refine (marks_any _).mono ?_; rintro e w9 ⟨rfl, hb9, hT9⟩; have hx9 := Lib.hid (hx1.out.later hb9); have c19 := hx9.out.c1; have c29 := hx9.out.c2; have hbb := Lib.hid (hb1.out.trans (hb9.mono hb1.out.size)); rw [e9.out] at hT9; replace hT9 := Lib.hid hT9; clear hb9) | (go_at_call 33; refine (km.out _ _ hT9.out).mono ?_; rintro e w10 ⟨rfl, rfl⟩))
      all_goals go_wp2
      all_goals go_ret
      all_goals exact ⟨ret_bool (by rw [← hR2.out]; rfl), hbb.out⟩
  rw [if_neg k4] at hR
  have e4 : (k == 4) = false := by simpa using k4
  subst hR
  clear k1 k2 k3 k4 hn0
  go_enter Tryd.func31, Tryd.ntmps31
  go_wp2_with fail
  go_ret
  exact ⟨rfl, hb0.out⟩
end Go.Proofs.YtkmafbcgdhhenabDoor
