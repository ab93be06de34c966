/-
  The chapter's examples, as the statements ask them first: true. Condition: the library's variables lie as laid.
-/
import Derived.Test.YtieamjpfmjkchaaDoorLtParse
import Derived.Test.YtieamjpfmjkchaaDoorLtPrint
namespace Go.Proofs.YtieamjpfmjkchaaDoor
open Go.RowKit Go.Shelf Go.Lt

def nsT : List ByteArray := [⟨#[76, 111]⟩, ⟨#[72, 105]⟩]
def usT : List Nat := [3, 2]
def nsD : List ByteArray := [⟨#[76]⟩, ⟨#[65]⟩, ⟨#[66]⟩, ⟨#[72]⟩]
def usD : List Nat := [15, 10, 12, 8]
def T1 : ByteArray := ⟨#[76, 111, 32, 72, 105, 10, 49, 49, 10, 48, 49, 10]⟩
def T2 : ByteArray := ⟨#[76, 111, 32, 72, 105, 10, 49, 49, 10, 49, 49, 10]⟩
def T3 : ByteArray := ⟨#[65, 32, 66, 10, 49, 48, 10, 48, 49, 10]⟩
def T4 : ByteArray := ⟨#[65, 32, 66, 10, 49, 48, 10, 48, 49]⟩
theorem t1_err : parseErr T1 = 0 := by kernel_rfl
theorem t1_names : pnames T1 = nsT := by kernel_rfl
theorem t1_rows : prows T1 = usT := by kernel_rfl
theorem t2_err : parseErr T2 = 3 := by kernel_rfl
theorem t3_err : parseErr T3 = 4 := by kernel_rfl
theorem t4_err : parseErr T4 = 2 := by kernel_rfl
theorem x_join : joinI nsT usT 0 1 = 1 := by kernel_rfl
theorem x_bottom : bottomI nsT usT = 0 := by kernel_rfl
theorem x_top : topI nsT usT = 1 := by kernel_rfl
theorem x_right : rightB nsD usD = true := by kernel_rfl
theorem x_rightT : rightB nsT usT = true := by kernel_rfl
theorem x_joinD : joinI nsD usD 1 2 = 3 := by kernel_rfl
theorem x_meetD : meetI nsD usD 1 2 = 0 := by kernel_rfl
theorem x_findB : findI nsD ⟨#[66]⟩ = 2 := by kernel_rfl
theorem x_findC : findI nsD ⟨#[67]⟩ = -1 := by kernel_rfl
theorem x_print : printL nsT usT = [76, 111, 32, 72, 105, 10, 49, 49, 10, 48, 49, 10] := by kernel_rfl
theorem x_leq1 : leqB 4 usD 1 3 = true := by kernel_rfl
theorem x_leq2 : leqB 4 usD 1 2 = false := by kernel_rfl
theorem x_name1 : nameB ⟨#[97, 49]⟩ = true := by kernel_rfl
theorem x_name2 : nameB ⟨#[49, 97]⟩ = false := by kernel_rfl
theorem x_none : rightB [] [] = false := by kernel_rfl

set_option maxHeartbeats 400000 in
theorem diamond_any (w : World) : Calls Tryd.prog 33 #[] w fun e w' => ∃ A B, e = .returned (.agg #[.slice A 4 4, .slice B 4 4]) ∧ LatAt w' A B 4 nsD usD ∧ Below w.heap.size w w' := by
  go_enter Tryd.func33, Tryd.ntmps33
  go_wp2
  obtain ⟨V, hV⟩ : ∃ V, ((w.alloc (.cells #[.slice (some ⟨w.heap.size + 1, 0, none⟩) 4 4, .slice (some ⟨w.heap.size + 1 + 1, 0, none⟩) 4 4] 25)).alloc (.cells #[.string ⟨#[76]⟩, .string ⟨#[65]⟩, .string ⟨#[66]⟩, .string ⟨#[72]⟩] 9)).alloc (.cells #[.int .u64 15, .int .u64 10, .int .u64 12, .int .u64 8] 50) = V := ⟨_, rfl⟩
  have hB : Below w.heap.size w V := by rw [← hV]; exact (((Below.refl _ _).alloc (Nat.le_refl _) _).alloc (by simp) _).alloc (by simp; omega) _
  have hsz : V.heap.size = w.heap.size + 3 := by rw [← hV]; simp
  have h0 : V.heap[w.heap.size]? = some (.cells #[.slice (some ⟨w.heap.size + 1, 0, none⟩) 4 4, .slice (some ⟨w.heap.size + 1 + 1, 0, none⟩) 4 4] 25 (0, 0)) := by
    rw [← hV, Below.heap_alloc _ _ _ (by simp; omega), Below.heap_alloc _ _ _ (by simp)]; exact World.alloc_heap_new w _
  have h1 : V.heap[w.heap.size + 1]? = some (.cells #[.string ⟨#[76]⟩, .string ⟨#[65]⟩, .string ⟨#[66]⟩, .string ⟨#[72]⟩] 9 (0, 0)) := by
    rw [← hV, Below.heap_alloc _ _ _ (by simp)]
    have := World.alloc_heap_new (w.alloc (.cells #[.slice (some ⟨w.heap.size + 1, 0, none⟩) 4 4, .slice (some ⟨w.heap.size + 1 + 1, 0, none⟩) 4 4] 25)) (.cells #[.string ⟨#[76]⟩, .string ⟨#[65]⟩, .string ⟨#[66]⟩, .string ⟨#[72]⟩] 9)
    rwa [World.size_alloc] at this
  have h2 : V.heap[w.heap.size + 1 + 1]? = some (.cells #[.int .u64 15, .int .u64 10, .int .u64 12, .int .u64 8] 50 (0, 0)) := by
    rw [← hV]
    have := World.alloc_heap_new ((w.alloc (.cells #[.slice (some ⟨w.heap.size + 1, 0, none⟩) 4 4, .slice (some ⟨w.heap.size + 1 + 1, 0, none⟩) 4 4] 25)).alloc (.cells #[.string ⟨#[76]⟩, .string ⟨#[65]⟩, .string ⟨#[66]⟩, .string ⟨#[72]⟩] 9)) (.cells #[.int .u64 15, .int .u64 10, .int .u64 12, .int .u64 8] 50)
    simp only [World.size_alloc] at this
    exact this
  have x0 := cell_of_row _ w.heap.size 0 _ _ _ h0
  have x1 := cell_of_row _ w.heap.size 1 _ _ _ h0
  rw [hV]
  refine bodyPost_ret (v := .agg #[.slice (some ⟨w.heap.size + 1, 0, none⟩) 4 4, .slice (some ⟨w.heap.size + 1 + 1, 0, none⟩) 4 4]) ?_ rfl ?_
  · simp [results, Tryd.f33, go_sem, x0, x1]
  · refine ⟨_, _, rfl, ?_, hB⟩
    exact
      { names := fun _ => ⟨w.heap.size + 1, 0, rfl, by omega, fun j hj => by
          have hj : j < 4 := hj
          rw [Nat.zero_add, cell_of_row _ (w.heap.size + 1) j _ _ _ h1]
          have : j = 0 ∨ j = 1 ∨ j = 2 ∨ j = 3 := by omega
          rcases this with rfl | rfl | rfl | rfl <;> rfl⟩
        words := fun _ => ⟨w.heap.size + 1 + 1, 0, rfl, by omega, fun j hj => by
          have hj : j < 4 := hj
          rw [Nat.zero_add, cell_of_row _ (w.heap.size + 1 + 1) j _ _ _ h2]
          have : j = 0 ∨ j = 1 ∨ j = 2 ∨ j = 3 := by omega
          rcases this with rfl | rfl | rfl | rfl <;> rfl⟩
        w64 := W64.of (by decide)
        smax := fun j => by
          rcases Nat.lt_or_ge j 4 with h | h
          · have : j = 0 ∨ j = 1 ∨ j = 2 ∨ j = 3 := by omega
            rcases this with rfl | rfl | rfl | rfl <;> decide
          · unfold Lt.nm
            rw [List.getD_eq_getElem?_getD, List.getElem?_eq_none (by exact h)]
            decide
        nlen := by decide
        ncap := by decide
        ccap := by decide
        ulen := by decide }

theorem parse_ok (w : World) (hE : Env w) : Calls Tryd.prog 12 #[.string T1] w fun e w' => ∃ A B, e = .returned (.tuple #[.agg #[.slice A 2 2, .slice B 2 2], .int .i64 0]) ∧ LatAt w' A B 2 nsT usT ∧ Below w.heap.size w w' :=
  (parse_any T1 w hE (by decide)).mono fun e w' ⟨hb, h⟩ => by
    rcases h with ⟨_, A, B, h1, h2⟩ | ⟨h1, _⟩
    · rw [t1_names, t1_rows] at h1 h2
      exact ⟨A, B, h1, h2, hb⟩
    · exact absurd t1_err h1
theorem parse_no (s : ByteArray) (n : Nat) (hs : s.size < 4294967281) (h : parseErr s = n) (h0 : n ≠ 0) (w : World) (hE : Env w) : Calls Tryd.prog 12 #[.string s] w fun e w' => e = .returned (.tuple #[.agg #[.slice none 0 0, .slice none 0 0], .int .i64 (n : Nat)]) ∧ Below w.heap.size w w' :=
  (parse_any s w hE hs).mono fun e w' ⟨hb, h1⟩ => by
    rcases h1 with ⟨h2, _⟩ | ⟨_, h2⟩
    · exact absurd (h.symm.trans h2) h0
    · rw [h] at h2
      exact ⟨h2, hb⟩

/-- a struct of two slices in a box of its own -/
def Box2 (W : World) (p : Nat) (u v : Value) : Prop := W.cell? ⟨p, 0, none⟩ = some u ∧ W.cell? ⟨p, 1, none⟩ = some v ∧ p < W.heap.size
theorem Box2.new (W : World) (u v : Value) (t : TypeId) : Box2 (W.alloc (.cells #[u, v] t)) W.heap.size u v := ⟨(box_two W u v t).1, (box_two W u v t).2, by simp⟩
theorem Box2.later {W W' : World} {p : Nat} {u v : Value} (h : Box2 W p u v) (hb : Below W.heap.size W W') : Box2 W' p u v :=
  ⟨(hb.cell (p := ⟨p, 0, none⟩) h.2.2).trans h.1, (hb.cell (p := ⟨p, 1, none⟩) h.2.2).trans h.2.1, Nat.lt_of_lt_of_le h.2.2 hb.size⟩
theorem later_alloc (W : World) (o : Obj) : Below W.heap.size W (W.alloc o) := (Below.refl _ _).alloc (Nat.le_refl _) _

/-- what is known while the examples are asked -/
structure Ctx (w W : World) (p1 p2 : Nat) (Ad Bd Al Bl : Option Addr) : Prop where
  below : Below w.heap.size w W
  env : Env W
  bd : Box2 W p1 (.slice Ad 4 4) (.slice Bd 4 4)
  bl : Box2 W p2 (.slice Al 2 2) (.slice Bl 2 2)
  ld : LatAt W Ad Bd 4 nsD usD
  ll : LatAt W Al Bl 2 nsT usT
theorem Ctx.later {w W W' : World} {p1 p2 : Nat} {Ad Bd Al Bl : Option Addr} (h : Ctx w W p1 p2 Ad Bd Al Bl) (hb : Below W.heap.size W W') : Ctx w W' p1 p2 Ad Bd Al Bl :=
  ⟨h.below.trans (hb.mono h.below.size), h.env.later hb, h.bd.later hb, h.bl.later hb, h.ld.later hb, h.ll.later hb⟩

section
variable {w W : World} {p1 p2 : Nat} {Ad Bd Al Bl : Option Addr}
theorem ex_join (hX : Ctx w W p1 p2 Ad Bd Al Bl) : Calls Tryd.prog 23 #[.agg #[.slice Al 2 2, .slice Bl 2 2], .int .i64 0, .int .i64 1] W fun e w' => e = .returned (.int .i64 1) ∧ Hid (Ctx w w' p1 p2 Ad Bd Al Bl) :=
  (join_any Al Bl nsT usT 2 2 0 1 W hX.env hX.ll).mono fun e w' ⟨h1, h2⟩ => ⟨by rw [h1, x_join], hX.later h2⟩
theorem ex_bottom (hX : Ctx w W p1 p2 Ad Bd Al Bl) : Calls Tryd.prog 27 #[.agg #[.slice Al 2 2, .slice Bl 2 2]] W fun e w' => e = .returned (.int .i64 0) ∧ Hid (Ctx w w' p1 p2 Ad Bd Al Bl) :=
  (bottom_any Al Bl nsT usT 2 2 W hX.env hX.ll).mono fun e w' ⟨h1, h2⟩ => ⟨by rw [h1, x_bottom], hX.later h2⟩
theorem ex_top (hX : Ctx w W p1 p2 Ad Bd Al Bl) : Calls Tryd.prog 29 #[.agg #[.slice Al 2 2, .slice Bl 2 2]] W fun e w' => e = .returned (.int .i64 1) ∧ Hid (Ctx w w' p1 p2 Ad Bd Al Bl) :=
  (top_any Al Bl nsT usT 2 2 W hX.env hX.ll).mono fun e w' ⟨h1, h2⟩ => ⟨by rw [h1, x_top], hX.later h2⟩
theorem ex_right (hX : Ctx w W p1 p2 Ad Bd Al Bl) : Calls Tryd.prog 15 #[.agg #[.slice Ad 4 4, .slice Bd 4 4]] W fun e w' => e = .returned (.bool true) ∧ Hid (Ctx w w' p1 p2 Ad Bd Al Bl) :=
  (right_any Ad Bd nsD usD 4 4 W hX.env hX.ld).mono fun e w' ⟨h1, h2⟩ => ⟨by rw [h1, x_right], hX.later h2⟩
theorem ex_joinD (hX : Ctx w W p1 p2 Ad Bd Al Bl) : Calls Tryd.prog 23 #[.agg #[.slice Ad 4 4, .slice Bd 4 4], .int .i64 1, .int .i64 2] W fun e w' => e = .returned (.int .i64 3) ∧ Hid (Ctx w w' p1 p2 Ad Bd Al Bl) :=
  (join_any Ad Bd nsD usD 4 4 1 2 W hX.env hX.ld).mono fun e w' ⟨h1, h2⟩ => ⟨by rw [h1, x_joinD], hX.later h2⟩
theorem ex_meetD (hX : Ctx w W p1 p2 Ad Bd Al Bl) : Calls Tryd.prog 25 #[.agg #[.slice Ad 4 4, .slice Bd 4 4], .int .i64 1, .int .i64 2] W fun e w' => e = .returned (.int .i64 0) ∧ Hid (Ctx w w' p1 p2 Ad Bd Al Bl) :=
  (meet_any Ad Bd nsD usD 4 4 1 2 W hX.env hX.ld).mono fun e w' ⟨h1, h2⟩ => ⟨by rw [h1, x_meetD], hX.later h2⟩
theorem ex_findB (hX : Ctx w W p1 p2 Ad Bd Al Bl) : Calls Tryd.prog 21 #[.agg #[.slice Ad 4 4, .slice Bd 4 4], .string ⟨#[66]⟩] W fun e w' => e = .returned (.int .i64 2) ∧ Hid (Ctx w w' p1 p2 Ad Bd Al Bl) :=
  (find_any Ad Bd nsD 4 4 4 ⟨#[66]⟩ W hX.ld.names (by decide)).mono fun e w' ⟨h1, h2⟩ => ⟨by rw [h1, x_findB], by subst h2; exact hX.later (later_alloc _ _)⟩
theorem ex_findC (hX : Ctx w W p1 p2 Ad Bd Al Bl) : Calls Tryd.prog 21 #[.agg #[.slice Ad 4 4, .slice Bd 4 4], .string ⟨#[67]⟩] W fun e w' => e = .returned (.int .i64 (-1)) ∧ Hid (Ctx w w' p1 p2 Ad Bd Al Bl) :=
  (find_any Ad Bd nsD 4 4 4 ⟨#[67]⟩ W hX.ld.names (by decide)).mono fun e w' ⟨h1, h2⟩ => ⟨by rw [h1, x_findC], by subst h2; exact hX.later (later_alloc _ _)⟩
theorem ex_print (hX : Ctx w W p1 p2 Ad Bd Al Bl) : Calls Tryd.prog 31 #[.agg #[.slice Al 2 2, .slice Bl 2 2]] W fun e w' => e = .returned (.string ⟨#[76, 111, 32, 72, 105, 10, 49, 49, 10, 48, 49, 10]⟩) ∧ Hid (Ctx w w' p1 p2 Ad Bd Al Bl) :=
  (print_any Al Bl nsT usT 2 2 W hX.env hX.ll x_rightT).mono fun e w' ⟨h1, h2⟩ => ⟨by rw [h1, x_print], hX.later h2⟩
theorem ex_leq1 (hX : Ctx w W p1 p2 Ad Bd Al Bl) : Calls Tryd.prog 17 #[.agg #[.slice Ad 4 4, .slice Bd 4 4], .int .i64 1, .int .i64 3] W fun e w' => e = .returned (.bool true) ∧ Hid (Ctx w w' p1 p2 Ad Bd Al Bl) :=
  (leq_any Ad Bd usD 4 4 4 1 3 W hX.ld.words hX.ld.w64 (by decide)).mono fun e w' ⟨h1, h2⟩ => ⟨by rw [h1, x_leq1], hX.later h2⟩
theorem ex_leq2 (hX : Ctx w W p1 p2 Ad Bd Al Bl) : Calls Tryd.prog 17 #[.agg #[.slice Ad 4 4, .slice Bd 4 4], .int .i64 1, .int .i64 2] W fun e w' => e = .returned (.bool false) ∧ Hid (Ctx w w' p1 p2 Ad Bd Al Bl) :=
  (leq_any Ad Bd usD 4 4 4 1 2 W hX.ld.words hX.ld.w64 (by decide)).mono fun e w' ⟨h1, h2⟩ => ⟨by rw [h1, x_leq2], hX.later h2⟩
theorem ex_name1 (W : World) : Calls Tryd.prog 19 #[.string ⟨#[97, 49]⟩] W fun e w' => e = .returned (.bool true) ∧ W = w' :=
  (name_any ⟨#[97, 49]⟩ W (by decide)).mono fun e w' ⟨h1, h2⟩ => ⟨by rw [h1, x_name1], h2⟩
theorem ex_name2 (W : World) : Calls Tryd.prog 19 #[.string ⟨#[49, 97]⟩] W fun e w' => e = .returned (.bool false) ∧ W = w' :=
  (name_any ⟨#[49, 97]⟩ W (by decide)).mono fun e w' ⟨h1, h2⟩ => ⟨by rw [h1, x_name2], h2⟩
theorem lat_none (W : World) : LatAt W none none 0 [] [] :=
  { names := Strs.nil _ _ _, words := Words.nil _ _ _, w64 := W64.of (by decide), smax := fun _ => (by show (ByteArray.empty).size ≤ 9223372036854775807; decide), nlen := by decide, ncap := by decide, ccap := by decide, ulen := by decide }
theorem ex_none (hX : Ctx w W p1 p2 Ad Bd Al Bl) : Calls Tryd.prog 15 #[.agg #[.slice none 0 0, .slice none 0 0]] W fun e w' => e = .returned (.bool false) ∧ Hid (Ctx w w' p1 p2 Ad Bd Al Bl) :=
  (right_any none none [] [] 0 0 W hX.env (lat_none W)).mono fun e w' ⟨h1, h2⟩ => ⟨by rw [h1, x_none], hX.later h2⟩
end

set_option maxRecDepth 100000 in
set_option maxHeartbeats 1000000 in
theorem examples_any (w : World) (hE : Env w) : Calls Tryd.prog 10 #[] w fun e w' => e = .returned (.bool true) ∧ Below w.heap.size w w' := by
  go_enter Tryd.func10, Tryd.ntmps10
  go_wp2_with fail
  refine (diamond_any w).mono ?_
  rintro e w1 ⟨Ad, Bd, rfl, hLd, hb1⟩
  go_wp2_with fail
  have a1 := Box2.new w1 (.slice Ad 4 4) (.slice Bd 4 4) 25
  have l1 := later_alloc w1 (.cells #[.slice Ad 4 4, .slice Bd 4 4] 25)
  have hE1 := (hE.later hb1).later l1
  have hLd1 := hLd.later l1
  have hB1 := hb1.trans (l1.mono hb1.size)
  generalize hp1 : w1.heap.size = p1 at *
  generalize w1.alloc (.cells #[.slice Ad 4 4, .slice Bd 4 4] 25) = v1 at *
  clear hp1 l1 hLd hb1
  refine (parse_ok v1 hE1).mono ?_
  rintro e w2 ⟨Al, Bl, rfl, hLl, hb2⟩
  go_wp2_with fail
  have l2 := later_alloc w2 (.cells #[.slice Al 2 2, .slice Bl 2 2] 25)
  have hX : Ctx w (w2.alloc (.cells #[.slice Al 2 2, .slice Bl 2 2] 25)) p1 w2.heap.size Ad Bd Al Bl :=
    ⟨(hB1.trans (hb2.mono hB1.size)).trans (l2.mono (Nat.le_trans hB1.size hb2.size)), (hE1.later hb2).later l2, (a1.later hb2).later l2, Box2.new w2 _ _ _, (hLd1.later hb2).later l2, hLl.later l2⟩
  generalize w2.heap.size = p2 at hX ⊢
  generalize w2.alloc (.cells #[.slice Al 2 2, .slice Bl 2 2] 25) = v2 at hX ⊢
  clear l2 hb2 hLl hLd1 hB1 a1 hE1
  refine (parse_no T2 3 (by decide) t2_err (by decide) v2 hX.env).mono ?_
  rintro e w3 ⟨rfl, hb3⟩
  have hX3 := hX.later hb3
  clear hX hb3
  go_wp2_with fail
  have hY := hX3.later (later_alloc w3 (.cells #[.slice none 0 0, .slice none 0 0] 25))
  generalize w3.alloc (.cells #[.slice none 0 0, .slice none 0 0] 25) = v3 at hY ⊢
  clear hX3
  refine (parse_no T3 4 (by decide) t3_err (by decide) v3 hY.env).mono ?_
  rintro e w4 ⟨rfl, hb4⟩
  have hX4 := hY.later hb4
  clear hY hb4
  go_wp2_with fail
  have hY := hX4.later (later_alloc w4 (.cells #[.slice none 0 0, .slice none 0 0] 25))
  generalize w4.alloc (.cells #[.slice none 0 0, .slice none 0 0] 25) = v4 at hY ⊢
  clear hX4
  refine (parse_no T4 2 (by decide) t4_err (by decide) v4 hY.env).mono ?_
  rintro e w5 ⟨rfl, hb5⟩
  have hX5 := (hY.later hb5).later (later_alloc w5 (.cells #[.slice none 0 0, .slice none 0 0] 25))
  have q1 := (hY.later hb5).bd.1
  have q2 := (hY.later hb5).bd.2.1
  have q3 := (hY.later hb5).bl.1
  have q4 := (hY.later hb5).bl.2.1
  have q5 := (hY.later hb5).bd.2.2
  have q6 := (hY.later hb5).bl.2.2
  clear hY hb5
  have HX := Lib.hid hX5
  clear hX5
  go_wp2_with fail
  generalize w5.alloc (.cells #[.slice none 0 0, .slice none 0 0] 25) = v5 at HX ⊢
  clear q1 q2 q3 q4 q5 q6
  refine (ex_join HX.out).mono ?_
  rintro e w10 ⟨rfl, h10⟩
  clear HX
  have q1 := h10.out.bd.1
  have q2 := h10.out.bd.2.1
  have q3 := h10.out.bl.1
  have q4 := h10.out.bl.2.1
  go_wp2_with fail
  clear q1 q2 q3 q4
  refine (ex_bottom h10.out).mono ?_
  rintro e w11 ⟨rfl, h11⟩
  clear h10
  have q1 := h11.out.bd.1
  have q2 := h11.out.bd.2.1
  have q3 := h11.out.bl.1
  have q4 := h11.out.bl.2.1
  go_wp2_with fail
  clear q1 q2 q3 q4
  refine (ex_top h11.out).mono ?_
  rintro e w12 ⟨rfl, h12⟩
  clear h11
  have q1 := h12.out.bd.1
  have q2 := h12.out.bd.2.1
  have q3 := h12.out.bl.1
  have q4 := h12.out.bl.2.1
  go_wp2_with fail
  clear q1 q2 q3 q4
  refine (ex_right h12.out).mono ?_
  rintro e w13 ⟨rfl, h13⟩
  clear h12
  have q1 := h13.out.bd.1
  have q2 := h13.out.bd.2.1
  have q3 := h13.out.bl.1
  have q4 := h13.out.bl.2.1
  go_wp2_with fail
  clear q1 q2 q3 q4
  refine (ex_joinD h13.out).mono ?_
  rintro e w14 ⟨rfl, h14⟩
  clear h13
  have q1 := h14.out.bd.1
  have q2 := h14.out.bd.2.1
  have q3 := h14.out.bl.1
  have q4 := h14.out.bl.2.1
  go_wp2_with fail
  clear q1 q2 q3 q4
  refine (ex_meetD h14.out).mono ?_
  rintro e w15 ⟨rfl, h15⟩
  clear h14
  have q1 := h15.out.bd.1
  have q2 := h15.out.bd.2.1
  have q3 := h15.out.bl.1
  have q4 := h15.out.bl.2.1
  go_wp2_with fail
  clear q1 q2 q3 q4
  refine (ex_findB h15.out).mono ?_
  rintro e w16 ⟨rfl, h16⟩
  clear h15
  have q1 := h16.out.bd.1
  have q2 := h16.out.bd.2.1
  have q3 := h16.out.bl.1
  have q4 := h16.out.bl.2.1
  go_wp2_with fail
  clear q1 q2 q3 q4
  refine (ex_findC h16.out).mono ?_
  rintro e w17 ⟨rfl, h17⟩
  clear h16
  have q1 := h17.out.bd.1
  have q2 := h17.out.bd.2.1
  have q3 := h17.out.bl.1
  have q4 := h17.out.bl.2.1
  go_wp2_with fail
  clear q1 q2 q3 q4
  refine (ex_print h17.out).mono ?_
  rintro e w18 ⟨rfl, h18⟩
  clear h17
  have q1 := h18.out.bd.1
  have q2 := h18.out.bd.2.1
  have q3 := h18.out.bl.1
  have q4 := h18.out.bl.2.1
  go_wp2_with fail
  clear q1 q2 q3 q4
  refine (ex_leq1 h18.out).mono ?_
  rintro e w19 ⟨rfl, h19⟩
  clear h18
  have q1 := h19.out.bd.1
  have q2 := h19.out.bd.2.1
  have q3 := h19.out.bl.1
  have q4 := h19.out.bl.2.1
  go_wp2_with fail
  clear q1 q2 q3 q4
  refine (ex_leq2 h19.out).mono ?_
  rintro e w20 ⟨rfl, h20⟩
  clear h19
  have q1 := h20.out.bd.1
  have q2 := h20.out.bd.2.1
  have q3 := h20.out.bl.1
  have q4 := h20.out.bl.2.1
  go_wp2_with fail
  clear q1 q2 q3 q4
  refine (ex_name1 _).mono ?_
  rintro e w' ⟨rfl, rfl⟩
  go_wp2_with fail
  refine (ex_name2 _).mono ?_
  rintro e w' ⟨rfl, rfl⟩
  go_wp2_with fail
  refine (ex_none h20.out).mono ?_
  rintro e w30 ⟨rfl, h30⟩
  go_wp2_with fail
  go_ret
  exact ⟨rfl, h30.out.below⟩
end Go.Proofs.YtieamjpfmjkchaaDoor
