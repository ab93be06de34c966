/-
  The walks of the reference's word and right. Condition: the text is shorter than 2^47 bytes.
-/
import Derived.Test.YtkmafbcgdhhenabDoorLxR4
namespace Go.Proofs.YtkmafbcgdhhenabDoor
open Go.RowKit Go.Lx

def BoxT (W : World) (t : TypeId) (b : Nat) (x y z : Value) : Prop := W.rowIs b t 3 (f3 x y z)
theorem BoxT.new (W : World) (t : TypeId) (x y z : Value) : BoxT (W.alloc (.cells #[x, y, z] t)) t W.heap.size x y z :=
  World.rowIs_alloc W #[x, y, z] t (f3 x y z) fun i hi => by
    have hi : i < 3 := hi
    obtain rfl | rfl | rfl : i = 0 ∨ i = 1 ∨ i = 2 := by omega
    all_goals rfl
variable {W W' : World} {t : TypeId} {b : Nat} {x y z : Value}
theorem BoxT.lt (h : BoxT W t b x y z) : b < W.heap.size := World.rowIs.lt h
theorem BoxT.later (h : BoxT W t b x y z) (hb : Below W.heap.size W W') : BoxT W' t b x y z := World.rowIs.of_block h (hb.block _ h.lt)
theorem BoxT.c0 (h : BoxT W t b x y z) : W.cell? ⟨b, 0, none⟩ = some x := World.rowIs.cell h (i := 0) (by decide)
theorem BoxT.c1 (h : BoxT W t b x y z) : W.cell? ⟨b, 1, none⟩ = some y := World.rowIs.cell h (i := 1) (by decide)
theorem BoxT.c2 (h : BoxT W t b x y z) : W.cell? ⟨b, 2, none⟩ = some z := World.rowIs.cell h (i := 2) (by decide)
theorem BoxT.fr (h : BoxT W t b x y z) (i : Nat) : W.frozen? ⟨b, i, none⟩ = false := World.rowIs.frozen h i
theorem BoxT.put (h : BoxT W t b x y z) (u v q : Value) : BoxT (((W.setCell ⟨b, 0, none⟩ u).setCell ⟨b, 1, none⟩ v).setCell ⟨b, 2, none⟩ q) t b u v q :=
  World.rowIs.congr (((World.rowIs.set h 0 u).set 1 v).set 2 q) fun j hj => by
    obtain rfl | rfl | rfl : j = 0 ∨ j = 1 ∨ j = 2 := by omega
    all_goals rfl
/-- what word answers -/
def wordV (s : ByteArray) : Value := match wordL s.data.toList with
  | some t => optV (some t)
  | none => .tuple #[.agg #[.int .i64 2, .string s, .int .i64 0], .bool false]

set_option maxRecDepth 100000 in
set_option maxHeartbeats 2000000 in
theorem word_any (s : ByteArray) (w : World) (hs : s.size ≤ 140737488355328) :
    Calls Tryd.prog 28 #[.string s] w fun e w' => e = .returned (wordV s) ∧ Below w.heap.size w w' := by
  have hb0 := Lib.hid (later_alloc w (.cells #[.int .i64 0, .string ⟨#[]⟩, .int .i64 0] 51))
  have hx0 := Lib.hid (BoxT.new w 51 (.int .i64 0) (.string ⟨#[]⟩) (.int .i64 0))
  go_enter Tryd.func28, Tryd.ntmps28
  go_wp2_with fail
  have kk := refkeyword_any s (w.alloc (.cells #[.int .i64 0, .string ⟨#[]⟩, .int .i64 0] 51))
  cases hk : isKey s.data.toList with
  | true =>
    have hT : Hid (wordV s = .tuple #[.agg #[.int .i64 3, .string s, .int .i64 0], .bool true]) := by
      show _ = _
      unfold wordV wordL; rw [if_pos hk]
      show Value.tuple #[.agg #[.int .i64 3, .string (strOf s.data.toList), .int .i64 0], .bool true] = _
      rw [strOf_data]
    rw [hk] at kk
    refine kk.mono ?_
    rintro e W1 ⟨rfl, hb⟩
    replace hx0 := Lib.hid (hx0.out.later hb)
    replace hb0 := Lib.hid (hb0.out.trans (hb.mono hb0.out.size))
    clear hb hk kk
    have f0 := hx0.out.fr 0
    have f1 := hx0.out.fr 1
    have f2 := hx0.out.fr 2
    have x0 := hx0.out.c0
    have x1 := hx0.out.c1
    have x2 := hx0.out.c2
    go_wp2_with fail
    have hx9 := hx0.out.put (.int .i64 3) (.string s) (.int .i64 0)
    have hb9 := Lib.hid (below_put hb0.out (Nat.le_refl _) (.int .i64 3) (.string s) (.int .i64 0))
    generalize ((W1.setCell ⟨w.heap.size, 0, none⟩ (.int .i64 3)).setCell ⟨w.heap.size, 1, none⟩ (.string s)).setCell ⟨w.heap.size, 2, none⟩ (.int .i64 0) = W9 at hx9 hb9 ⊢
    have y0 := hx9.c0
    have y1 := hx9.c1
    have y2 := hx9.c2
    refine bodyPost_ret (v := .tuple #[.agg #[.int .i64 3, .string s, .int .i64 0], .bool true]) ?_ rfl ?_
    · simp [results, Tryd.f28, go_sem, y0, y1, y2]
    · exact ⟨by rw [hT.out], hb9.out⟩
  | false =>
    rw [hk] at kk
    refine kk.mono ?_
    rintro e W1 ⟨rfl, hb⟩
    replace hx0 := Lib.hid (hx0.out.later hb)
    replace hb0 := Lib.hid (hb0.out.trans (hb.mono hb0.out.size))
    clear hb kk
    have kn := refname_any s W1 (by omega)
    cases hn : nameB s with
    | true =>
      have hT : Hid (wordV s = .tuple #[.agg #[.int .i64 1, .string s, .int .i64 0], .bool true]) := by
        show _ = _
        unfold wordV wordL; rw [if_neg (by rw [hk]; simp), if_pos (show nameL s.data.toList = true from hn)]
        show Value.tuple #[.agg #[.int .i64 1, .string (strOf s.data.toList), .int .i64 0], .bool true] = _
        rw [strOf_data]
      rw [hn] at kn
      replace kn := Lib.hid kn
      clear hk hn
      have f0 := hx0.out.fr 0
      have f1 := hx0.out.fr 1
      have f2 := hx0.out.fr 2
      have x0 := hx0.out.c0
      have x1 := hx0.out.c1
      have x2 := hx0.out.c2
      go_wp2_with fail
      refine kn.out.mono ?_
      rintro e w' ⟨rfl, rfl⟩
      go_wp2_with fail
      have hx9 := hx0.out.put (.int .i64 1) (.string s) (.int .i64 0)
      have hb9 := Lib.hid (below_put hb0.out (Nat.le_refl _) (.int .i64 1) (.string s) (.int .i64 0))
      generalize ((w'.setCell ⟨w.heap.size, 0, none⟩ (.int .i64 1)).setCell ⟨w.heap.size, 1, none⟩ (.string s)).setCell ⟨w.heap.size, 2, none⟩ (.int .i64 0) = W9 at hx9 hb9 ⊢
      have y0 := hx9.c0
      have y1 := hx9.c1
      have y2 := hx9.c2
      refine bodyPost_ret (v := .tuple #[.agg #[.int .i64 1, .string s, .int .i64 0], .bool true]) ?_ rfl ?_
      · simp [results, Tryd.f28, go_sem, y0, y1, y2]
      · exact ⟨by rw [hT.out], hb9.out⟩
    | false =>
      rw [hn] at kn
      replace kn := Lib.hid kn
      have e0 : wordL s.data.toList = (refNum s.data.toList).map fun (n : Nat) => ⟨2, s.data.toList, (n : Int)⟩ := by
        unfold wordL; rw [if_neg (by rw [hk]; simp), if_neg (by rw [show nameL s.data.toList = false from hn]; simp)]
      replace e0 := Lib.hid e0
      clear hk hn
      go_wp2_with fail
      refine kn.out.mono ?_
      rintro e w' ⟨rfl, rfl⟩
      go_wp2_with fail
      refine (refnumber_any s _ hs).mono ?_
      rintro e W1 ⟨rfl, hb⟩
      replace hx0 := Lib.hid (hx0.out.later hb)
      replace hb0 := Lib.hid (hb0.out.trans (hb.mono hb0.out.size))
      clear hb kn
      cases hq : refNum s.data.toList with
      | none =>
        have hT : Hid (wordV s = .tuple #[.agg #[.int .i64 2, .string s, .int .i64 0], .bool false]) := by
          show _ = _
          unfold wordV; rw [e0.out, hq]; rfl
        rw [show numV none = .tuple #[.int .i64 0, .bool false] from rfl]
        clear hq e0
        have f0 := hx0.out.fr 0
        have f1 := hx0.out.fr 1
        have f2 := hx0.out.fr 2
        have x0 := hx0.out.c0
        have x1 := hx0.out.c1
        have x2 := hx0.out.c2
        go_wp2_with fail
        have hx9 := hx0.out.put (.int .i64 2) (.string s) (.int .i64 0)
        have hb9 := Lib.hid (below_put hb0.out (Nat.le_refl _) (.int .i64 2) (.string s) (.int .i64 0))
        generalize ((W1.setCell ⟨w.heap.size, 0, none⟩ (.int .i64 2)).setCell ⟨w.heap.size, 1, none⟩ (.string s)).setCell ⟨w.heap.size, 2, none⟩ (.int .i64 0) = W9 at hx9 hb9 ⊢
        have y0 := hx9.c0
        have y1 := hx9.c1
        have y2 := hx9.c2
        refine bodyPost_ret (v := .tuple #[.agg #[.int .i64 2, .string s, .int .i64 0], .bool false]) ?_ rfl ?_
        · simp [results, Tryd.f28, go_sem, y0, y1, y2]
        · exact ⟨by rw [hT.out], hb9.out⟩
      | some n =>
        have hT : Hid (wordV s = .tuple #[.agg #[.int .i64 2, .string s, .int .i64 (n : Int)], .bool true]) := by
          show _ = _
          unfold wordV; rw [e0.out, hq]
          show Value.tuple #[.agg #[.int .i64 2, .string (strOf s.data.toList), .int .i64 (n : Int)], .bool true] = _
          rw [strOf_data]
        rw [show numV (some n) = .tuple #[.int .i64 (n : Int), .bool true] from rfl]
        clear hq e0
        have f0 := hx0.out.fr 0
        have f1 := hx0.out.fr 1
        have f2 := hx0.out.fr 2
        have x0 := hx0.out.c0
        have x1 := hx0.out.c1
        have x2 := hx0.out.c2
        go_wp2_with fail
        have hx9 := hx0.out.put (.int .i64 2) (.string s) (.int .i64 (n : Int))
        have hb9 := Lib.hid (below_put hb0.out (Nat.le_refl _) (.int .i64 2) (.string s) (.int .i64 (n : Int)))
        generalize ((W1.setCell ⟨w.heap.size, 0, none⟩ (.int .i64 2)).setCell ⟨w.heap.size, 1, none⟩ (.string s)).setCell ⟨w.heap.size, 2, none⟩ (.int .i64 (n : Int)) = W9 at hx9 hb9 ⊢
        have y0 := hx9.c0
        have y1 := hx9.c1
        have y2 := hx9.c2
        refine bodyPost_ret (v := .tuple #[.agg #[.int .i64 2, .string s, .int .i64 (n : Int)], .bool true]) ?_ rfl ?_
        · simp [results, Tryd.f28, go_sem, y0, y1, y2]
        · exact ⟨by rw [hT.out], hb9.out⟩

end Go.Proofs.YtkmafbcgdhhenabDoor
