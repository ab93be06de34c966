/-
  The walks of lex.number and lex.token. Conditions: the variables that are read lie as laid; the text is shorter than 2^47 bytes.
-/
import Derived.Test.YthmchdpinobbgaaGreatDoorLxW2
namespace Go.Proofs.YthmchdpinobbgaaGreatDoor.X
open Go.RowKit Go.Lx

theorem numL_none {t : List UInt8} (h : ∀ v, Lib.parseIntB 32 t = .ok v → Lib.itoa v ≠ t) : numL t = none := by
  unfold numL
  split
  · rename_i v hv
    rw [if_neg (h v hv)]
  · rfl
theorem numL_some {t : List UInt8} {v : Int} (h : Lib.parseIntB 32 t = .ok v) (h2 : Lib.itoa v = t) : numL t = some ⟨2, t, v⟩ := by
  unfold numL
  rw [h]
  exact if_pos h2

/-- a block that holds one token -/
def f3 (x y z : Value) (j : Nat) : Value := if j = 0 then x else if j = 1 then y else z
def Box3 (W : World) (b : Nat) (x y z : Value) : Prop := W.rowIs b 45 3 (f3 x y z)
theorem Box3.new (W : World) (x y z : Value) : Box3 (W.alloc (.cells #[x, y, z] 45)) W.heap.size x y z :=
  World.rowIs_alloc W #[x, y, z] 45 (f3 x y z) fun i hi => by
    have hi : i < 3 := hi
    obtain rfl | rfl | rfl : i = 0 ∨ i = 1 ∨ i = 2 := by omega
    all_goals rfl
theorem Box3.lt {W : World} {b : Nat} {x y z : Value} (h : Box3 W b x y z) : b < W.heap.size := World.rowIs.lt h
theorem Box3.later {W W' : World} {b : Nat} {x y z : Value} (h : Box3 W b x y z) (hb : Below W.heap.size W W') : Box3 W' b x y z := World.rowIs.of_block h (hb.block _ h.lt)
theorem Box3.c0 {W : World} {b : Nat} {x y z : Value} (h : Box3 W b x y z) : W.cell? ⟨b, 0, none⟩ = some x := World.rowIs.cell h (i := 0) (by decide)
theorem Box3.c1 {W : World} {b : Nat} {x y z : Value} (h : Box3 W b x y z) : W.cell? ⟨b, 1, none⟩ = some y := World.rowIs.cell h (i := 1) (by decide)
theorem Box3.c2 {W : World} {b : Nat} {x y z : Value} (h : Box3 W b x y z) : W.cell? ⟨b, 2, none⟩ = some z := World.rowIs.cell h (i := 2) (by decide)
theorem Box3.fr {W : World} {b : Nat} {x y z : Value} (h : Box3 W b x y z) (i : Nat) : W.frozen? ⟨b, i, none⟩ = false := World.rowIs.frozen h i
theorem Box3.put {W : World} {b : Nat} {x y z : Value} (h : Box3 W b x y z) (u v q : Value) : Box3 (((W.setCell ⟨b, 0, none⟩ u).setCell ⟨b, 1, none⟩ v).setCell ⟨b, 2, none⟩ q) b u v q :=
  World.rowIs.congr (((World.rowIs.set h 0 u).set 1 v).set 2 q) fun j hj => by
    obtain rfl | rfl | rfl : j = 0 ∨ j = 1 ∨ j = 2 := by omega
    all_goals rfl
theorem below_put {B : Nat} {w W : World} {b : Nat} (h : Below B w W) (hB : B ≤ b) (u v q : Value) : Below B w (((W.setCell ⟨b, 0, none⟩ u).setCell ⟨b, 1, none⟩ v).setCell ⟨b, 2, none⟩ q) :=
  ((h.setCell (p := ⟨b, 0, none⟩) hB u).setCell (p := ⟨b, 1, none⟩) hB v).setCell (p := ⟨b, 2, none⟩) hB q

theorem parse_small {l : List UInt8} {v : Int} (h : Lib.parseIntB 32 l = .ok v) : -9223372036854775808 ≤ v ∧ v ≤ 9223372036854775807 := by
  cases l with
  | nil => cases h
  | cons c r =>
    unfold Lib.parseIntB at h
    dsimp only at h
    split at h
    · cases h
    · cases h
    · rename_i u hu
      split at h
      · cases h
      · split at h
        · cases h
        · rename_i h1 h2
          cases h
          have e : (2 : Nat) ^ (32 - 1) = 2147483648 := by decide
          rw [e] at h1 h2
          by_cases hn : c.toNat = 45
          · rw [if_pos hn]
            have : u ≤ 2147483648 := by
              rcases Nat.lt_or_ge 2147483648 u with g | g
              · exact absurd ⟨hn, g⟩ h2
              · exact g
            omega
          · rw [if_neg hn]
            have : u < 2147483648 := by
              rcases Nat.lt_or_ge u 2147483648 with g | g
              · exact g
              · exact absurd ⟨hn, g⟩ h1
            omega

set_option maxRecDepth 100000 in
set_option maxHeartbeats 1000000 in
theorem number_any (s : ByteArray) (w : World) (hE : Env w) (hs : s.size ≤ 140737488355328) :
    Calls Tryz.prog 72 #[.string s] w fun e w' => e = .returned (optV (numL s.data.toList)) ∧ Below w.heap.size w w' := by
  have hE1 := Lib.hid (hE.later (later_alloc w (.cells #[.int .i64 0, .string ⟨#[]⟩, .int .i64 0] 45)))
  have hb0 := Lib.hid (later_alloc w (.cells #[.int .i64 0, .string ⟨#[]⟩, .int .i64 0] 45))
  have hx0 := Lib.hid (Box3.new w (.int .i64 0) (.string ⟨#[]⟩) (.int .i64 0))
  rcases hp : Lib.parseIntB 32 s.data.toList with v | _ | _
  rotate_left
  · -- no numeral
    have hN : Hid (numL s.data.toList = none) := numL_none fun v h => by rw [hp] at h; cases h
    replace hp := Lib.hid hp
    go_enter Tryz.func72, Tryz.ntmps72
    go_wp2_with fail
    obtain ⟨te, pe, hv⟩ := hE1.out.syn
    refine (Any.strconv_ParseInt_10_at32_syntax Tryz.laysC174 s (by omega) hp.out _ _ hv (.inr ⟨te, pe, rfl⟩)).mono ?_
    rintro e W1 ⟨N, rfl, _, _, hb⟩
    replace hx0 := Lib.hid (hx0.out.later hb)
    replace hb0 := Lib.hid (hb0.out.trans (hb.mono hb0.out.size))
    clear hb hv
    have f0 := hx0.out.fr 0
    have f1 := hx0.out.fr 1
    have f2 := hx0.out.fr 2
    have x0 := hx0.out.c0
    have x1 := hx0.out.c1
    have x2 := hx0.out.c2
    go_wp2_with fail
    have hx9 := hx0.out.put (.int .i64 0) (.string ⟨#[]⟩) (.int .i64 0)
    have hb9 := Lib.hid (below_put hb0.out (Nat.le_refl _) (.int .i64 0) (.string ⟨#[]⟩) (.int .i64 0))
    generalize ((W1.setCell ⟨w.heap.size, 0, none⟩ (.int .i64 0)).setCell ⟨w.heap.size, 1, none⟩ (.string ⟨#[]⟩)).setCell ⟨w.heap.size, 2, none⟩ (.int .i64 0) = W9 at hx9 hb9 ⊢
    have y0 := hx9.c0
    have y1 := hx9.c1
    have y2 := hx9.c2
    refine bodyPost_ret (v := .tuple #[noTok, .bool false]) ?_ rfl ?_
    · simp [results, Tryz.f72, go_sem, y0, y1, y2, noTok]
    · exact ⟨by rw [hN.out]; rfl, hb9.out⟩
  · -- too great
    have hN : Hid (numL s.data.toList = none) := numL_none fun v h => by rw [hp] at h; cases h
    replace hp := Lib.hid hp
    go_enter Tryz.func72, Tryz.ntmps72
    go_wp2_with fail
    obtain ⟨te, pe, hv⟩ := hE1.out.rng
    refine (Tryz.strconv_ParseInt_10_at32_range s (by omega) hp.out _ _ hv (.inr ⟨te, pe, rfl⟩)).mono ?_
    rintro e W1 ⟨N, rfl, _, _, hb⟩
    generalize Lib.intSat 32 s.data.toList = sat
    replace hx0 := Lib.hid (hx0.out.later hb)
    replace hb0 := Lib.hid (hb0.out.trans (hb.mono hb0.out.size))
    clear hb hv
    have f0 := hx0.out.fr 0
    have f1 := hx0.out.fr 1
    have f2 := hx0.out.fr 2
    have x0 := hx0.out.c0
    have x1 := hx0.out.c1
    have x2 := hx0.out.c2
    go_wp2_with fail
    have hx9 := hx0.out.put (.int .i64 0) (.string ⟨#[]⟩) (.int .i64 0)
    have hb9 := Lib.hid (below_put hb0.out (Nat.le_refl _) (.int .i64 0) (.string ⟨#[]⟩) (.int .i64 0))
    generalize ((W1.setCell ⟨w.heap.size, 0, none⟩ (.int .i64 0)).setCell ⟨w.heap.size, 1, none⟩ (.string ⟨#[]⟩)).setCell ⟨w.heap.size, 2, none⟩ (.int .i64 0) = W9 at hx9 hb9 ⊢
    have y0 := hx9.c0
    have y1 := hx9.c1
    have y2 := hx9.c2
    refine bodyPost_ret (v := .tuple #[noTok, .bool false]) ?_ rfl ?_
    · simp [results, Tryz.f72, go_sem, y0, y1, y2, noTok]
    · exact ⟨by rw [hN.out]; rfl, hb9.out⟩
  · -- a number
    obtain ⟨v1, v2⟩ := parse_small hp
    have hQ : Hid (∀ z : ByteArray, z.data.toList = Lib.itoa v → ((z.toList == s.toList) = true → numL s.data.toList = some ⟨2, s.data.toList, v⟩) ∧ ((z.toList == s.toList) = false → numL s.data.toList = none)) := fun z hz => by
      rw [toList_data, toList_data, hz]
      refine ⟨fun h => numL_some hp (by simpa using h), fun h => numL_none fun v' h' => ?_⟩
      rw [hp] at h'
      cases h'
      simpa using h
    replace hp := Lib.hid hp
    go_enter Tryz.func72, Tryz.ntmps72
    go_wp2_with fail
    refine (Tryz.strconv_ParseInt_10_at32_ok s (by omega) v hp.out _).mono ?_
    rintro e W1 ⟨rfl, hor⟩
    have hb : Below (w.alloc (.cells #[.int .i64 0, .string ⟨#[]⟩, .int .i64 0] 45)).heap.size (w.alloc (.cells #[.int .i64 0, .string ⟨#[]⟩, .int .i64 0] 45)) W1 := by
      rcases hor with rfl | ⟨t, rfl⟩
      · exact Below.refl _ _
      · exact Lib.bytesWorld_below _ _ _
    replace hx0 := Lib.hid (hx0.out.later hb)
    replace hb0 := Lib.hid (hb0.out.trans (hb.mono hb0.out.size))
    replace hE1 := Lib.hid (hE1.out.later hb)
    clear hb hor
    go_wp2_with fail
    refine (Tryz.strconv_FormatInt_10 v v1 v2 _ hE1.out.tab).mono ?_
    rintro e W2 ⟨rfl, k, os, hW2⟩
    have hb : Below W1.heap.size W1 W2 := hW2 ▸ below_grow W1 k os
    replace hx0 := Lib.hid (hx0.out.later hb)
    replace hb0 := Lib.hid (hb0.out.trans (hb.mono hb0.out.size))
    clear hb hW2
    have hz := hQ.out ⟨(Lib.itoa v).toArray⟩ (by show (List.toArray _).toList = _; simp)
    generalize (⟨(Lib.itoa v).toArray⟩ : ByteArray) = z at hz ⊢
    have f0 := hx0.out.fr 0
    have f1 := hx0.out.fr 1
    have f2 := hx0.out.fr 2
    have x0 := hx0.out.c0
    have x1 := hx0.out.c1
    have x2 := hx0.out.c2
    cases hq : (z.toList == s.toList) with
    | false =>
      have hN := Lib.hid (hz.2 hq)
      clear hz
      go_wp2_with fail
      have hx9 := hx0.out.put (.int .i64 0) (.string ⟨#[]⟩) (.int .i64 0)
      have hb9 := Lib.hid (below_put hb0.out (Nat.le_refl _) (.int .i64 0) (.string ⟨#[]⟩) (.int .i64 0))
      generalize ((W2.setCell ⟨w.heap.size, 0, none⟩ (.int .i64 0)).setCell ⟨w.heap.size, 1, none⟩ (.string ⟨#[]⟩)).setCell ⟨w.heap.size, 2, none⟩ (.int .i64 0) = W9 at hx9 hb9 ⊢
      have y0 := hx9.c0
      have y1 := hx9.c1
      have y2 := hx9.c2
      refine bodyPost_ret (v := .tuple #[noTok, .bool false]) ?_ rfl ?_
      · simp [results, Tryz.f72, go_sem, y0, y1, y2, noTok]
      · exact ⟨by rw [hN.out]; rfl, hb9.out⟩
    | true =>
      have hN := Lib.hid (hz.1 hq)
      clear hz
      go_wp2_with fail
      have hx9 := hx0.out.put (.int .i64 2) (.string s) (.int .i64 v)
      have hb9 := Lib.hid (below_put hb0.out (Nat.le_refl _) (.int .i64 2) (.string s) (.int .i64 v))
      generalize ((W2.setCell ⟨w.heap.size, 0, none⟩ (.int .i64 2)).setCell ⟨w.heap.size, 1, none⟩ (.string s)).setCell ⟨w.heap.size, 2, none⟩ (.int .i64 v) = W9 at hx9 hb9 ⊢
      have y0 := hx9.c0
      have y1 := hx9.c1
      have y2 := hx9.c2
      refine bodyPost_ret (v := .tuple #[.agg #[.int .i64 2, .string s, .int .i64 v], .bool true]) ?_ rfl ?_
      · simp [results, Tryz.f72, go_sem, y0, y1, y2]
      · exact ⟨by rw [hN.out]; show _ = Ending.returned (.tuple #[.agg #[.int .i64 2, .string (strOf s.data.toList), .int .i64 v], .bool true]); rw [strOf_data], hb9.out⟩

set_option maxRecDepth 100000 in
set_option maxHeartbeats 1000000 in
theorem token_any (k : Int) (s : ByteArray) (w : World) (hE : Env w) (hs : s.size ≤ 140737488355328) :
    Calls Tryz.prog 53 #[.int .i64 k, .string s] w fun e w' => e = .returned (optV (tokL k s.data.toList)) ∧ Below w.heap.size w w' := by
  have hE1 := Lib.hid (hE.later (later_alloc w (.cells #[.int .i64 0, .string ⟨#[]⟩, .int .i64 0] 45)))
  have hb0 := Lib.hid (later_alloc w (.cells #[.int .i64 0, .string ⟨#[]⟩, .int .i64 0] 45))
  have hx0 := Lib.hid (Box3.new w (.int .i64 0) (.string ⟨#[]⟩) (.int .i64 0))
  have kk := Lib.hid (keyword_any s _ hE1.out)
  have kn := Lib.hid (name_any s (w.alloc (.cells #[.int .i64 0, .string ⟨#[]⟩, .int .i64 0] 45)) (by omega))
  by_cases k1 : k = 1
  · subst k1
    cases hk : isKey s.data.toList with
    | true =>
      have hT : Hid (tokL 1 s.data.toList = some ⟨3, s.data.toList, 0⟩) := by
        show tokL 1 s.data.toList = _
        unfold tokL; rw [if_pos ⟨rfl, hk⟩]
      rw [hk] at kk
      clear hk kn
      have f0 := hx0.out.fr 0
      have f1 := hx0.out.fr 1
      have f2 := hx0.out.fr 2
      have x0 := hx0.out.c0
      have x1 := hx0.out.c1
      have x2 := hx0.out.c2
      go_enter Tryz.func53, Tryz.ntmps53
      go_wp2_with fail
      refine kk.out.mono ?_
      rintro e w' ⟨rfl, rfl⟩
      go_wp2_with fail
      refine bodyPost_ret (v := .tuple #[.agg #[.int .i64 3, .string s, .int .i64 0], .bool true]) ?_ rfl ?_
      · simp [results, Tryz.f53, go_sem]
      · exact ⟨by rw [hT.out]; show _ = Ending.returned (.tuple #[.agg #[.int .i64 3, .string (strOf s.data.toList), .int .i64 0], .bool true]); rw [strOf_data], later_alloc _ _⟩
    | false =>
      cases hn : nameB s with
      | true =>
        have hT : Hid (tokL 1 s.data.toList = some ⟨1, s.data.toList, 0⟩) := by
          show tokL 1 s.data.toList = _
          unfold tokL; rw [if_neg (by rw [hk]; simp), if_pos (.inl ⟨rfl, hn⟩)]
        rw [hk] at kk
        rw [hn] at kn
        clear hk hn
        have f0 := hx0.out.fr 0
        have f1 := hx0.out.fr 1
        have f2 := hx0.out.fr 2
        have x0 := hx0.out.c0
        have x1 := hx0.out.c1
        have x2 := hx0.out.c2
        go_enter Tryz.func53, Tryz.ntmps53
        go_wp2_with fail
        refine kk.out.mono ?_
        rintro e w' ⟨rfl, rfl⟩
        go_wp2_with fail
        refine kn.out.mono ?_
        rintro e w' ⟨rfl, rfl⟩
        go_wp2_with fail
        refine bodyPost_ret (v := .tuple #[.agg #[.int .i64 1, .string s, .int .i64 0], .bool true]) ?_ rfl ?_
        · simp [results, Tryz.f53, go_sem]
        · exact ⟨by rw [hT.out]; show _ = Ending.returned (.tuple #[.agg #[.int .i64 1, .string (strOf s.data.toList), .int .i64 0], .bool true]); rw [strOf_data], later_alloc _ _⟩
      | false =>
        have hT : Hid (tokL 1 s.data.toList = none) := by
          show tokL 1 s.data.toList = _
          unfold tokL
          have hn' : nameL s.data.toList = false := hn
          rw [if_neg (by rw [hk]; simp), if_neg (by rw [hn']; simp), if_neg (by decide)]
        rw [hk] at kk
        rw [hn] at kn
        clear hk hn
        have f0 := hx0.out.fr 0
        have f1 := hx0.out.fr 1
        have f2 := hx0.out.fr 2
        have x0 := hx0.out.c0
        have x1 := hx0.out.c1
        have x2 := hx0.out.c2
        go_enter Tryz.func53, Tryz.ntmps53
        go_wp2_with fail
        refine kk.out.mono ?_
        rintro e w' ⟨rfl, rfl⟩
        go_wp2_with fail
        refine kn.out.mono ?_
        rintro e w' ⟨rfl, rfl⟩
        go_wp2_with fail
        refine bodyPost_ret (v := .tuple #[.agg #[.int .i64 0, .string ⟨#[]⟩, .int .i64 0], .bool false]) ?_ rfl ?_
        · simp [results, Tryz.f53, go_sem]
        · exact ⟨by rw [hT.out]; rfl, later_alloc _ _⟩
  clear kk kn
  by_cases k4 : k = 4
  · subst k4
    have hT : Hid (tokL 4 s.data.toList = some ⟨4, s.data.toList, 0⟩) := by
      show tokL 4 s.data.toList = _
      unfold tokL; rw [if_neg (by simp), if_pos (.inr rfl)]
    clear k1
    have f0 := hx0.out.fr 0
    have f1 := hx0.out.fr 1
    have f2 := hx0.out.fr 2
    have x0 := hx0.out.c0
    have x1 := hx0.out.c1
    have x2 := hx0.out.c2
    go_enter Tryz.func53, Tryz.ntmps53
    go_wp2_with fail
    refine bodyPost_ret (v := .tuple #[.agg #[.int .i64 4, .string s, .int .i64 0], .bool true]) ?_ rfl ?_
    · simp [results, Tryz.f53, go_sem]
    · exact ⟨by rw [hT.out]; show _ = Ending.returned (.tuple #[.agg #[.int .i64 4, .string (strOf s.data.toList), .int .i64 0], .bool true]); rw [strOf_data], later_alloc _ _⟩
  by_cases k2 : k = 2
  · subst k2
    have hT : Hid (tokL 2 s.data.toList = numL s.data.toList) := by
      show tokL 2 s.data.toList = _
      unfold tokL; rw [if_neg (by simp), if_neg (by simp), if_pos rfl]
    clear k1 k4
    go_enter Tryz.func53, Tryz.ntmps53
    go_wp2_with fail
    refine (number_any s _ hE1.out hs).mono ?_
    rintro e W1 ⟨rfl, hb⟩
    replace hx0 := Lib.hid (hx0.out.later hb)
    replace hb0 := Lib.hid (hb0.out.trans (hb.mono hb0.out.size))
    clear hb
    cases hq : numL s.data.toList with
    | none =>
      rw [hq] at hT
      clear hq
      unfold optV noTok
      have f0 := hx0.out.fr 0
      have f1 := hx0.out.fr 1
      have f2 := hx0.out.fr 2
      have x0 := hx0.out.c0
      have x1 := hx0.out.c1
      have x2 := hx0.out.c2
      go_wp2_with fail
      have hx9 := hx0.out.put (.int .i64 0) (.string ⟨#[]⟩) (.int .i64 0)
      have hb9 := Lib.hid (below_put hb0.out (Nat.le_refl _) (.int .i64 0) (.string ⟨#[]⟩) (.int .i64 0))
      generalize ((W1.setCell ⟨w.heap.size, 0, none⟩ (.int .i64 0)).setCell ⟨w.heap.size, 1, none⟩ (.string ⟨#[]⟩)).setCell ⟨w.heap.size, 2, none⟩ (.int .i64 0) = W9 at hx9 hb9 ⊢
      have y0 := hx9.c0
      have y1 := hx9.c1
      have y2 := hx9.c2
      refine bodyPost_ret (v := .tuple #[.agg #[.int .i64 0, .string ⟨#[]⟩, .int .i64 0], .bool false]) ?_ rfl ?_
      · simp [results, Tryz.f53, go_sem, y0, y1, y2]
      · exact ⟨by rw [hT.out]; rfl, hb9.out⟩
    | some q =>
      obtain ⟨qk, qt, qn⟩ := q
      rw [hq] at hT
      clear hq
      unfold optV tokV
      have f0 := hx0.out.fr 0
      have f1 := hx0.out.fr 1
      have f2 := hx0.out.fr 2
      have x0 := hx0.out.c0
      have x1 := hx0.out.c1
      have x2 := hx0.out.c2
      go_wp2_with fail
      have hx9 := hx0.out.put (.int .i64 qk) (.string (strOf qt)) (.int .i64 qn)
      have hb9 := Lib.hid (below_put hb0.out (Nat.le_refl _) (.int .i64 qk) (.string (strOf qt)) (.int .i64 qn))
      generalize ((W1.setCell ⟨w.heap.size, 0, none⟩ (.int .i64 qk)).setCell ⟨w.heap.size, 1, none⟩ (.string (strOf qt))).setCell ⟨w.heap.size, 2, none⟩ (.int .i64 qn) = W9 at hx9 hb9 ⊢
      have y0 := hx9.c0
      have y1 := hx9.c1
      have y2 := hx9.c2
      refine bodyPost_ret (v := .tuple #[.agg #[.int .i64 qk, .string (strOf qt), .int .i64 qn], .bool true]) ?_ rfl ?_
      · simp [results, Tryz.f53, go_sem, y0, y1, y2]
      · exact ⟨by rw [hT.out]; rfl, hb9.out⟩
  have hT : Hid (tokL k s.data.toList = none) := by
    show tokL k s.data.toList = _
    unfold tokL; rw [if_neg (fun h => k1 h.1), if_neg (fun h => h.elim (fun h => k1 h.1) k4), if_neg k2]
  have e1 : (k == 1) = false := by simpa using k1
  have e4 : (k == 4) = false := by simpa using k4
  have e2 : (k == 2) = false := by simpa using k2
  clear k1 k2 k4
  have f0 := hx0.out.fr 0
  have f1 := hx0.out.fr 1
  have f2 := hx0.out.fr 2
  have x0 := hx0.out.c0
  have x1 := hx0.out.c1
  have x2 := hx0.out.c2
  go_enter Tryz.func53, Tryz.ntmps53
  go_wp2_with fail
  refine bodyPost_ret (v := .tuple #[.agg #[.int .i64 0, .string ⟨#[]⟩, .int .i64 0], .bool false]) ?_ rfl ?_
  · simp [results, Tryz.f53, go_sem]
  · exact ⟨by rw [hT.out]; rfl, later_alloc _ _⟩
end Go.Proofs.YthmchdpinobbgaaGreatDoor.X
