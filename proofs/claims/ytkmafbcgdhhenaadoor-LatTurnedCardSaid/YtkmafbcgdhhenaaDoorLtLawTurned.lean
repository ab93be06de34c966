/-
  LatTurned's walk: true of whatever lattice and points. Conditions: the library's variables lie as laid; the lattice can be read.
-/
import Derived.Test.YtkmafbcgdhhenaaDoorLtAt
import Derived.Test.YtkmafbcgdhhenaaDoorLtFlip
import Derived.Deep.RegionHeld3
import Derived.Deep.DrawnRows
import Derived.Deep.OwnRows
namespace Go.Proofs.YtkmafbcgdhhenaaDoor
open Go.RowKit Go.Shelf Go.Lt
attribute [local go_sem ↓] Go.wp_at_zero Go.wp_at_succ

/-- what the new rows hold while point i is laid upwards, the points below k done -/
def upTo (us : List Nat) (i k m : Nat) : Nat := if m < k then down us (i + 1) m else down us i m
theorem upTo_zero (us : List Nat) (i m : Nat) : upTo us i 0 m = down us i m := by unfold upTo; simp
theorem upTo_full {us : List Nat} {i m n : Nat} (h : m < n) : upTo us i n m = upTo us (i + 1) 0 m := by
  rw [upTo_zero]; unfold upTo; rw [if_pos h]
theorem upTo_self (us : List Nat) (i k : Nat) : upTo us i k k = down us i k := by unfold upTo; simp
theorem upTo_yes {us : List Nat} {i k : Nat} (h : le us i k = true) (m : Nat) : upTo us i (k + 1) m = if m = k then upTo us i k k ||| 2 ^ i else upTo us i k m := by
  rw [upTo_self]
  unfold upTo
  by_cases e : m = k
  · subst e
    rw [if_pos rfl, if_pos (by omega)]
    show (if (row us i).testBit m then down us i m ||| 2 ^ i else down us i m) = _
    rw [if_pos (show (row us i).testBit m = true from h)]
  · rw [if_neg e]
    by_cases g : m < k
    · rw [if_pos g, if_pos (by omega)]
    · rw [if_neg g, if_neg (by omega)]
theorem upTo_no {us : List Nat} {i k : Nat} (h : le us i k = false) (m : Nat) : upTo us i (k + 1) m = upTo us i k m := by
  unfold upTo
  by_cases e : m = k
  · subst e
    rw [if_pos (by omega), if_neg (by omega)]
    show (if (row us i).testBit m then down us i m ||| 2 ^ i else down us i m) = _
    have : (row us i).testBit m = false := h
    rw [this]; rfl
  · by_cases g : m < k
    · rw [if_pos g, if_pos (by omega)]
    · rw [if_neg g, if_neg (by omega)]
theorem upTo_lt (us : List Nat) (i k m : Nat) (hi : i < 64) : upTo us i k m < 18446744073709551616 := by
  unfold upTo
  split
  · exact down_lt us _ _ (by omega)
  · exact down_lt us _ _ (by omega)

/-- what is known of both lattices -/
structure Two (w W : World) (p p2 : Nat) (A B B2 : Option Addr) (c d d2 : Nat) (ns : List ByteArray) (us vs : List Nat) : Prop where
  one : At w W p A B c d ns us
  two : At w W p2 A B2 c d2 ns vs
variable {w W : World} {p p2 : Nat} {A B B2 : Option Addr} {c d d2 : Nat} {ns : List ByteArray} {us vs : List Nat}
theorem Two.later {W' : World} (h : Two w W p p2 A B B2 c d d2 ns us vs) (hb : Below W.heap.size W W') : Two w W' p p2 A B B2 c d d2 ns us vs := ⟨h.one.later hb, h.two.later hb⟩
theorem Two.drew (h : Two w W p p2 A B B2 c d d2 ns us vs) : Two w W.drew p p2 A B B2 c d d2 ns us vs := h.later (Below.refl _ _).drew
theorem Two.q1 (h : Two w W p p2 A B B2 c d d2 ns us vs) : W.cell? ⟨p, 0, none⟩ = some (.slice A ns.length c) ∧ W.cell? ⟨p, 1, none⟩ = some (.slice B us.length d) ∧ W.cell? ⟨p2, 0, none⟩ = some (.slice A ns.length c) ∧ W.cell? ⟨p2, 1, none⟩ = some (.slice B2 vs.length d2) :=
  ⟨h.one.box.1, h.one.box.2.1, h.two.box.1, h.two.box.2.1⟩
theorem both_right (hX : Two w W p p2 A B B2 c d d2 ns us vs) (v : Value) (r : Bool) (h : (v = .agg #[.slice A ns.length c, .slice B us.length d] ∧ rightB ns us = r) ∨ (v = .agg #[.slice A ns.length c, .slice B2 vs.length d2] ∧ rightB ns vs = r)) :
    Calls Tryd.prog 15 #[v] W fun e w' => e = .returned (.bool r) ∧ Hid (Two w w' p p2 A B B2 c d d2 ns us vs) := by
  rcases h with ⟨rfl, hr⟩ | ⟨rfl, hr⟩
  · exact (right_any A B ns us c d W hX.one.env hX.one.lat).mono fun _ _ ⟨h1, h2⟩ => ⟨by rw [h1, hr], hX.later h2⟩
  · exact (right_any A B2 ns vs c d2 W hX.two.env hX.two.lat).mono fun _ _ ⟨h1, h2⟩ => ⟨by rw [h1, hr], hX.later h2⟩
theorem both_leq (hX : Two w W p p2 A B B2 c d d2 ns us vs) (a b : Int) (v : Value) (r : Bool) (h : (v = .agg #[.slice A ns.length c, .slice B us.length d] ∧ leqB ns.length us a b = r) ∨ (v = .agg #[.slice A ns.length c, .slice B2 vs.length d2] ∧ leqB ns.length vs a b = r)) :
    Calls Tryd.prog 17 #[v, .int .i64 a, .int .i64 b] W fun e w' => e = .returned (.bool r) ∧ Hid (Two w w' p p2 A B B2 c d d2 ns us vs) := by
  rcases h with ⟨rfl, hr⟩ | ⟨rfl, hr⟩
  · exact (leq_any A B us ns.length c d a b W hX.one.lat.words hX.one.lat.w64 hX.one.lat.ulen).mono fun _ _ ⟨h1, h2⟩ => ⟨by rw [h1, hr], hX.later h2⟩
  · exact (leq_any A B2 vs ns.length c d2 a b W hX.two.lat.words hX.two.lat.w64 hX.two.lat.ulen).mono fun _ _ ⟨h1, h2⟩ => ⟨by rw [h1, hr], hX.later h2⟩
theorem both_join (hX : Two w W p p2 A B B2 c d d2 ns us vs) (a b : Int) (v : Value) (r : Int) (h : (v = .agg #[.slice A ns.length c, .slice B us.length d] ∧ joinI ns us a b = r) ∨ (v = .agg #[.slice A ns.length c, .slice B2 vs.length d2] ∧ joinI ns vs a b = r)) :
    Calls Tryd.prog 23 #[v, .int .i64 a, .int .i64 b] W fun e w' => e = .returned (.int .i64 r) ∧ Hid (Two w w' p p2 A B B2 c d d2 ns us vs) := by
  rcases h with ⟨rfl, hr⟩ | ⟨rfl, hr⟩
  · exact (join_any A B ns us c d a b W hX.one.env hX.one.lat).mono fun _ _ ⟨h1, h2⟩ => ⟨by rw [h1, hr], hX.later h2⟩
  · exact (join_any A B2 ns vs c d2 a b W hX.two.env hX.two.lat).mono fun _ _ ⟨h1, h2⟩ => ⟨by rw [h1, hr], hX.later h2⟩
theorem both_meet (hX : Two w W p p2 A B B2 c d d2 ns us vs) (a b : Int) (v : Value) (r : Int) (h : (v = .agg #[.slice A ns.length c, .slice B us.length d] ∧ meetI ns us a b = r) ∨ (v = .agg #[.slice A ns.length c, .slice B2 vs.length d2] ∧ meetI ns vs a b = r)) :
    Calls Tryd.prog 25 #[v, .int .i64 a, .int .i64 b] W fun e w' => e = .returned (.int .i64 r) ∧ Hid (Two w w' p p2 A B B2 c d d2 ns us vs) := by
  rcases h with ⟨rfl, hr⟩ | ⟨rfl, hr⟩
  · exact (meet_any A B ns us c d a b W hX.one.env hX.one.lat).mono fun _ _ ⟨h1, h2⟩ => ⟨by rw [h1, hr], hX.later h2⟩
  · exact (meet_any A B2 ns vs c d2 a b W hX.two.env hX.two.lat).mono fun _ _ ⟨h1, h2⟩ => ⟨by rw [h1, hr], hX.later h2⟩
theorem both_bottom (hX : Two w W p p2 A B B2 c d d2 ns us vs) (v : Value) (r : Int) (h : (v = .agg #[.slice A ns.length c, .slice B us.length d] ∧ bottomI ns us = r) ∨ (v = .agg #[.slice A ns.length c, .slice B2 vs.length d2] ∧ bottomI ns vs = r)) :
    Calls Tryd.prog 27 #[v] W fun e w' => e = .returned (.int .i64 r) ∧ Hid (Two w w' p p2 A B B2 c d d2 ns us vs) := by
  rcases h with ⟨rfl, hr⟩ | ⟨rfl, hr⟩
  · exact (bottom_any A B ns us c d W hX.one.env hX.one.lat).mono fun _ _ ⟨h1, h2⟩ => ⟨by rw [h1, hr], hX.later h2⟩
  · exact (bottom_any A B2 ns vs c d2 W hX.two.env hX.two.lat).mono fun _ _ ⟨h1, h2⟩ => ⟨by rw [h1, hr], hX.later h2⟩
theorem both_top (hX : Two w W p p2 A B B2 c d d2 ns us vs) (v : Value) (r : Int) (h : (v = .agg #[.slice A ns.length c, .slice B us.length d] ∧ topI ns us = r) ∨ (v = .agg #[.slice A ns.length c, .slice B2 vs.length d2] ∧ topI ns vs = r)) :
    Calls Tryd.prog 29 #[v] W fun e w' => e = .returned (.int .i64 r) ∧ Hid (Two w w' p p2 A B B2 c d d2 ns us vs) := by
  rcases h with ⟨rfl, hr⟩ | ⟨rfl, hr⟩
  · exact (top_any A B ns us c d W hX.one.env hX.one.lat).mono fun _ _ ⟨h1, h2⟩ => ⟨by rw [h1, hr], hX.later h2⟩
  · exact (top_any A B2 ns vs c d2 W hX.two.env hX.two.lat).mono fun _ _ ⟨h1, h2⟩ => ⟨by rw [h1, hr], hX.later h2⟩
theorem leq_below (hX : At w W p A B c d ns us) (a b : Int) {r : Bool} (hr : leqB ns.length us a b = r) : Calls Tryd.prog 17 #[.agg #[.slice A ns.length c, .slice B us.length d], .int .i64 a, .int .i64 b] W fun e w' => e = .returned (.bool r) ∧ Hid (Below W.heap.size W w') :=
  (leq_any A B us ns.length c d a b W hX.lat.words hX.lat.w64 hX.lat.ulen).mono fun _ _ ⟨h1, h2⟩ => ⟨by rw [h1, hr], h2⟩

/-- what the calls answer of both, x and y two points -/
structure Flip (ns : List ByteArray) (us vs : List Nat) (x y : Nat) (j m t : Nat) (q : Bool) : Prop where
  right : rightB ns vs = true
  j1 : joinI ns us (x : Int) (y : Int) = (j : Int)
  m2 : meetI ns vs (x : Int) (y : Int) = (j : Int)
  m1 : meetI ns us (x : Int) (y : Int) = (m : Int)
  j2 : joinI ns vs (x : Int) (y : Int) = (m : Int)
  t1 : topI ns us = (t : Int)
  b2 : bottomI ns vs = (t : Int)
  l1 : leqB ns.length us (y : Int) (x : Int) = q
  l2 : leqB ns.length vs (x : Int) (y : Int) = q
theorem flip_of {J M : Nat → Nat → Nat} {z t x y : Nat} (h64 : W64 us) (hR : rightB ns us = true) (hT : Told ns us J M z t) (hx : x < us.length) (hy : y < us.length) :
    Flip ns us (turnedL us) x y (J x y) (M x y) t (le us y x) := by
  have hL := hT.lat
  have hR2 := right_turned h64 hR
  have h64t : W64 (turnedL us) := W64.turned us hL.ord.l64
  obtain ⟨J2, M2, z2, t2, hT2⟩ := told_of h64t hR2
  have tl := turnedL_length us
  have hx2 : x < (turnedL us).length := by rw [tl]; exact hx
  have hy2 : y < (turnedL us).length := by rw [tl]; exact hy
  have tt := turned_twice hL
  have eM : M x y = J2 x y := (hT.isM x y hx hy).uniq (hL.turned hT.pos).ord (hT2.isJ x y hx2 hy2)
  have eJ : J x y = M2 x y := by
    have h1 := hT2.isM x y hx2 hy2
    rw [tt] at h1
    exact (hT.isJ x y hx hy).uniq hL.ord h1
  have ez : z2 = t := by
    have h1 : le us t z2 = true := by
      have := hT2.isZ t (by rw [tl]; exact hT.t_lt)
      exact le_rt hT this
    have h2 : le us z2 t = true := hT.isT z2 (by rw [← tl]; exact hT2.z_lt)
    exact hL.ord.anti z2 t h2 h1
  exact {
    right := hR2
    j1 := hT.join x y hx hy
    m2 := by rw [hT2.meet x y hx2 hy2, eJ]
    m1 := hT.meet x y hx hy
    j2 := by rw [hT2.join x y hx2 hy2, eM]
    t1 := hT.top
    b2 := by rw [hT2.bottom, ez]
    l1 := hT.leq y x hy hx
    l2 := by rw [hT2.leq x y hx2 hy2, le_turned us x y hL.ord.inn] }

/-- the new box over both lattices -/
theorem two_new {wr : World} {g : Nat} {t : TypeId} (hX : At w W p A B c d ns us) (hb : Below W.heap.size W wr) (hw : Words wr wr.heap.size (some ⟨g, 0, none⟩) vs) (h64 : W64 vs) (hl : vs.length = d2) (hu : vs.length ≤ 9223372036854775807) :
    Two w (wr.alloc (.cells #[.slice A ns.length c, .slice (some ⟨g, 0, none⟩) d2 d2] t)) p wr.heap.size A B (some ⟨g, 0, none⟩) c d d2 ns us vs := by
  subst hl
  have h1 := hX.later hb
  have hL2 : LatAt wr A (some ⟨g, 0, none⟩) c ns vs := { h1.lat with words := hw, w64 := h64, ulen := hu }
  have hb2 := later_alloc wr (.cells #[.slice A ns.length c, .slice (some ⟨g, 0, none⟩) vs.length vs.length] t)
  exact ⟨h1.later hb2, ⟨(h1.later hb2).below, h1.env.later hb2, Box2.new wr _ _ _, hL2.later hb2⟩⟩

set_option maxRecDepth 100000 in
set_option maxHeartbeats 4000000 in
theorem latTurned_any (A B : Option Addr) (ns : List ByteArray) (us : List Nat) (c d : Nat) (a1 a2 : Int) (w : World) (hE : Env w) (hL : LatAt w A B c ns us) (h1 : 0 ≤ a1 ∧ a1 < 256) (h2 : 0 ≤ a2 ∧ a2 < 256) :
    Calls Tryd.prog 9 #[.agg #[.slice A ns.length c, .slice B us.length d], .int .u8 a1, .int .u8 a2] w fun e w' => e = .returned (.bool true) ∧ Below w.heap.size w w' := by
  have hX := Lib.hid (At.new (d := d) hE hL)
  have hnl := hL.nlen
  clear hE hL
  go_enter Tryd.func9, Tryd.ntmps9
  go_wp2_with fail
  refine (at_examples hX.out).mono ?_
  rintro e w1 ⟨rfl, hY⟩
  clear hX
  have q1 := hY.out.box.1
  have q2 := hY.out.box.2.1
  go_wp2_with fail
  clear q1 q2
  cases hR : rightB ns us with
  | false =>
    refine (at_right hY.out hR).mono ?_
    rintro e w2 ⟨rfl, hX⟩
    clear hY
    go_wp2_with fail
    go_ret
    exact ⟨rfl, hX.out.below⟩
  | true =>
    refine (at_right hY.out hR).mono ?_
    rintro e w2 ⟨rfl, hX⟩
    clear hY
    have q1 := hX.out.box.1
    have q2 := hX.out.box.2.1
    obtain ⟨J, M, z, t, hT⟩ := told_of hX.out.lat.w64 hR
    obtain ⟨x, ex, hx⟩ := hT.modN a1
    obtain ⟨y, ey, hy⟩ := hT.modN a2
    have hF := Lib.hid (flip_of hX.out.lat.w64 hR hT hx hy)
    have hn64 : ns.length ≤ 64 := by have := hT.lat.ord.l64; have := hT.eqn; omega
    replace hT := Lib.hid hT
    replace hR := Lib.hid hR
    replace hx := Lib.hid hx
    replace hy := Lib.hid hy
    replace ex := Lib.hid ex
    replace ey := Lib.hid ey
    have hpos : 1 ≤ ns.length := by have := hT.out.pos; have := hT.out.eqn; omega
    have hmk := run_make_row' (P := Tryd.prog) 23 50 (.int .u64 0) 8 Tryd.underlying23 info_u64 rfl .i64 .i64 ns.length (by omega) (by omega)
    go_wp2_with fail
    clear hmk q1 q2
    go_loopw [10] (fun i wr => ∃ k : Nat, k ≤ ns.length ∧ i = .int .i64 k ∧ wr.rowIs w2.heap.size 50 ns.length (fun m => .int .u64 (upTo us k 0 m : Nat)) ∧ Hid (Below w2.heap.size w2 wr)) (fun i _ => ns.length - (intOf i).toNat)
    case atStart => exact ⟨0, Nat.zero_le _, rfl, (World.rowIs_made w2 _ _ _).congr fun m _ => by rw [upTo_zero]; rfl, (Below.refl _ _).alloc (Nat.le_refl _) _⟩
    case round =>
      obtain ⟨i, hi, rfl, hrow, hB⟩ := hrel
      by_cases hlt : i < ns.length
      · go_wp2_with fail
        go_loopw [11] (fun v wr => ∃ k : Nat, k ≤ ns.length ∧ v = .int .i64 k ∧ wr.rowIs w2.heap.size 50 ns.length (fun m => .int .u64 (upTo us i k m : Nat)) ∧ Hid (Below w2.heap.size w2 wr)) (fun v _ => ns.length - (intOf v).toNat)
        case atStart => exact ⟨0, Nat.zero_le _, rfl, hrow, hB⟩
        case round =>
          clear hrow hB
          obtain ⟨k, hk, rfl, hrow, hB⟩ := hrel
          by_cases hlk : k < ns.length
          · have hN := Lib.hid (hX.out.later hB.out)
            have q1 := hN.out.box.1
            have q2 := hN.out.box.2.1
            have hle : Hid (leqB ns.length us (i : Int) (k : Int) = le us i k) := hT.out.leq i k (by have := hT.out.eqn; omega) (by have := hT.out.eqn; omega)
            go_wp2_with fail
            clear q1 q2
            have hi64 : i < 64 := by omega
            cases hb : le us i k with
            | true =>
              refine (leq_below hN.out i k (by rw [hle.out, hb])).mono ?_
              rintro e w9 ⟨rfl, hb9⟩
              have hrow9 : w9.rowIs w2.heap.size 50 ns.length (fun m => .int .u64 (upTo us i k m : Nat)) := hrow.of_block (hb9.out.block _ hrow.lt)
              have hB9 : Hid (Below w2.heap.size w2 w9) := hB.out.trans (hb9.out.mono hB.out.size)
              have hxc := hrow9.cell hlk
              have hxf := hrow9.frozen k
              have hD := upTo_lt us i k k hi64
              have hbl := Lib.hid hb
              clear hN hle hrow hb
              go_wp2_with fail
              go_region
              all_goals go_wp2
              all_goals go_roundw
              case rel =>
                refine ⟨k + 1, by omega, by go_num, (hrow9.drew.set k _).congr fun m _ => ?_, hB9.out.drew.setCell (p := ⟨w2.heap.size, k, none⟩) (Nat.le_refl _) _⟩
                rw [upTo_yes hbl.out]
                by_cases e : m = k
                · rw [if_pos e, if_pos e, or_pow _ _ hD hi64]
                · rw [if_neg e, if_neg e]
              case measure => simp [intOf]; omega
            | false =>
              refine (leq_below hN.out i k (by rw [hle.out, hb])).mono ?_
              rintro e w9 ⟨rfl, hb9⟩
              have hrow9 : w9.rowIs w2.heap.size 50 ns.length (fun m => .int .u64 (upTo us i k m : Nat)) := hrow.of_block (hb9.out.block _ hrow.lt)
              have hB9 : Hid (Below w2.heap.size w2 w9) := hB.out.trans (hb9.out.mono hB.out.size)
              have hbl := Lib.hid hb
              clear hN hle hrow hb
              go_wp2_with fail
              go_roundw
              case rel => exact ⟨k + 1, by omega, by go_num, hrow9.congr fun m _ => by rw [upTo_no hbl.out], hB9⟩
              case measure => simp [intOf]; omega
          · obtain rfl : k = ns.length := by omega
            go_wp2_with fail
            go_roundw
            case rel => exact ⟨i + 1, by omega, by go_num, hrow.congr fun m hm => by rw [upTo_full hm], hB⟩
            case measure => simp [intOf]; omega
      · obtain rfl : i = ns.length := by omega
        have hvl := turnedL_length us
        have hN := Lib.hid (two_new (t := 25) (vs := turnedL us) (d2 := ns.length) hX.out hB.out (fun _ => ⟨w2.heap.size, 0, rfl, hrow.lt, fun j hj => by
          rw [Nat.zero_add, row_turned us j (by omega)]
          have := hrow.cell (i := j) (by have := hT.out.eqn; omega)
          rw [upTo_zero, hT.out.eqn] at this
          exact this⟩) (W64.turned us hT.out.lat.ord.l64) (by have := hT.out.eqn; omega) (by have := hT.out.lat.ord.l64; omega))
        have q1 := (hX.out.later hB.out).box.1
        have q2 := (hX.out.later hB.out).box.2.1
        clear hvl
        go_wp2_with fail
        rw [ex.out, ey.out]
        clear q1 q2 ex ey h1 h2 hx hy hlt hi hrow hB hn64
        have hX := Lib.hid hN.out.drew
        clear hN
        generalize wr.alloc (.cells #[.slice A ns.length c, .slice (some ⟨w2.heap.size, 0, none⟩) ns.length ns.length] 25) = v9 at hX ⊢
        generalize wr.heap.size = p2 at hX ⊢
        generalize J x y = jv at hF
        generalize M x y = mv at hF
        generalize le us y x = qv at hF
        generalize turnedL us = vs at hF hX ⊢
        have k1 := hX.out.q1.1
        have k2 := hX.out.q1.2.1
        have k3 := hX.out.q1.2.2.1
        have k4 := hX.out.q1.2.2.2
        go_region_held3 (fun w' => w'.cell? ⟨w.heap.size, 0, none⟩ = some (.slice A ns.length c) ∧ w'.cell? ⟨w.heap.size, 1, none⟩ = some (.slice B us.length d) ∧ w'.cell? ⟨p2, 0, none⟩ = some (.slice A ns.length c) ∧ w'.cell? ⟨p2, 1, none⟩ = some (.slice (some ⟨w2.heap.size, 0, none⟩) vs.length ns.length)) (exact ⟨k1, k2, k3, k4⟩) (first | (go_at_call 15; have hO := hX; clear hX k1 k2 k3 k4; refine (both_right hO.out _ _ (by first | exact .inr ⟨rfl, hF.out.right⟩)).mono ?_; clear hO; rintro e w9 ⟨rfl, hX⟩; have k1 := hX.out.q1.1; have k2 := hX.out.q1.2.1; have k3 := hX.out.q1.2.2.1; have k4 := hX.out.q1.2.2.2) | (go_at_call 23; have hO := hX; clear hX k1 k2 k3 k4; refine (both_join hO.out _ _ _ _ (by first | exact .inl ⟨rfl, hF.out.j1⟩ | exact .inr ⟨rfl, hF.out.j2⟩)).mono ?_; clear hO; rintro e w9 ⟨rfl, hX⟩; have k1 := hX.out.q1.1; have k2 := hX.out.q1.2.1; have k3 := hX.out.q1.2.2.1; have k4 := hX.out.q1.2.2.2) | (go_at_call 25; have hO := hX; clear hX k1 k2 k3 k4; refine (both_meet hO.out _ _ _ _ (by first | exact .inl ⟨rfl, hF.out.m1⟩ | exact .inr ⟨rfl, hF.out.m2⟩)).mono ?_; clear hO; rintro e w9 ⟨rfl, hX⟩; have k1 := hX.out.q1.1; have k2 := hX.out.q1.2.1; have k3 := hX.out.q1.2.2.1; have k4 := hX.out.q1.2.2.2) | (go_at_call 27; have hO := hX; clear hX k1 k2 k3 k4; refine (both_bottom hO.out _ _ (by first | exact .inr ⟨rfl, hF.out.b2⟩)).mono ?_; clear hO; rintro e w9 ⟨rfl, hX⟩; have k1 := hX.out.q1.1; have k2 := hX.out.q1.2.1; have k3 := hX.out.q1.2.2.1; have k4 := hX.out.q1.2.2.2) | (go_at_call 29; have hO := hX; clear hX k1 k2 k3 k4; refine (both_top hO.out _ _ (by first | exact .inl ⟨rfl, hF.out.t1⟩)).mono ?_; clear hO; rintro e w9 ⟨rfl, hX⟩; have k1 := hX.out.q1.1; have k2 := hX.out.q1.2.1; have k3 := hX.out.q1.2.2.1; have k4 := hX.out.q1.2.2.2) | (go_at_call 17; have hO := hX; clear hX k1 k2 k3 k4; refine (both_leq hO.out _ _ _ _ (by first | exact .inl ⟨rfl, hF.out.l1⟩ | exact .inr ⟨rfl, hF.out.l2⟩)).mono ?_; clear hO; rintro e w9 ⟨rfl, hX⟩; have k1 := hX.out.q1.1; have k2 := hX.out.q1.2.1; have k3 := hX.out.q1.2.2.1; have k4 := hX.out.q1.2.2.2))
        all_goals
          go_wp2
          go_ret
          exact ⟨rfl, hX.out.one.below⟩
end Go.Proofs.YtkmafbcgdhhenaaDoor
