/-
  LatBack's walk: true of whatever lattice and text. Conditions: the library's variables lie as laid; the lattice can be read; the text is shorter than 4294967281 bytes.
-/
import Derived.Test.YtjeelebppfhmlaaDoorLtAt
import Derived.Test.YtjeelebppfhmlaaDoorLtBackMath
import Derived.Deep.RegionHeld3
import Derived.Deep.DrawnRows
namespace Go.Proofs.YtjeelebppfhmlaaDoor
open Go.RowKit Go.Shelf Go.Lt
attribute [local go_sem ↓] Go.wp_at_zero Go.wp_at_succ

theorem empty_err : parseErr ⟨#[]⟩ ≠ 0 := by
  have : parseErr ⟨#[]⟩ = 2 := by kernel_rfl
  rw [this]
  decide
/-- what is known while a text is asked -/
structure Now (w W : World) : Prop where
  below : Below w.heap.size w W
  env : Env W
theorem Now.later {w W W' : World} (h : Now w W) (hb : Below W.heap.size W W') : Now w W' := ⟨h.below.trans (hb.mono h.below.size), h.env.later hb⟩
theorem now_parse {w W : World} (hX : Now w W) (s : ByteArray) (hs : s.size < 4294967281) (he : parseErr s = 0) : Calls Tryd.prog 11 #[.string s] W fun e w' => Hid (Now w w') ∧ ∃ A B, Hid (LatAt w' A B (pnames s).length (pnames s) (prows s)) ∧ Hid (Below W.heap.size W w') ∧ e = .returned (.tuple #[.agg #[.slice A (pnames s).length (pnames s).length, .slice B (prows s).length (prows s).length], .int .i64 0]) :=
  (parse_any s W hX.env hs).mono fun e w' ⟨hb, h⟩ => ⟨hX.later hb, by
    rcases h with ⟨_, A, B, h1, h2⟩ | ⟨h1, _⟩
    · exact ⟨A, B, h2, hb, h1⟩
    · exact absurd he h1⟩
theorem now_no {w W : World} (hX : Now w W) (s : ByteArray) (hs : s.size < 4294967281) (he : parseErr s ≠ 0) : Calls Tryd.prog 11 #[.string s] W fun e w' => Hid (Now w w') ∧ Hid (Below W.heap.size W w') ∧ e = .returned (.tuple #[.agg #[.slice none 0 0, .slice none 0 0], .int .i64 (parseErr s : Nat)]) :=
  (parse_any s W hX.env hs).mono fun e w' ⟨hb, h⟩ => ⟨hX.later hb, hb, by
    rcases h with ⟨h1, _⟩ | ⟨_, h2⟩
    · exact absurd h1 he
    · exact h2⟩

theorem print_size {ns : List ByteArray} {us : List Nat} (hR : rightB ns us = true) : ((⟨(printL ns us).toArray⟩ : ByteArray)).size < 4294967281 := by
  obtain ⟨q1, q2, q3, q4, _, _, _⟩ := right_parts hR
  have h1 := hdr_length q4 q2
  have h2 := bodyL_length us ns.length us.length
  have h3 : us.length * (ns.length + 1) ≤ 64 * 65 := Nat.mul_le_mul (by omega) (by omega)
  show (printL ns us).toArray.size < _
  rw [List.size_toArray, printL, List.length_append, h2]
  omega
theorem at_both {w W W' : World} {p p2 : Nat} {A B A2 B2 : Option Addr} {c d : Nat} {ns : List ByteArray} {us : List Nat} (h1 : At w W p A B c d ns us) (h2 : At w W p2 A2 B2 ns.length us.length ns us) (hb : Below W.heap.size W W') : Hid (At w W' p A B c d ns us) ∧ Hid (At w W' p2 A2 B2 ns.length us.length ns us) := ⟨h1.later hb, h2.later hb⟩

set_option maxRecDepth 100000 in
set_option maxHeartbeats 2000000 in
theorem latBack_any (text : ByteArray) (A B : Option Addr) (ns : List ByteArray) (us : List Nat) (c d : Nat) (w : World) (hE : Env w) (hL : LatAt w A B c ns us) (ht : text.size < 4294967281) :
    Calls Tryd.prog 7 #[.agg #[.slice A ns.length c, .slice B us.length d], .string text] w fun e w' => e = .returned (.bool true) ∧ Below w.heap.size w w' := by
  have hX := Lib.hid (At.new (d := d) hE hL)
  have hnl := hL.nlen
  clear hE hL
  go_enter Tryd.func7, Tryd.ntmps7
  go_wp2_with fail
  refine (at_examples hX.out).mono ?_
  rintro e w1 ⟨rfl, hY⟩
  clear hX
  have q1 := hY.out.box.1
  have q2 := hY.out.box.2.1
  go_wp2_with fail
  clear q1 q2
  cases hR : rightB ns us with
  | false =>
    refine (at_no hY.out hR).mono ?_
    rintro e w2 ⟨rfl, hX⟩
    clear hY
    go_wp2_with fail
    refine (now_no ⟨hX.out.below, hX.out.env⟩ _ (by decide) empty_err).mono ?_
    rintro e w3 ⟨_, hb, rfl⟩
    have hY := Lib.hid (hX.out.later hb.out)
    clear hX hb
    generalize parseErr ⟨#[]⟩ = pe
    have q1 := hY.out.box.1
    have q2 := hY.out.box.2.1
    have q3 := hY.out.box.2.2
    go_wp2_with fail
    clear q1 q2 q3
    have hZ0 := Lib.hid (hY.out.later (later_alloc w3 (.cells #[.slice none 0 0, .slice none 0 0] 25)))
    clear hY
    generalize w3.alloc (.cells #[.slice none 0 0, .slice none 0 0] 25) = v3 at hZ0 ⊢
    refine (at_right hZ0.out hR).mono ?_
    rintro e w4 ⟨rfl, hZ⟩
    clear hZ0
    have hR := Lib.hid hR
    go_wp2_with fail
    cases hE9 : (parseErr text == 0) with
    | true =>
      have hp0 : parseErr text = 0 := by simpa using hE9
      refine (now_parse ⟨hZ.out.below, hZ.out.env⟩ text ht hp0).mono ?_
      rintro e w5 ⟨hN, A2, B2, hL2, _, rfl⟩
      have hpp := print_parse hp0
      have hX2 := Lib.hid (At.new (d := (prows text).length) hN.out.env hL2.out)
      have hB5 := hN
      have hRx := Lib.hid hpp.1
      have hPx : Hid ((⟨(printL (pnames text) (prows text)).toArray⟩ : ByteArray) = text) := by
        show _ = text
        apply toList_inj
        simpa using hpp.2
      clear hZ hE9 hp0 hpp hL2 hN
      have q1 := hX2.out.box.1
      have q2 := hX2.out.box.2.1
      go_wp2_with fail
      clear q1 q2
      refine (at_right hX2.out hRx.out).mono ?_
      rintro e w6 ⟨rfl, hX3⟩
      clear hX2
      have q1 := hX3.out.box.1
      have q2 := hX3.out.box.2.1
      go_wp2_with fail
      clear q1 q2
      refine (print_any A2 B2 (pnames text) (prows text) (pnames text).length (prows text).length w6 hX3.out.env hX3.out.lat hRx.out).mono ?_
      rintro e w7 ⟨rfl, hb7⟩
      rw [hPx.out]
      go_wp2
      go_ret
      exact ⟨rfl, (hB5.out.below.trans (hX3.out.below.mono hB5.out.below.size)).trans (hb7.mono (Nat.le_trans hB5.out.below.size hX3.out.below.size))⟩
    | false =>
      have hp0 : parseErr text ≠ 0 := by simpa using hE9
      refine (now_no ⟨hZ.out.below, hZ.out.env⟩ text ht hp0).mono ?_
      rintro e w5 ⟨hN, _, rfl⟩
      have hpi : (((parseErr text : Nat) : Int) == 0) = false := beq_eq_false_iff_ne.2 (by omega)
      have hX2 := Lib.hid (At.new (A := none) (B := none) (c := 0) (d := 0) (ns := []) (us := []) hN.out.env (lat_none w5))
      have hB5 := hN
      clear hZ hE9 hp0 hN
      generalize parseErr text = pt at hpi ⊢
      have q1 := hX2.out.box.1
      have q2 := hX2.out.box.2.1
      go_wp2_with fail
      clear q1 q2
      refine (print_no none none [] [] 0 0 _ hX2.out.env hX2.out.lat x_none).mono ?_
      rintro e w7 ⟨rfl, hb7⟩
      go_wp2
      go_ret
      exact ⟨rfl, (hB5.out.below.trans (hX2.out.below.mono hB5.out.below.size)).trans (hb7.mono (Nat.le_trans hB5.out.below.size hX2.out.below.size))⟩
  | true =>
    obtain ⟨g1, g2, g3⟩ := parse_print hY.out.lat.w64 hR
    have hsz := print_size hR
    refine (print_any A B ns us c d w1 hY.out.env hY.out.lat hR).mono ?_
    rintro e w2 ⟨rfl, hb2⟩
    have hX := Lib.hid (hY.out.later hb2)
    clear hY hb2
    have hR := Lib.hid hR
    generalize (⟨(printL ns us).toArray⟩ : ByteArray) = s at g1 g2 g3 hsz ⊢
    have g1 := Lib.hid g1
    have g2 := Lib.hid g2
    have g3 := Lib.hid g3
    go_wp2_with fail
    refine (now_parse ⟨hX.out.below, hX.out.env⟩ s hsz g1.out).mono ?_
    rintro e w3 ⟨_, A2, B2, hL2, hb3, rfl⟩
    have hL3 := hL2.out
    rw [g2.out, g3.out] at hL3 ⊢
    have hY := Lib.hid (hX.out.later hb3.out)
    have hM0 : Hid (At w (w3.alloc (.cells #[.slice A2 ns.length ns.length, .slice B2 us.length us.length] 25)) w3.heap.size A2 B2 ns.length us.length ns us) :=
      have l := later_alloc w3 (.cells #[.slice A2 ns.length ns.length, .slice B2 us.length us.length] 25)
      ⟨hY.out.below.trans (l.mono hY.out.below.size), hY.out.env.later l, Box2.new w3 _ _ _, hL3.later l⟩
    have hZ0 := Lib.hid (hY.out.later (later_alloc w3 (.cells #[.slice A2 ns.length ns.length, .slice B2 us.length us.length] 25)))
    have q1 := hY.out.box.1
    have q2 := hY.out.box.2.1
    have q3 := hY.out.box.2.2
    clear hX hb3 hL2 hL3 hY g1 g2 g3 hsz
    go_wp2_with fail
    clear q1 q2 q3
    generalize w3.alloc (.cells #[.slice A2 ns.length ns.length, .slice B2 us.length us.length] 25) = v3 at hZ0 hM0 ⊢
    generalize w3.heap.size = p2 at hM0 ⊢
    refine (right_any A B ns us c d v3 hZ0.out.env hZ0.out.lat).mono ?_
    rintro e w4 ⟨rfl, hb4⟩
    rw [hR.out]
    obtain ⟨hZ, hM⟩ := at_both hZ0.out hM0.out hb4
    clear hZ0 hM0 hb4
    have q1 := hZ.out.box.1
    have q2 := hZ.out.box.2.1
    have q4 := hM.out.box.1
    have q5 := hM.out.box.2.1
    go_wp2_with fail
    obtain ⟨r1, r2, r3, r4, r5, r6, r7⟩ := right_parts hR.out
    obtain ⟨b1, o1, rfl, l1, c1⟩ := hZ.out.lat.names (by intro e; subst e; simp at r1)
    obtain ⟨b2, o2, rfl, l2, c2⟩ := hM.out.lat.names (by intro e; subst e; simp at r1)
    obtain ⟨b3, o3, rfl, l3, c3⟩ := hZ.out.lat.words (by intro e; subst e; simp at r3; omega)
    obtain ⟨b4, o4, rfl, l4, c4⟩ := hM.out.lat.words (by intro e; subst e; simp at r3; omega)
    have hul := hZ.out.lat.ulen
    have C1 := Lib.hid (And.intro l1 c1)
    have C2 := Lib.hid (And.intro l2 c2)
    have C3 := Lib.hid (And.intro l3 c3)
    have C4 := Lib.hid (And.intro l4 c4)
    have R3 := Lib.hid r3
    clear c1 c2 c3 c4 l1 l2 l3 l4 r1 r2 r3 r4 r5 r6 r7 q1 q2 q4 q5
    go_loopw [8] (fun i wr => ∃ k : Nat, k ≤ us.length ∧ i = .int .i64 k ∧ Hid (Below w4.heap.size w4 wr)) (fun i _ => us.length - (intOf i).toNat)
    case atStart => exact ⟨0, Nat.zero_le _, rfl, Below.refl _ _⟩
    case round =>
      obtain ⟨k, hk, rfl, hbw⟩ := hrel
      obtain ⟨hZ2, hM2⟩ := at_both hZ.out hM.out hbw.out
      have q1 := hZ2.out.box.1
      have q2 := hZ2.out.box.2.1
      have q4 := hM2.out.box.1
      have q5 := hM2.out.box.2.1
      by_cases hlt : k < us.length
      · have hk2 : k < ns.length := by have := R3.out; omega
        have d1 := (hbw.out.cell (p := ⟨b1, o1 + k, none⟩) C1.out.1).trans (C1.out.2 k hk2)
        have d2 := (hbw.out.cell (p := ⟨b2, o2 + k, none⟩) C2.out.1).trans (C2.out.2 k hk2)
        have d3 := (hbw.out.cell (p := ⟨b3, o3 + k, none⟩) C3.out.1).trans (C3.out.2 k hlt)
        have d4 := (hbw.out.cell (p := ⟨b4, o4 + k, none⟩) C4.out.1).trans (C4.out.2 k hlt)
        have kk0 : (0 : Int) ≤ (k : Int) := Int.natCast_nonneg k
        have kk1 : (k : Int) < (ns.length : Int) := by omega
        have kk2 : (k : Int) < (us.length : Int) := by omega
        have hb9 : Hid (Below w4.heap.size w4 wr.drew) := hbw.out.drew
        go_wp2_with fail
        go_region_held3 (fun w' => w'.cell? ⟨w.heap.size, 0, none⟩ = some (.slice (some ⟨b1, o1, none⟩) ns.length c) ∧ w'.cell? ⟨w.heap.size, 1, none⟩ = some (.slice (some ⟨b3, o3, none⟩) us.length d) ∧ w'.cell? ⟨p2, 0, none⟩ = some (.slice (some ⟨b2, o2, none⟩) ns.length ns.length) ∧ w'.cell? ⟨p2, 1, none⟩ = some (.slice (some ⟨b4, o4, none⟩) us.length us.length) ∧ w'.cell? ⟨b1, o1 + k, none⟩ = some (.string (Lt.nm ns k)) ∧ w'.cell? ⟨b2, o2 + k, none⟩ = some (.string (Lt.nm ns k)) ∧ w'.cell? ⟨b3, o3 + k, none⟩ = some (.int .u64 (row us k : Nat)) ∧ w'.cell? ⟨b4, o4 + k, none⟩ = some (.int .u64 (row us k : Nat))) (exact ⟨q1, q2, q4, q5, d1, d2, d3, d4⟩) (fail)
        all_goals go_wp2
        all_goals go_round
        case rel => exact ⟨k + 1, by omega, by go_num, hb9⟩
        case measure => simp [intOf]; omega
      · go_wp2_with fail
        clear C1 C2 C3 C4 R3 hlt hk hM hZ
        have hZ := hZ2
        clear hM2 hZ2 q1 q2 q4 q5 hul
        cases hE9 : (parseErr text == 0) with
        | true =>
          have hp0 : parseErr text = 0 := by simpa using hE9
          refine (now_parse ⟨hZ.out.below, hZ.out.env⟩ text ht hp0).mono ?_
          rintro e w5 ⟨hN, A2, B2, hL2, _, rfl⟩
          have hpp := print_parse hp0
          have hX2 := Lib.hid (At.new (d := (prows text).length) hN.out.env hL2.out)
          have hB5 := hN
          have hRx := Lib.hid hpp.1
          have hPx : Hid ((⟨(printL (pnames text) (prows text)).toArray⟩ : ByteArray) = text) := by
            show _ = text
            apply toList_inj
            simpa using hpp.2
          clear hZ hE9 hp0 hpp hL2 hN
          have q1 := hX2.out.box.1
          have q2 := hX2.out.box.2.1
          go_wp2_with fail
          clear q1 q2
          refine (at_right hX2.out hRx.out).mono ?_
          rintro e w6 ⟨rfl, hX3⟩
          clear hX2
          have q1 := hX3.out.box.1
          have q2 := hX3.out.box.2.1
          go_wp2_with fail
          clear q1 q2
          refine (print_any A2 B2 (pnames text) (prows text) (pnames text).length (prows text).length w6 hX3.out.env hX3.out.lat hRx.out).mono ?_
          rintro e w7 ⟨rfl, hb7⟩
          rw [hPx.out]
          go_wp2
          go_ret
          exact ⟨rfl, (hB5.out.below.trans (hX3.out.below.mono hB5.out.below.size)).trans (hb7.mono (Nat.le_trans hB5.out.below.size hX3.out.below.size))⟩
        | false =>
          have hp0 : parseErr text ≠ 0 := by simpa using hE9
          refine (now_no ⟨hZ.out.below, hZ.out.env⟩ text ht hp0).mono ?_
          rintro e w5 ⟨hN, _, rfl⟩
          have hpi : (((parseErr text : Nat) : Int) == 0) = false := beq_eq_false_iff_ne.2 (by omega)
          have hX2 := Lib.hid (At.new (A := none) (B := none) (c := 0) (d := 0) (ns := []) (us := []) hN.out.env (lat_none w5))
          have hB5 := hN
          clear hZ hE9 hp0 hN
          generalize parseErr text = pt at hpi ⊢
          have q1 := hX2.out.box.1
          have q2 := hX2.out.box.2.1
          go_wp2_with fail
          clear q1 q2
          refine (print_no none none [] [] 0 0 _ hX2.out.env hX2.out.lat x_none).mono ?_
          rintro e w7 ⟨rfl, hb7⟩
          go_wp2
          go_ret
          exact ⟨rfl, (hB5.out.below.trans (hX2.out.below.mono hB5.out.below.size)).trans (hb7.mono (Nat.le_trans hB5.out.below.size hX2.out.below.size))⟩
end Go.Proofs.YtjeelebppfhmlaaDoor
