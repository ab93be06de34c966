/-
  The walk of the chapter's examples: they hold. Condition: the variables that are read lie as laid.
-/
import Derived.Test.YtkmafbcgdhhenabDoorLxPrint
namespace Go.Proofs.YtkmafbcgdhhenabDoor
open Go.RowKit Go.Lx

def ex1 : List UInt8 := [108, 101, 116, 32, 120, 49, 61, 62, 58, 61, 32, 49, 50, 40, 35, 32, 110, 111, 10, 33, 102, 117, 110]
def exT : List Tok := [⟨3, [108, 101, 116], 0⟩, ⟨1, [120, 49], 0⟩, ⟨4, [61, 62], 0⟩, ⟨4, [58, 61], 0⟩, ⟨2, [49, 50], 12⟩, ⟨4, [40], 0⟩, ⟨4, [33], 0⟩, ⟨3, [102, 117, 110], 0⟩]
theorem ex1_lex : lexL ex1 = some exT := by decide +kernel
theorem ex2_lex : lexL [120, 58, 61, 62, 49] = none := by decide +kernel
theorem ex3_lex : lexL [48, 49, 50] = none := by decide +kernel
theorem ex4_lex : lexL [63] = none := by decide +kernel
theorem exT_right : rightL exT = true := by decide +kernel
theorem exT_short (j : Nat) : (exT.getD j ⟨0, [], 0⟩).text.length ≤ 140737488355328 := by
  by_cases h : j < 8
  · have : ∀ j, j < 8 → (exT.getD j ⟨0, [], 0⟩).text.length ≤ 140737488355328 := by decide +kernel
    exact this j h
  · rw [List.getD_eq_getElem?_getD, List.getElem?_eq_none (by show 8 ≤ j; omega)]; decide
theorem exT_print : Lib.join (exT.map (·.text)) [32] = [108, 101, 116, 32, 120, 49, 32, 61, 62, 32, 58, 61, 32, 49, 50, 32, 40, 32, 33, 32, 102, 117, 110] := by decide +kernel
theorem lex_none {s : ByteArray} {w : World} (hE : Env w) (hs : s.size ≤ 65536) (h : lexL s.data.toList = none) : Calls Tryd.prog 10 #[.string s] w fun e w' => e = .returned (.tuple #[.slice none 0 0, .int .i64 2]) ∧ Below w.heap.size w w' :=
  (lex_any s w hE (by omega)).mono fun e w' ⟨hb, ho⟩ => by
    refine ⟨?_, hb⟩
    rcases ho with ⟨h1, _⟩ | ⟨_, _, h1⟩ | ⟨_, l, A, c, h1, _⟩
    · omega
    · exact h1
    · rw [h] at h1; cases h1
theorem lex_some {s : ByteArray} {w : World} {l : List Tok} (hE : Env w) (hs : s.size ≤ 65536) (h : lexL s.data.toList = some l) : Calls Tryd.prog 10 #[.string s] w fun e w' => ∃ A c, e = .returned (.tuple #[.slice A l.length c, .int .i64 0]) ∧ Below w.heap.size w w' ∧ Toks w' w'.heap.size A l ∧ l.length ≤ c ∧ c ≤ 9223372036854775807 ∧ (A = none → c = 0) :=
  (lex_any s w hE (by omega)).mono fun e w' ⟨hb, ho⟩ => by
    rcases ho with ⟨h1, _⟩ | ⟨_, h1, _⟩ | ⟨_, l', A, c, h1, h2, h3, h4, h5⟩
    · omega
    · rw [h] at h1; cases h1
    · rw [h] at h1; cases h1
      exact ⟨A, c, h2, hb, h3, h4, h5⟩
theorem lex_long {s : ByteArray} {w : World} (hE : Env w) (hs : 65536 < s.size) (hm : s.size ≤ 9223372036854775807) : Calls Tryd.prog 10 #[.string s] w fun e w' => e = .returned (.tuple #[.slice none 0 0, .int .i64 1]) ∧ Below w.heap.size w w' :=
  (lex_any s w hE hm).mono fun e w' ⟨hb, ho⟩ => by
    refine ⟨?_, hb⟩
    rcases ho with ⟨_, h1⟩ | ⟨h1, _⟩ | ⟨h1, _⟩
    · exact h1
    · omega
    · omega
/-- what is known: the variables, and that below nothing has turned -/
structure Now (w W : World) : Prop where
  below : Below w.heap.size w W
  env : Env W
theorem Now.later {w W W' : World} (h : Now w W) (hb : Below W.heap.size W W') : Now w W' := ⟨h.below.trans (hb.mono h.below.size), h.env.later hb⟩
theorem Now.new {w : World} (h : Env w) : Now w w := ⟨Below.refl _ _, h⟩
/-- and tokens behind a slice -/
structure NowT (w W : World) (A : Option Addr) (ts : List Tok) : Prop where
  now : Now w W
  toks : Toks W W.heap.size A ts
theorem NowT.later {w W W' : World} {A : Option Addr} {ts : List Tok} (h : NowT w W A ts) (hb : Below W.heap.size W W') : NowT w W' A ts := ⟨h.now.later hb, h.toks.later hb⟩

set_option maxRecDepth 100000 in
set_option maxHeartbeats 2000000 in
theorem examples_any (w : World) (hE : Env w) : Calls Tryd.prog 9 #[] w fun e w' => e = .returned (.bool true) ∧ Below w.heap.size w w' := by
  have hX := Lib.hid (Now.new hE)
  clear hE
  go_enter Tryd.func9, Tryd.ntmps9
  go_wp2_with fail
  refine (lex_some (l := exT) hX.out.env (by decide) ex1_lex).mono ?_
  rintro e w1 ⟨A, c, rfl, hb, hT, hc1, hc2, _⟩
  have hY : Hid (NowT w w1 A exT) := ⟨hX.out.later hb, hT⟩
  clear hX hb hT
  go_wp2_with fail
  refine (lex_none hY.out.now.env (by decide) ex2_lex).mono ?_
  rintro e w2 ⟨rfl, hb⟩
  replace hY := Lib.hid (hY.out.later hb)
  clear hb
  go_wp2_with fail
  refine (lex_none hY.out.now.env (by decide) ex3_lex).mono ?_
  rintro e w3 ⟨rfl, hb⟩
  replace hY := Lib.hid (hY.out.later hb)
  clear hb
  go_wp2_with fail
  refine (lex_none hY.out.now.env (by decide) ex4_lex).mono ?_
  rintro e w4 ⟨rfl, hb⟩
  replace hY := Lib.hid (hY.out.later hb)
  clear hb
  obtain ⟨b, off, rfl, hb, hc⟩ := hY.out.toks (by decide)
  have a0 : w4.cell? ⟨b, off, none⟩ = some (.int .i64 3) := (hc 0 (by decide)).1
  have a1 : w4.cell? ⟨b, off + 1, none⟩ = some (.string ⟨#[108, 101, 116]⟩) := (hc 0 (by decide)).2.1
  have a2 : w4.cell? ⟨b, off + 2, none⟩ = some (.int .i64 0) := (hc 0 (by decide)).2.2
  have b0 : w4.cell? ⟨b, off + 3, none⟩ = some (.int .i64 1) := (hc 1 (by decide)).1
  have b1 : w4.cell? ⟨b, off + 3 + 1, none⟩ = some (.string ⟨#[120, 49]⟩) := (hc 1 (by decide)).2.1
  have b2 : w4.cell? ⟨b, off + 3 + 2, none⟩ = some (.int .i64 0) := (hc 1 (by decide)).2.2
  have c0 : w4.cell? ⟨b, off + 6, none⟩ = some (.int .i64 4) := (hc 2 (by decide)).1
  have c1 : w4.cell? ⟨b, off + 6 + 1, none⟩ = some (.string ⟨#[61, 62]⟩) := (hc 2 (by decide)).2.1
  have c2 : w4.cell? ⟨b, off + 6 + 2, none⟩ = some (.int .i64 0) := (hc 2 (by decide)).2.2
  have d0 : w4.cell? ⟨b, off + 9, none⟩ = some (.int .i64 4) := (hc 3 (by decide)).1
  have d1 : w4.cell? ⟨b, off + 9 + 1, none⟩ = some (.string ⟨#[58, 61]⟩) := (hc 3 (by decide)).2.1
  have d2 : w4.cell? ⟨b, off + 9 + 2, none⟩ = some (.int .i64 0) := (hc 3 (by decide)).2.2
  have e0 : w4.cell? ⟨b, off + 12, none⟩ = some (.int .i64 2) := (hc 4 (by decide)).1
  have e1 : w4.cell? ⟨b, off + 12 + 1, none⟩ = some (.string ⟨#[49, 50]⟩) := (hc 4 (by decide)).2.1
  have e2 : w4.cell? ⟨b, off + 12 + 2, none⟩ = some (.int .i64 12) := (hc 4 (by decide)).2.2
  have f0 : w4.cell? ⟨b, off + 18, none⟩ = some (.int .i64 4) := (hc 6 (by decide)).1
  have f1 : w4.cell? ⟨b, off + 18 + 1, none⟩ = some (.string ⟨#[33]⟩) := (hc 6 (by decide)).2.1
  have f2 : w4.cell? ⟨b, off + 18 + 2, none⟩ = some (.int .i64 0) := (hc 6 (by decide)).2.2
  have g0 : w4.cell? ⟨b, off + 21, none⟩ = some (.int .i64 3) := (hc 7 (by decide)).1
  have g1 : w4.cell? ⟨b, off + 21 + 1, none⟩ = some (.string ⟨#[102, 117, 110]⟩) := (hc 7 (by decide)).2.1
  have g2 : w4.cell? ⟨b, off + 21 + 2, none⟩ = some (.int .i64 0) := (hc 7 (by decide)).2.2
  clear hc
  have hlen : exT.length = 8 := rfl
  rw [hlen] at hc1 ⊢
  have kr := Lib.hid (rights_any (some ⟨b, off, none⟩) exT c w4 hY.out.now.env hY.out.toks (by intro j; exact exT_short j) (by decide))
  rw [exT_right, hlen] at kr
  go_wp2_with fail
  refine kr.out.mono ?_
  rintro e w5 ⟨rfl, hb5⟩
  replace hY := Lib.hid (hY.out.later hb5)
  clear hb5 kr a0 a1 a2 b0 b1 b2 c0 c1 c2 d0 d1 d2 e0 e1 e2 f0 f1 f2 g0 g1 g2
  have kp := Lib.hid (print_any (some ⟨b, off, none⟩) exT c w5 hY.out.toks (by decide) (by rw [exT_print]; decide))
  rw [exT_print, hlen] at kp
  go_wp2_with fail
  refine kp.out.mono ?_
  rintro e w6 ⟨rfl, hb6⟩
  replace hY := Lib.hid (hY.out.later hb6)
  clear hb6 kp
  have k1 := keyword_any ⟨#[119, 105, 116, 104]⟩ w6 hY.out.now.env
  rw [show isKey (⟨#[119, 105, 116, 104]⟩ : ByteArray).data.toList = true from by decide +kernel] at k1
  have k2 := keyword_any ⟨#[120]⟩ w6 hY.out.now.env
  rw [show isKey (⟨#[120]⟩ : ByteArray).data.toList = false from by decide +kernel] at k2
  replace k1 := Lib.hid k1
  replace k2 := Lib.hid k2
  rw [show strOf [108, 101, 116, 32, 120, 49, 32, 61, 62, 32, 58, 61, 32, 49, 50, 32, 40, 32, 33, 32, 102, 117, 110] = ⟨#[108, 101, 116, 32, 120, 49, 32, 61, 62, 32, 58, 61, 32, 49, 50, 32, 40, 32, 33, 32, 102, 117, 110]⟩ from rfl]
  go_wp2_with fail
  refine k1.out.mono ?_
  rintro e w7 ⟨rfl, rfl⟩
  go_wp2_with fail
  refine k2.out.mono ?_
  rintro e w8 ⟨rfl, rfl⟩
  go_wp2_with fail
  go_ret
  exact ⟨rfl, hY.out.now.below⟩
end Go.Proofs.YtkmafbcgdhhenabDoor
