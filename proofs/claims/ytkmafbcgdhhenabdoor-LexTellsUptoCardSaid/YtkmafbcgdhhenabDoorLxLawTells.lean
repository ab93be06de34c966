/-
  LexTells's walk: the program and the reference answer the same. Conditions: the variables that are read lie as laid; the tokens can be read; nothing is as long as 2^46 bytes.
-/
import Derived.Test.YtkmafbcgdhhenabDoorLxR11
import Derived.Test.YtkmafbcgdhhenabDoorLxR9
import Derived.Test.YtkmafbcgdhhenabDoorLxR7
import Derived.Test.YtkmafbcgdhhenabDoorLxLawRight
namespace Go.Proofs.YtkmafbcgdhhenabDoor
open Go.RowKit Go.Lx

/-- what both of them answer of a text -/
theorem lex_both (s : ByteArray) (hs : s.size ≤ 140737488355328) : ∃ (l : List Tok) (k : Int), l.length ≤ 65536 ∧
    (∀ w, Env w → Calls Tryd.prog 10 #[.string s] w fun e w' => ∃ A c, e = .returned (.tuple #[.slice A l.length c, .int .i64 k]) ∧ Below w.heap.size w w' ∧ Toks w' w'.heap.size A l) ∧
    (∀ w, Calls Tryd.prog 11 #[.string s] w fun e w' => ∃ A c, e = .returned (.tuple #[.slice A l.length c, .int .i64 k]) ∧ Below w.heap.size w w' ∧ Toks w' w'.heap.size A l) := by
  have key : ∃ (l : List Tok) (k : Int), l.length ≤ 65536 ∧ ∀ w e w', LexPost s w e w' → ∃ A c, e = .returned (.tuple #[.slice A l.length c, .int .i64 k]) ∧ Below w.heap.size w w' ∧ Toks w' w'.heap.size A l := by
    by_cases hb : 65536 < s.size
    · refine ⟨[], 1, by simp, fun w e w' ⟨h1, h2⟩ => ?_⟩
      rcases h2 with ⟨_, h⟩ | ⟨h, _⟩ | ⟨h, _⟩
      · exact ⟨none, 0, h, h1, Toks.nil _ _ _⟩
      · omega
      · omega
    · cases hl : lexL s.data.toList with
      | none =>
        refine ⟨[], 2, by simp, fun w e w' ⟨h1, h2⟩ => ?_⟩
        rcases h2 with ⟨h, _⟩ | ⟨_, _, h⟩ | ⟨_, l, A, c, h, _⟩
        · omega
        · exact ⟨none, 0, h, h1, Toks.nil _ _ _⟩
        · rw [hl] at h; cases h
      | some l =>
        have hn := (lexL_lens _ _ (Nat.le_refl _) l hl).2
        rw [size_data] at hn
        refine ⟨l, 0, by omega, fun w e w' ⟨h1, h2⟩ => ?_⟩
        rcases h2 with ⟨h, _⟩ | ⟨_, h, _⟩ | ⟨_, l', A, c, h, h3, h4, _⟩
        · omega
        · rw [hl] at h; cases h
        · rw [hl] at h; cases h
          exact ⟨A, c, h3, h1, h4⟩
  obtain ⟨l, k, hn, h⟩ := key
  exact ⟨l, k, hn, fun w hE => (lex_any s w hE (by omega)).mono (h w), fun w => (reflex_any s w hs).mono (h w)⟩

set_option maxRecDepth 100000 in
set_option maxHeartbeats 4000000 in
theorem lexTells_any (s : ByteArray) (A : Option Addr) (ts : List Tok) (c : Nat) (w : World) (hE : Env w) (hs : s.size ≤ 140737488355328) (hT : Toks w w.heap.size A ts) (hsh : Short ts) (hl : ts.length ≤ 1099511627776) (hj : (Lib.join (ts.map (·.text)) [32]).length ≤ 70368744177664) :
    Calls Tryd.prog 3 #[.string s, .slice A ts.length c] w fun e w' => e = .returned (.bool true) ∧ Below w.heap.size w w' := by
  have hY : Hid (NowT w w A ts) := ⟨Now.new hE, hT⟩
  clear hE hT
  obtain ⟨l, k, hn, kL, kR⟩ := lex_both s hs
  replace kL := Lib.hid kL
  replace kR := Lib.hid kR
  replace hsh := Lib.hid hsh
  have kp := Lib.hid (fun W hT => print_any A ts c W hT (by omega) (by omega))
  have kq := Lib.hid (fun B d W hT => refprint_any B ts d W hT (by omega) (by omega))
  have kr := Lib.hid (fun W hE hT => rights_any A ts c W hE hT hsh.out (by omega))
  have kt := Lib.hid (fun B d W hT => refrights_any B ts d W hT hsh.out (by omega))
  have kf := Lib.hid (fun W hT => reftoks_any A ts c W hT (by omega))
  have kk := Lib.hid (fun W hE => keyword_any s W hE)
  have km := Lib.hid (fun W => refkeyword_any s W)
  generalize isKey s.data.toList = b2 at kk km
  generalize rightL ts = b1 at kr kt
  generalize strOf (Lib.join (ts.map (·.text)) [32]) = z at kp kq
  have hb1 : (b1 == b1) = true := by simp
  have hb2 : (b2 == b2) = true := by simp
  have hk : (k == k) = true := by simp
  go_enter Tryd.func3, Tryd.ntmps3
  go_wp2_with fail
  refine (examples_any w hY.out.now.env).mono ?_
  rintro e w1 ⟨rfl, hb⟩
  replace hY := Lib.hid (hY.out.later hb)
  clear hb
  go_wp2_with fail
  refine (kL.out w1 hY.out.now.env).mono ?_
  rintro e w2 ⟨A1, c1, rfl, hb, t1⟩
  replace hY := Lib.hid (hY.out.later hb)
  replace t1 := Lib.hid t1
  clear hb
  go_wp2_with fail
  refine (kR.out w2).mono ?_
  rintro e w3 ⟨A2, c2, rfl, hb, t2⟩
  replace hY := Lib.hid (hY.out.later hb)
  replace t1 := Lib.hid (t1.out.later hb)
  replace t2 := Lib.hid t2
  clear hb
  go_wp2_with fail
  refine (sametoks_any A1 A2 l c1 c2 w3 t1.out t2.out (by omega)).mono ?_
  rintro e w4 ⟨rfl, hb⟩
  replace hY := Lib.hid (hY.out.later hb)
  clear hb t1 t2
  go_wp2_with fail
  refine (kr.out w4 hY.out.now.env hY.out.toks).mono ?_
  rintro e w5 ⟨rfl, hb⟩
  replace hY := Lib.hid (hY.out.later hb)
  clear hb
  go_wp2_with fail
  refine (kf.out w5 hY.out.toks).mono ?_
  rintro e w6 ⟨hb, A3, c3, rfl, t3⟩
  replace hY := Lib.hid (hY.out.later hb)
  replace t3 := Lib.hid t3
  clear hb
  go_wp2_with fail
  refine (kt.out A3 c3 w6 t3.out).mono ?_
  rintro e w7 ⟨rfl, hb⟩
  replace hY := Lib.hid (hY.out.later hb)
  clear hb t3
  go_wp2_with fail
  refine (kp.out w7 hY.out.toks).mono ?_
  rintro e w8 ⟨rfl, hb⟩
  replace hY := Lib.hid (hY.out.later hb)
  clear hb
  go_wp2_with fail
  refine (kf.out w8 hY.out.toks).mono ?_
  rintro e w9 ⟨hb, A4, c4, rfl, t4⟩
  replace hY := Lib.hid (hY.out.later hb)
  replace t4 := Lib.hid t4
  clear hb
  go_wp2_with fail
  refine (kq.out A4 c4 w9 t4.out).mono ?_
  rintro e w10 ⟨rfl, rfl⟩
  go_wp2_with fail
  refine (kk.out _ hY.out.now.env).mono ?_
  rintro e w11 ⟨rfl, rfl⟩
  go_wp2_with fail
  refine (km.out _).mono ?_
  rintro e w12 ⟨rfl, hb⟩
  replace hY := Lib.hid (hY.out.later hb)
  clear hb
  go_wp2_with fail
  go_ret
  exact ⟨rfl, hY.out.now.below⟩
end Go.Proofs.YtkmafbcgdhhenabDoor
