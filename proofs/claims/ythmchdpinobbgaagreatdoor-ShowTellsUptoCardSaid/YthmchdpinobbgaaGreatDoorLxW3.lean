/-
  The walk of lex.begun: what the first byte begins. Condition: the text is not empty.
-/
import Derived.Test.YthmchdpinobbgaaGreatDoorLxW2
namespace Go.Proofs.YthmchdpinobbgaaGreatDoor.X
open Go.RowKit Go.Lx

theorem indexByte_mem (c : UInt8) : ∀ l : List UInt8, decide (0 ≤ Lib.indexByte l c) = decide (c ∈ l)
  | [] => by simp [Lib.indexByte]
  | b :: l => by
    have ih := indexByte_mem c l
    have hge := Lib.indexByte_ge l c
    unfold Lib.indexByte
    by_cases h : b = c
    · subst h; simp
    · have h1 : (b == c) = false := by simpa using h
      rw [h1]
      by_cases h2 : Lib.indexByte l c = -1
      · rw [h2] at ih
        have h3 : c ∉ l := by simpa using ih
        have h4 : c ≠ b := fun e => h e.symm
        simp [h2, h3, h4]
      · have h3 : (Lib.indexByte l c == -1) = false := by simpa using h2
        rw [h3]
        have h4 : 0 ≤ Lib.indexByte l c := by omega
        have h5 : c ∈ l := by simpa [h4] using ih
        simp [h5]; omega
theorem byte_back (c : UInt8) : ((c.toNat : Int)).toNat.toUInt8 = c := by
  simp
theorem byte_ne {c : UInt8} {n : Nat} (h : c ≠ n.toUInt8) : ((c.toNat : Int) == (n : Int)) = false := by
  rw [beq_eq_false_iff_ne]
  intro e
  apply h
  have : c.toNat = n := by omega
  rw [← this]; simp
theorem pref_none {c : UInt8} {r p : List UInt8} {d : UInt8} : Lib.hasPrefix (c :: r) (d :: p) = (d == c && Lib.hasPrefix r p) := rfl
theorem ret_two {k k2 : Int} {n n2 : Int} (h1 : k = k2) (h2 : n = n2) : Ending.returned (.tuple #[.int .i64 k, .int .i64 n]) = .returned (.tuple #[.int .i64 k2, .int .i64 n2]) := by rw [h1, h2]

set_option maxRecDepth 100000 in
set_option maxHeartbeats 8000000 in
theorem begun_any (s : ByteArray) (w : World) (hs : s.size ≤ 9223372036854775807) (hne : 0 < s.size) :
    Calls Tryz.prog 52 #[.string s] w fun e w' => e = .returned (.tuple #[.int .i64 (headRun s.data.toList).1, .int .i64 (headRun s.data.toList).2]) ∧ w = w' := by
  obtain ⟨c, r, hcr⟩ : ∃ c r, s.data.toList = c :: r := by
    cases h : s.data.toList with
    | nil => have : s.data.toList.length = s.size := by simp
             rw [h] at this; simp at this; omega
    | cons c r => exact ⟨c, r, rfl⟩
  have h0 : s[0] = c := by
    rw [get_byte s 0 hne]; unfold byteAt; rw [hcr]; rfl
  have hB := Lib.hid (headRun_cons c r)
  replace hcr := Lib.hid hcr
  replace h0 := Lib.hid h0
  have rl := Lib.hid (run_line s w hs)
  have ra := Lib.hid (run_alnum s w hs)
  have rd := Lib.hid (run_digit s w hs)
  have kp1 := Lib.hid (Tryz.strings_HasPrefix s ⟨#[58, 61]⟩ w)
  have kp2 := Lib.hid (Tryz.strings_HasPrefix s ⟨#[61, 62]⟩ w)
  have ki := Lib.hid (Tryz.strings_IndexByte ⟨#[40, 41, 59, 33, 43, 45, 42, 60, 46]⟩ (c.toNat : Int) w)
  rw [byte_back] at ki
  rw [hcr.out] at rl ra rd kp1 kp2 ⊢
  rw [hB.out]
  have kl := Lib.hid (letter_any c w)
  have kd := Lib.hid (digit_any c w)
  by_cases c1 : c = 35
  · rw [if_pos c1]
    subst c1
    have e0 : (s[0].toNat : Int) = 35 := by rw [h0.out]; rfl
    clear hB hcr h0
    go_enter Tryz.func52, Tryz.ntmps52
    go_wp2_with (go_at_call 65; refine rl.out.mono ?_; rintro e w' ⟨rfl, rfl⟩)
    go_ret2
    exact ⟨rfl, rfl⟩
  by_cases c32 : c = 32
  · rw [if_neg c1, if_pos (by simp [c32])]
    subst c32
    have e0 : (s[0].toNat : Int) = 32 := by rw [h0.out]; rfl
    clear hB hcr h0
    go_enter Tryz.func52, Tryz.ntmps52
    go_wp2_with fail
    go_ret2
    exact ⟨rfl, rfl⟩
  by_cases c10 : c = 10
  · rw [if_neg c1, if_pos (by simp [c10])]
    subst c10
    have e0 : (s[0].toNat : Int) = 10 := by rw [h0.out]; rfl
    clear hB hcr h0
    go_enter Tryz.func52, Tryz.ntmps52
    go_wp2_with fail
    go_ret2
    exact ⟨rfl, rfl⟩
  rw [if_neg c1, if_neg (show ¬ (c = 32 ∨ c = 10) from fun h => h.elim c32 c10)]
  by_cases c58 : c = 58
  · rw [if_pos (by simp [c58])]
    subst c58
    have e0 : (s[0].toNat : Int) = 58 := by rw [h0.out]; rfl
    clear hB hcr h0 c1 c32 c10
    unfold hasP
    rw [show (⟨#[58, 61]⟩ : ByteArray).data.toList = [58, 61] from rfl] at kp1
    rw [show (⟨#[61, 62]⟩ : ByteArray).data.toList = [61, 62] from rfl] at kp2
    generalize Lib.hasPrefix (58 :: r) [58, 61] = p1 at kp1 ⊢
    generalize Lib.hasPrefix (58 :: r) [61, 62] = p2 at kp2 ⊢
    cases p1 with
    | true =>
      go_enter Tryz.func52, Tryz.ntmps52
      go_wp2_with (go_at_call 67; refine kp1.out.mono ?_; rintro e w' ⟨rfl, rfl⟩)
      go_ret2
      exact ⟨rfl, rfl⟩
    | false =>
      cases p2
      all_goals
        go_enter Tryz.func52, Tryz.ntmps52
        go_wp2_with fail
        refine kp1.out.mono ?_
        rintro e w' ⟨rfl, rfl⟩
        go_wp2_with fail
        refine kp2.out.mono ?_
        rintro e w' ⟨rfl, rfl⟩
        go_wp2
        go_ret2
        exact ⟨rfl, rfl⟩
  by_cases c61 : c = 61
  · rw [if_pos (by simp [c61])]
    subst c61
    have e0 : (s[0].toNat : Int) = 61 := by rw [h0.out]; rfl
    clear hB hcr h0 c1 c32 c10 c58
    unfold hasP
    rw [show (⟨#[58, 61]⟩ : ByteArray).data.toList = [58, 61] from rfl] at kp1
    rw [show (⟨#[61, 62]⟩ : ByteArray).data.toList = [61, 62] from rfl] at kp2
    generalize Lib.hasPrefix (61 :: r) [58, 61] = p1 at kp1 ⊢
    generalize Lib.hasPrefix (61 :: r) [61, 62] = p2 at kp2 ⊢
    cases p1 with
    | true =>
      go_enter Tryz.func52, Tryz.ntmps52
      go_wp2_with (go_at_call 67; refine kp1.out.mono ?_; rintro e w' ⟨rfl, rfl⟩)
      go_ret2
      exact ⟨rfl, rfl⟩
    | false =>
      cases p2
      all_goals
        go_enter Tryz.func52, Tryz.ntmps52
        go_wp2_with fail
        refine kp1.out.mono ?_
        rintro e w' ⟨rfl, rfl⟩
        go_wp2_with fail
        refine kp2.out.mono ?_
        rintro e w' ⟨rfl, rfl⟩
        go_wp2
        go_ret2
        exact ⟨rfl, rfl⟩
  rw [if_neg (show ¬ (c = 58 ∨ c = 61) from fun h => h.elim c58 c61)]
  have g35 : ((c.toNat : Int) == 35) = false := byte_ne (c := c) (n := 35) c1
  have g32 : ((c.toNat : Int) == 32) = false := byte_ne (c := c) (n := 32) c32
  have g10 : ((c.toNat : Int) == 10) = false := byte_ne (c := c) (n := 10) c10
  have g58 : ((c.toNat : Int) == 58) = false := byte_ne (c := c) (n := 58) c58
  have g61 : ((c.toNat : Int) == 61) = false := byte_ne (c := c) (n := 61) c61
  rw [← h0.out] at g35 g32 g10 g58 g61 ki kl kd
  clear c1 c32 c10 c58 c61
  by_cases cm : c ∈ marks1
  · rw [if_pos cm]
    have gm : (0 : Int) ≤ Lib.indexByte [40, 41, 59, 33, 43, 45, 42, 60, 46] s[0] := by
      have := indexByte_mem c marks1
      rw [decide_eq_true cm, decide_eq_true_eq] at this
      rw [h0.out]; exact this
    clear cm hB hcr h0
    rw [show (⟨#[40, 41, 59, 33, 43, 45, 42, 60, 46]⟩ : ByteArray).data.toList = [40, 41, 59, 33, 43, 45, 42, 60, 46] from rfl] at ki
    generalize Lib.indexByte [40, 41, 59, 33, 43, 45, 42, 60, 46] s[0] = ix at ki gm
    go_enter Tryz.func52, Tryz.ntmps52
    go_wp2_with (first | (go_at_call 68; refine ki.out.mono ?_; rintro e w' ⟨rfl, rfl⟩))
    go_ret2
    exact ⟨rfl, rfl⟩
  rw [if_neg cm]
  have gm : Lib.indexByte [40, 41, 59, 33, 43, 45, 42, 60, 46] s[0] < 0 := by
    have := indexByte_mem c marks1
    rw [decide_eq_false cm, decide_eq_false_iff_not] at this
    rw [h0.out]; exact Int.not_le.1 this
  rw [show (⟨#[40, 41, 59, 33, 43, 45, 42, 60, 46]⟩ : ByteArray).data.toList = [40, 41, 59, 33, 43, 45, 42, 60, 46] from rfl] at ki
  generalize Lib.indexByte [40, 41, 59, 33, 43, 45, 42, 60, 46] s[0] = ix at ki gm
  rw [h0.out] at kl kd
  clear cm hB
  cases hl : isLetter c with
  | true =>
    rw [if_pos rfl]
    rw [hl] at kl
    rw [← h0.out] at kl
    clear hcr h0 hl kd
    go_enter Tryz.func52, Tryz.ntmps52
    go_wp2_with (first | (go_at_call 68; refine ki.out.mono ?_; rintro e w' ⟨rfl, rfl⟩) | (go_at_call 69; refine kl.out.mono ?_; rintro e w' ⟨rfl, rfl⟩) | (go_at_call 65; refine ra.out.mono ?_; rintro e w' ⟨rfl, rfl⟩))
    go_ret2
    exact ⟨rfl, rfl⟩
  | false =>
    rw [if_neg (by simp)]
    rw [hl] at kl
    cases hd : isDigit c with
    | true =>
      rw [if_pos rfl]
      rw [hd] at kd
      rw [← h0.out] at kl kd
      clear hcr h0 hl hd
      go_enter Tryz.func52, Tryz.ntmps52
      go_wp2_with (first | (go_at_call 68; refine ki.out.mono ?_; rintro e w' ⟨rfl, rfl⟩) | (go_at_call 69; refine kl.out.mono ?_; rintro e w' ⟨rfl, rfl⟩) | (go_at_call 71; refine kd.out.mono ?_; rintro e w' ⟨rfl, rfl⟩) | (go_at_call 65; refine rd.out.mono ?_; rintro e w' ⟨rfl, rfl⟩))
      go_ret2
      exact ⟨rfl, rfl⟩
    | false =>
      rw [if_neg (by simp)]
      rw [hd] at kd
      rw [← h0.out] at kl kd
      clear hcr h0 hl hd
      go_enter Tryz.func52, Tryz.ntmps52
      go_wp2_with (first | (go_at_call 68; refine ki.out.mono ?_; rintro e w' ⟨rfl, rfl⟩) | (go_at_call 69; refine kl.out.mono ?_; rintro e w' ⟨rfl, rfl⟩) | (go_at_call 71; refine kd.out.mono ?_; rintro e w' ⟨rfl, rfl⟩))
      go_ret2
      exact ⟨rfl, rfl⟩
end Go.Proofs.YthmchdpinobbgaaGreatDoor.X
