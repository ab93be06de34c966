/-
  LexRight's walk: true of whatever text. Conditions: the variables that are read lie as laid; the text is shorter than 2^47 bytes.
-/
import Derived.Test.YtkmafbcgdhhenabDoorLxSame
namespace Go.Proofs.YtkmafbcgdhhenabDoor
open Go.RowKit Go.Lx

theorem lexL_lens : ∀ (n : Nat) (s : List UInt8), s.length ≤ n → ∀ l, lexL s = some l → Lib.lens (l.map (·.text)) ≤ s.length ∧ l.length ≤ s.length
  | _, [], _, l, h => by rw [lexL_nil] at h; cases h; exact ⟨Nat.le_refl _, Nat.le_refl _⟩
  | 0, _ :: _, hn, _, _ => by simp at hn
  | n + 1, c :: r, hn, l, h => by
    have hp := headRun_pos (s := c :: r) (by simp)
    have hd : ((c :: r).drop (headRun (c :: r)).2).length = (c :: r).length - (headRun (c :: r)).2 := List.length_drop
    rw [lexL_step (by simp)] at h
    split at h
    · have := lexL_lens n _ (by omega) l h
      omega
    · split at h
      · cases h
      · rename_i t ht
        cases hl : lexL ((c :: r).drop (headRun (c :: r)).2) with
        | none => rw [hl] at h; cases h
        | some l' =>
          rw [hl] at h
          cases h
          have := lexL_lens n _ (by omega) l' hl
          have e : t.text.length = min (headRun (c :: r)).2 (c :: r).length := by rw [tokL_text ht, List.length_take]
          have e2 : Lib.lens ((t :: l').map (·.text)) = t.text.length + Lib.lens (l'.map (·.text)) := by simp [Lib.lens]
          have e3 : (t :: l').length = l'.length + 1 := rfl
          rw [e2, e, e3]
          rw [hd] at this
          have hp2 := hp.2
          have hp1 := hp.1
          generalize (c :: r).length = N at this hp2 ⊢
          generalize (headRun (c :: r)).2 = k at this hp1 hp2 ⊢
          omega
theorem text_le : ∀ (l : List Tok) (j : Nat), (l.getD j ⟨0, [], 0⟩).text.length ≤ Lib.lens (l.map (·.text))
  | [], j => by simp
  | t :: l, 0 => by simp [Lib.lens]
  | t :: l, j + 1 => by
    have := text_le l j
    rw [List.getD_cons_succ]
    simp only [Lib.lens, List.map_cons, List.sum_cons] at this ⊢
    omega
theorem join_len (l : List Tok) : (Lib.join (l.map (·.text)) [32]).length ≤ Lib.lens (l.map (·.text)) + l.length := by
  cases l with
  | nil => exact Nat.le_refl _
  | cons t l =>
    rw [List.map_cons, Lib.join_cons, List.length_append, Lib.joinTail_length]
    simp only [Lib.lens, List.map_cons, List.sum_cons, List.length_cons, List.length_nil, List.length_map]
    omega

set_option maxRecDepth 100000 in
set_option maxHeartbeats 2000000 in
theorem lexRight_any (s : ByteArray) (w : World) (hE : Env w) (hs : s.size ≤ 140737488355328) :
    Calls Tryd.prog 5 #[.string s] w fun e w' => e = .returned (.bool true) ∧ Below w.heap.size w w' := by
  have hX := Lib.hid (Now.new hE)
  clear hE
  go_enter Tryd.func5, Tryd.ntmps5
  go_wp2_with fail
  refine (examples_any _ hX.out.env).mono ?_
  rintro e w1 ⟨rfl, hb⟩
  replace hX := Lib.hid (hX.out.later hb)
  clear hb
  go_wp2_with fail
  by_cases hbig : 65536 < s.size
  · refine (lex_long hX.out.env hbig (by omega)).mono ?_
    rintro e w2 ⟨rfl, hb⟩
    replace hX := Lib.hid (hX.out.later hb)
    have d1 : decide ((65536 : Int) < (s.size : Int)) = true := decide_eq_true (by omega)
    have d2 : decide ((s.size : Int) ≤ 65536) = false := decide_eq_false (by omega)
    clear hb hbig
    go_wp2_with fail
    go_ret
    exact ⟨rfl, hX.out.below⟩
  cases hl : lexL s.data.toList with
  | none =>
    refine (lex_none hX.out.env (by omega) hl).mono ?_
    rintro e w2 ⟨rfl, hb⟩
    replace hX := Lib.hid (hX.out.later hb)
    have d1 : decide ((65536 : Int) < (s.size : Int)) = false := decide_eq_false (by omega)
    have d2 : decide ((s.size : Int) ≤ 65536) = true := decide_eq_true (by omega)
    clear hb hl hbig
    go_wp2_with fail
    go_ret
    exact ⟨rfl, hX.out.below⟩
  | some l =>
    obtain ⟨g1, g2⟩ := lexL_lens _ _ (Nat.le_refl _) l hl
    rw [size_data] at g1 g2
    have hr := lexL_right _ _ (Nat.le_refl _) l hl
    have hp := lexL_print l hr
    have hj := join_len l
    have hsh : Short l := fun j => by have := text_le l j; omega
    refine (lex_some hX.out.env (by omega) hl).mono ?_
    rintro e w2 ⟨A, c, rfl, hb, tA, a1, a2, _⟩
    have hY : Hid (NowT w w2 A l) := ⟨hX.out.later hb, tA⟩
    replace hr := Lib.hid hr
    replace hsh := Lib.hid hsh
    clear hb tA hX hl
    go_wp2_with fail
    refine (print_any A l c w2 hY.out.toks (by omega) (by omega)).mono ?_
    rintro e w3 ⟨rfl, hb⟩
    replace hY := Lib.hid (hY.out.later hb)
    clear hb
    have kp := Lib.hid (fun W hT => print_any A l c W hT (by omega) (by omega))
    generalize Lib.join (l.map (·.text)) [32] = J at hp hj kp ⊢
    have hz1 : (strOf J).data.toList = J := data_strOf J
    have hz2 : (strOf J).size = J.length := size_strOf J
    generalize strOf J = z at hz1 hz2 kp ⊢
    rw [← hz1] at hp
    go_wp2_with fail
    by_cases hb2 : 65536 < z.size
    · refine (lex_long hY.out.now.env hb2 (by omega)).mono ?_
      rintro e w4 ⟨rfl, hb⟩
      replace hY := Lib.hid (hY.out.later hb)
      have kr := rights_any A l c w4 hY.out.now.env hY.out.toks hsh.out (by omega)
      rw [hr.out] at kr
      replace kr := Lib.hid kr
      clear hb hp hz1 hz2 hj hr hsh
      go_wp2_with fail
      refine kr.out.mono ?_
      rintro e w5 ⟨rfl, hb⟩
      replace hY := Lib.hid (hY.out.later hb)
      clear hb
      go_wp2_with fail
      refine (kp.out _ hY.out.toks).mono ?_
      rintro e w6 ⟨rfl, hb⟩
      replace hY := Lib.hid (hY.out.later hb)
      have d1 : decide ((65536 : Int) < (z.size : Int)) = true := decide_eq_true (by omega)
      have d2 : decide ((z.size : Int) ≤ 65536) = false := decide_eq_false (by omega)
      clear hb hb2
      go_wp2_with fail
      go_ret
      exact ⟨rfl, hY.out.now.below⟩
    · refine (lex_some hY.out.now.env (by omega) hp).mono ?_
      rintro e w4 ⟨C, cc, rfl, hb, tC, c1, c2, _⟩
      replace hY := Lib.hid (hY.out.later hb)
      have kr := rights_any A l c w4 hY.out.now.env hY.out.toks hsh.out (by omega)
      rw [hr.out] at kr
      replace kr := Lib.hid kr
      replace tC := Lib.hid tC
      clear hb hp hz1 hz2 hj hr hsh
      go_wp2_with fail
      refine kr.out.mono ?_
      rintro e w5 ⟨rfl, hb⟩
      replace hY := Lib.hid (hY.out.later hb)
      replace tC := Lib.hid (tC.out.later hb)
      clear hb
      go_wp2_with fail
      refine (same_any A C l c cc w5 hY.out.toks tC.out (by omega)).mono ?_
      rintro e w6 ⟨rfl, hb⟩
      replace hY := Lib.hid (hY.out.later hb)
      clear hb
      go_wp2_with fail
      go_ret
      exact ⟨rfl, hY.out.now.below⟩
end Go.Proofs.YtkmafbcgdhhenabDoor
