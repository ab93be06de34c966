/-
  The walks of lex.right and lex.Right. Conditions: the variables that are read lie as laid; texts are shorter than 2^47 bytes.
-/
import Derived.Test.YthmchdpinobbgaaGreatDoorLxW3
import Derived.Test.YthmchdpinobbgaaGreatDoorLxW4
namespace Go.Proofs.YthmchdpinobbgaaGreatDoor.X
open Go.RowKit Go.Lx

theorem right_no {t : Tok} (h : ¬ (t.text ≠ [] ∧ (headRun t.text).2 = t.text.length ∧ tokL (headRun t.text).1 t.text = some t)) : rightT t = false := by
  cases hr : rightT t with
  | false => rfl
  | true => exact absurd (right_parts hr) h
theorem optV_some (a : Int) (b : List UInt8) (c : Int) : optV (some ⟨a, b, c⟩) = .tuple #[.agg #[.int .i64 a, .string (strOf b), .int .i64 c], .bool true] := rfl
theorem optV_none : optV none = .tuple #[.agg #[.int .i64 0, .string ⟨#[]⟩, .int .i64 0], .bool false] := rfl
theorem size_data (s : ByteArray) : s.data.toList.length = s.size := by simp

set_option maxRecDepth 100000 in
set_option maxHeartbeats 1000000 in
theorem right_any (k : Int) (s : ByteArray) (n : Int) (w : World) (hE : Env w) (hs : s.size ≤ 140737488355328) :
    Calls Tryz.prog 28 #[.agg #[.int .i64 k, .string s, .int .i64 n]] w fun e w' => e = .returned (.bool (rightT ⟨k, s.data.toList, n⟩)) ∧ Below w.heap.size w w' := by
  have hE1 := Lib.hid (hE.later (later_alloc w (.cells #[.int .i64 k, .string s, .int .i64 n] 45)))
  have hb0 := Lib.hid (later_alloc w (.cells #[.int .i64 k, .string s, .int .i64 n] 45))
  have hx0 := Lib.hid (Box3.new w (.int .i64 k) (.string s) (.int .i64 n))
  by_cases h0 : s.size = 0
  · have hT : Hid (rightT ⟨k, s.data.toList, n⟩ = false) := right_no fun h => h.1 (show s.data.toList = [] from List.length_eq_zero_iff.1 (by rw [size_data]; exact h0))
    have hq : s.toList.isEmpty = true := by
      rw [toList_data, List.length_eq_zero_iff.1 (show s.data.toList.length = 0 by rw [size_data]; exact h0)]; rfl
    clear h0
    have x1 := hx0.out.c1
    go_enter Tryz.func28, Tryz.ntmps28
    go_wp2_with fail
    go_ret
    exact ⟨ret_bool hT.out.symm, hb0.out⟩
  have hne : s.data.toList ≠ [] := fun e => h0 (by rw [← size_data, e]; rfl)
  have hq : s.toList.isEmpty = false := by
    rw [toList_data]; exact List.isEmpty_eq_false_iff.2 hne
  replace hne := Lib.hid hne
  have kb := Lib.hid (begun_any s (w.alloc (.cells #[.int .i64 k, .string s, .int .i64 n] 45)) (by omega) (by omega))
  have x1 := hx0.out.c1
  by_cases h1 : (headRun s.data.toList).2 = s.size
  · have kt := Lib.hid (token_any (headRun s.data.toList).1 s _ hE1.out hs)
    have hT : Hid (rightT ⟨k, s.data.toList, n⟩ = decide (tokL (headRun s.data.toList).1 s.data.toList = some ⟨k, s.data.toList, n⟩)) := by
      show rightT _ = _
      cases hd : decide (tokL (headRun s.data.toList).1 s.data.toList = some ⟨k, s.data.toList, n⟩) with
      | true => exact right_mk hne.out (by show _ = s.data.toList.length; rw [size_data]; exact h1) (of_decide_eq_true hd)
      | false => exact right_no fun h => absurd h.2.2 (of_decide_eq_false hd)
    rw [h1] at kb
    generalize (headRun s.data.toList).1 = hk at kb kt hT
    clear h0 h1
    cases ht : tokL hk s.data.toList with
    | none =>
      rw [ht] at kt hT
      clear ht
      go_enter Tryz.func28, Tryz.ntmps28
      go_wp2_with fail
      refine kb.out.mono ?_
      rintro e w' ⟨rfl, rfl⟩
      go_wp2_with fail
      refine kt.out.mono ?_
      rintro e W1 ⟨rfl, hb⟩
      rw [optV_none]
      go_wp2_with fail
      go_ret
      exact ⟨ret_bool hT.out.symm, (hb0.out.trans (hb.mono hb0.out.size)).alloc (Nat.le_trans hb0.out.size hb.size) _⟩
    | some q =>
      obtain ⟨qk, qt, qn⟩ := q
      have hqt := tokL_text ht
      dsimp only at hqt
      rw [ht] at kt hT
      clear ht
      go_enter Tryz.func28, Tryz.ntmps28
      go_wp2_with fail
      refine kb.out.mono ?_
      rintro e w' ⟨rfl, rfl⟩
      go_wp2_with fail
      refine kt.out.mono ?_
      rintro e W1 ⟨rfl, hb⟩
      replace hx0 := Lib.hid (hx0.out.later hb)
      replace hb0 := Lib.hid (hb0.out.trans (hb.mono hb0.out.size))
      clear hb kb kt
      subst hqt
      rw [optV_some, strOf_data]
      have x0 := hx0.out.c0
      have x1 := hx0.out.c1
      have x2 := hx0.out.c2
      have hl := hx0.out.lt
      have hb9 : Below w.heap.size w (W1.alloc (.cells #[.int .i64 qk, .string s, .int .i64 qn] 45)) := hb0.out.alloc hb0.out.size _
      replace hb9 := Lib.hid hb9
      by_cases g1 : qk = k
      · subst g1
        by_cases g2 : qn = n
        · subst g2
          have hR : Hid (rightT ⟨qk, s.data.toList, qn⟩ = true) := by
            show rightT _ = true
            rw [hT.out]; simp
          go_wp2_with fail
          go_ret
          exact ⟨ret_bool hR.out.symm, hb9.out⟩
        · have hR : Hid (rightT ⟨qk, s.data.toList, n⟩ = false) := by
            show rightT _ = false
            rw [hT.out]; simp [g2]
          have g3 : (qn == n) = false := by simpa using g2
          go_wp2_with fail
          go_ret
          exact ⟨ret_bool hR.out.symm, hb9.out⟩
      · have hR : Hid (rightT ⟨k, s.data.toList, n⟩ = false) := by
          show rightT _ = false
          rw [hT.out]; simp [g1]
        have g3 : (qk == k) = false := by simpa using g1
        go_wp2_with fail
        go_ret
        exact ⟨ret_bool hR.out.symm, hb9.out⟩
  · have hT : Hid (rightT ⟨k, s.data.toList, n⟩ = false) := right_no fun h => h1 (by have h2 : (headRun s.data.toList).2 = s.data.toList.length := h.2.1; rw [size_data] at h2; exact h2)
    have h1' : (((headRun s.data.toList).2 : Int) != (s.size : Int)) = true := by rw [bne_iff_ne]; omega
    generalize (headRun s.data.toList).2 = hn at kb h1'
    clear h0 h1
    go_enter Tryz.func28, Tryz.ntmps28
    go_wp2_with fail
    refine kb.out.mono ?_
    rintro e w' ⟨rfl, rfl⟩
    go_wp2_with fail
    go_ret
    exact ⟨ret_bool hT.out.symm, hb0.out⟩

/-- the tokens behind a slice -/
def Toks (w : World) (B : Nat) (A : Option Addr) (ts : List Tok) : Prop :=
  ts ≠ [] → ∃ b off, A = some ⟨b, off, none⟩ ∧ b < B ∧ ∀ j, j < ts.length → w.cell? ⟨b, off + j * 3, none⟩ = some (.int .i64 (ts.getD j ⟨0, [], 0⟩).kind) ∧ w.cell? ⟨b, off + j * 3 + 1, none⟩ = some (.string (strOf (ts.getD j ⟨0, [], 0⟩).text)) ∧ w.cell? ⟨b, off + j * 3 + 2, none⟩ = some (.int .i64 (ts.getD j ⟨0, [], 0⟩).num)
theorem Toks.later {w w' : World} {A : Option Addr} {ts : List Tok} (h : Toks w w.heap.size A ts) (hb : Below w.heap.size w w') : Toks w' w'.heap.size A ts := fun hn => by
  obtain ⟨b, off, hA, hlt, hc⟩ := h hn
  exact ⟨b, off, hA, Nat.lt_of_lt_of_le hlt hb.size, fun j hj => ⟨(hb.cell (p := ⟨b, off + j * 3, none⟩) hlt).trans (hc j hj).1, (hb.cell (p := ⟨b, off + j * 3 + 1, none⟩) hlt).trans (hc j hj).2.1, (hb.cell (p := ⟨b, off + j * 3 + 2, none⟩) hlt).trans (hc j hj).2.2⟩⟩
theorem Toks.nil (w : World) (B : Nat) (A : Option Addr) : Toks w B A [] := fun h => absurd rfl h
/-- no text is as long as 2^47 bytes -/
def Short (ts : List Tok) : Prop := ∀ j, (ts.getD j ⟨0, [], 0⟩).text.length ≤ 140737488355328
theorem all_none {ts : List Tok} {k : Nat} (hk : k < ts.length) (h : rightT (ts.getD k ⟨0, [], 0⟩) = false) : rightL ts = false := by
  unfold rightL
  rw [List.all_eq_false]
  refine ⟨ts[k], List.getElem_mem hk, ?_⟩
  rw [List.getD_eq_getElem?_getD, List.getElem?_eq_getElem hk] at h
  simpa using h
theorem all_some {ts : List Tok} (h : ∀ j, j < ts.length → rightT (ts.getD j ⟨0, [], 0⟩) = true) : rightL ts = true := by
  unfold rightL
  rw [List.all_eq_true]
  intro t ht
  obtain ⟨j, hj, rfl⟩ := List.getElem_of_mem ht
  have := h j hj
  rwa [List.getD_eq_getElem?_getD, List.getElem?_eq_getElem hj] at this

set_option maxRecDepth 100000 in
set_option maxHeartbeats 1000000 in
theorem rights_any (A : Option Addr) (ts : List Tok) (c : Nat) (w : World) (hE : Env w) (hU : Toks w w.heap.size A ts) (hs : Short ts) (hl : ts.length ≤ 9223372036854775807) :
    Calls Tryz.prog 15 #[.slice A ts.length c] w fun e w' => e = .returned (.bool (rightL ts)) ∧ Below w.heap.size w w' := by
  have hEh := Lib.hid hE
  clear hE
  go_enter Tryz.func15, Tryz.ntmps15
  go_wp2
  go_loopw [7] (fun i wr => ∃ k : Nat, k ≤ ts.length ∧ i = .int .i64 k ∧ Hid (∀ j, j < k → rightT (ts.getD j ⟨0, [], 0⟩) = true) ∧ Hid (Below w.heap.size w wr)) (fun i _ => ts.length - (intOf i).toNat)
  case atStart => exact ⟨0, Nat.zero_le _, rfl, fun j hj => by omega, Below.refl _ _⟩
  case round =>
    obtain ⟨k, hk, rfl, hok, hB⟩ := hrel
    by_cases hlt : k < ts.length
    · obtain ⟨b, off, rfl, hb, hc⟩ := (hU.later hB.out) (by intro e; subst e; simp at hlt)
      obtain ⟨c0, c1, c2⟩ := hc k hlt
      clear hc
      have hsk := hs k
      cases hr : rightT (ts.getD k ⟨0, [], 0⟩) with
      | true =>
        have g3 : Hid (∀ j, j < k + 1 → rightT (ts.getD j ⟨0, [], 0⟩) = true) := fun j hj => by
          by_cases e : j < k
          · exact hok.out j e
          · obtain rfl : j = k := by omega
            exact hr
        generalize ts.getD k ⟨0, [], 0⟩ = q at c0 c1 c2 hr hsk
        obtain ⟨qk, qt, qn⟩ := q
        dsimp only at c0 c1 c2 hsk
        have ha := later_alloc wr (.cells #[.int .i64 qk, .string (strOf qt), .int .i64 qn] 45)
        have kr := right_any qk (strOf qt) qn _ ((hEh.out.later hB.out).later ha) (by rw [size_strOf]; exact hsk)
        rw [data_strOf, hr] at kr
        replace kr := Lib.hid kr
        have hb9 : Hid (Below w.heap.size w (wr.alloc (.cells #[.int .i64 qk, .string (strOf qt), .int .i64 qn] 45))) := hB.out.alloc hB.out.size _
        clear hr hsk ha
        go_wp2_with fail
        refine kr.out.mono ?_
        rintro e w9 ⟨rfl, hb8⟩
        replace hb8 := Lib.hid hb8
        go_wp2_with fail
        go_roundw
        case rel => exact ⟨k + 1, by omega, by go_num, g3, hb9.out.trans (hb8.out.mono hb9.out.size)⟩
        case measure => simp [intOf]; omega
      | false =>
        have g3 : Hid (rightL ts = false) := all_none hlt hr
        generalize ts.getD k ⟨0, [], 0⟩ = q at c0 c1 c2 hr hsk
        obtain ⟨qk, qt, qn⟩ := q
        dsimp only at c0 c1 c2 hsk
        have ha := later_alloc wr (.cells #[.int .i64 qk, .string (strOf qt), .int .i64 qn] 45)
        have kr := right_any qk (strOf qt) qn _ ((hEh.out.later hB.out).later ha) (by rw [size_strOf]; exact hsk)
        rw [data_strOf, hr] at kr
        replace kr := Lib.hid kr
        have hb9 : Hid (Below w.heap.size w (wr.alloc (.cells #[.int .i64 qk, .string (strOf qt), .int .i64 qn] 45))) := hB.out.alloc hB.out.size _
        clear hr hsk ha
        go_wp2_with fail
        refine kr.out.mono ?_
        rintro e w9 ⟨rfl, hb8⟩
        replace hb8 := Lib.hid hb8
        go_wp2_with fail
        go_ret
        exact ⟨ret_bool g3.out.symm, hb9.out.trans (hb8.out.mono hb9.out.size)⟩
    · have g3 : Hid (rightL ts = true) := all_some fun j hj => hok.out j (by omega)
      go_wp2_with fail
      go_ret
      exact ⟨ret_bool g3.out.symm, hB.out⟩
end Go.Proofs.YthmchdpinobbgaaGreatDoor.X
