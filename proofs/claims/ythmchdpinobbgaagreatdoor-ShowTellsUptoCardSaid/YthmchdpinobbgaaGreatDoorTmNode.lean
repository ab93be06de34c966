/-
  The walks of operator, Binder, right. Condition: the tables lie as laid; the term can be read.
-/
import Derived.Test.YthmchdpinobbgaaGreatDoorTmWords
namespace Go.Tm
open Go.Lx
def opL : List (List UInt8) := [[43], [45], [42], [60], [61]]
def opB (l : List UInt8) : Bool := opL.any (fun k => k == l)
def wordK (k : Int) : Bool := k == 2 || k == 3 || k == 5 || k == 9
def binderB (k : Int) : Bool := k == 3 || k == 5 || k == 9
end Go.Tm
namespace Go.Proofs.YthmchdpinobbgaaGreatDoor
open Go.RowKit Go.Shelf Go.Tm Go.Lx

def fieldsB (t : Go.Tm.T) : Bool :=
  if t.kind = 1 then t.name.size == 0 && decide (0 ≤ t.num) && decide (t.num ≤ 2147483647)
  else if wordK t.kind = true then t.num == 0 && nameB t.name && !isKey t.name.data.toList
  else if t.kind = 12 then t.num == 0 && opB t.name.data.toList
  else t.num == 0 && t.name.size == 0
def nodeB (t : Go.Tm.T) : Bool := decide (1 ≤ t.kind) && decide (t.kind ≤ 13) && (t.kids.length == kidsTab.getD t.kind.toNat 0) && fieldsB t

theorem empty_iff (s : ByteArray) : (s.toList == ([] : List UInt8)) = (s.size == 0) := by
  rw [ByteArray.toList_eq, Bool.eq_iff_iff, beq_iff_eq, beq_iff_eq]
  constructor
  · intro h; have := congrArg List.length h; simpa using this
  · intro h; exact List.eq_nil_of_length_eq_zero (by simpa using h)

set_option maxRecDepth 100000 in
theorem operator_any (s : ByteArray) (w : World) : Calls Tryz.prog 48 #[.string s] w fun e w' => e = .returned (.bool (opB s.data.toList)) ∧ w = w' := by
  have hd : s.toList = s.data.toList := ByteArray.toList_eq s
  cases h1 : (s.toList == [43]) with
  | true =>
    have hE : Hid (opB s.data.toList = true) := by show _ = _; rw [hd, beq_iff_eq] at h1; rw [h1]; decide
    clear hd
    go_enter Tryz.func48, Tryz.ntmps48
    go_wp2
    go_ret
    exact ⟨ret_bool hE.out.symm, rfl⟩
  | false =>
  cases h2 : (s.toList == [45]) with
  | true =>
    have hE : Hid (opB s.data.toList = true) := by show _ = _; rw [hd, beq_iff_eq] at h2; rw [h2]; decide
    clear hd
    go_enter Tryz.func48, Tryz.ntmps48
    go_wp2
    go_ret
    exact ⟨ret_bool hE.out.symm, rfl⟩
  | false =>
  cases h3 : (s.toList == [42]) with
  | true =>
    have hE : Hid (opB s.data.toList = true) := by show _ = _; rw [hd, beq_iff_eq] at h3; rw [h3]; decide
    clear hd
    go_enter Tryz.func48, Tryz.ntmps48
    go_wp2
    go_ret
    exact ⟨ret_bool hE.out.symm, rfl⟩
  | false =>
  cases h4 : (s.toList == [60]) with
  | true =>
    have hE : Hid (opB s.data.toList = true) := by show _ = _; rw [hd, beq_iff_eq] at h4; rw [h4]; decide
    clear hd
    go_enter Tryz.func48, Tryz.ntmps48
    go_wp2
    go_ret
    exact ⟨ret_bool hE.out.symm, rfl⟩
  | false =>
  cases h5 : (s.toList == [61]) with
  | true =>
    have hE : Hid (opB s.data.toList = true) := by show _ = _; rw [hd, beq_iff_eq] at h5; rw [h5]; decide
    clear hd
    go_enter Tryz.func48, Tryz.ntmps48
    go_wp2
    go_ret
    exact ⟨ret_bool hE.out.symm, rfl⟩
  | false =>
    have hE : Hid (opB s.data.toList = false) := by
      show _ = _
      rw [hd] at h1 h2 h3 h4 h5
      rw [beq_eq_false_iff_ne] at h1 h2 h3 h4 h5
      unfold opB opL
      simp only [List.any_cons, List.any_nil, Bool.or_false, Bool.or_eq_false_iff, beq_eq_false_iff_ne]
      exact ⟨Ne.symm h1, Ne.symm h2, Ne.symm h3, Ne.symm h4, Ne.symm h5⟩
    clear hd
    go_enter Tryz.func48, Tryz.ntmps48
    go_wp2
    go_ret
    exact ⟨ret_bool hE.out.symm, rfl⟩

theorem binder_any (k n : Int) (s : ByteArray) (v : Value) (w : World) : Calls Tryz.prog 30 #[.agg #[.int .i64 k, .string s, .int .i64 n, v]] w fun e w' => e = .returned (.bool (binderB k)) ∧ Below w.heap.size w w' := by
  have hb := Lib.hid (later_alloc w (.cells #[.int .i64 k, .string s, .int .i64 n, v] 24))
  cases h1 : (k == 3) with
  | true =>
    have hE : Hid (binderB k = true) := by show _ = _; unfold binderB; rw [h1]; rfl
    go_enter Tryz.func30, Tryz.ntmps30
    go_wp2
    go_ret
    exact ⟨ret_bool hE.out.symm, hb.out⟩
  | false =>
  cases h2 : (k == 5) with
  | true =>
    have hE : Hid (binderB k = true) := by show _ = _; unfold binderB; rw [h2]; simp
    go_enter Tryz.func30, Tryz.ntmps30
    go_wp2
    go_ret
    exact ⟨ret_bool hE.out.symm, hb.out⟩
  | false =>
  cases h3 : (k == 9) with
  | true =>
    have hE : Hid (binderB k = true) := by show _ = _; unfold binderB; rw [h3]; simp
    go_enter Tryz.func30, Tryz.ntmps30
    go_wp2
    go_ret
    exact ⟨ret_bool hE.out.symm, hb.out⟩
  | false =>
    have hE : Hid (binderB k = false) := by show _ = _; unfold binderB; rw [h1, h2, h3]; rfl
    go_enter Tryz.func30, Tryz.ntmps30
    go_wp2
    go_ret
    exact ⟨ret_bool hE.out.symm, hb.out⟩

set_option maxRecDepth 100000 in
set_option maxHeartbeats 2000000 in
theorem right_low (b o : Nat) (t : Go.Tm.T) (A : Option Addr) (c : Nat) (w : World) (_ : Env w) (hh : Hdr w anyB b o t A c) (_ : t.name.size ≤ 9223372036854775807) (hk : t.kind < 1) :
    Calls Tryz.prog 23 #[.pointer (some ⟨b, o, none⟩)] w fun e w' => e = .returned (.bool (nodeB t)) ∧ Below w.heap.size w w' := by
  have h0 := hh.kind
  have h1 := hh.name
  have h2 := hh.num
  have h3 := hh.kids
  replace hh := Lib.hid hh
  have hE9 : Hid (nodeB t = false) := by
    show _ = _
    unfold nodeB
    rw [decide_eq_false (show ¬ 1 ≤ t.kind by omega)]; rfl
  go_enter Tryz.func23, Tryz.ntmps23
  go_wp2_with fail
  go_quiet (fail)
  all_goals go_wp2
  all_goals go_ret
  all_goals exact ⟨ret_bool hE9.out.symm, belowN (Below.refl _ _) _⟩

set_option maxRecDepth 100000 in
set_option maxHeartbeats 2000000 in
theorem right_high (b o : Nat) (t : Go.Tm.T) (A : Option Addr) (c : Nat) (w : World) (_ : Env w) (hh : Hdr w anyB b o t A c) (_ : t.name.size ≤ 9223372036854775807) (hk : 13 < t.kind) :
    Calls Tryz.prog 23 #[.pointer (some ⟨b, o, none⟩)] w fun e w' => e = .returned (.bool (nodeB t)) ∧ Below w.heap.size w w' := by
  have h0 := hh.kind
  have h1 := hh.name
  have h2 := hh.num
  have h3 := hh.kids
  replace hh := Lib.hid hh
  have hE9 : Hid (nodeB t = false) := by
    show _ = _
    unfold nodeB
    rw [decide_eq_false (show ¬ t.kind ≤ 13 by omega)]; simp
  have hk2 : decide (t.kind < 1) = false := decide_eq_false (by omega)
  have hk3 : decide (13 < t.kind) = true := decide_eq_true hk
  go_enter Tryz.func23, Tryz.ntmps23
  go_wp2_with fail
  go_quiet (fail)
  all_goals go_wp2
  all_goals go_ret
  all_goals exact ⟨ret_bool hE9.out.symm, belowN (Below.refl _ _) _⟩

set_option maxRecDepth 100000 in
set_option maxHeartbeats 2000000 in
theorem right_1 (b o : Nat) (t : Go.Tm.T) (A : Option Addr) (c : Nat) (w : World) (hE : Env w) (hh : Hdr w anyB b o t A c) (_ : t.name.size ≤ 9223372036854775807) (hk : t.kind = 1) :
    Calls Tryz.prog 23 #[.pointer (some ⟨b, o, none⟩)] w fun e w' => e = .returned (.bool (nodeB t)) ∧ Below w.heap.size w w' := by
  have h0 := hh.kind
  have h1 := hh.name
  have h2 := hh.num
  have h3 := hh.kids
  replace hh := Lib.hid hh
  have tb : w.cell? ⟨0, 1, none⟩ = some (.int .i64 0) := hE.tab 1 (by decide)
  rw [hk] at h0
  by_cases hl : t.kids.length = 0
  case neg =>
    have hE9 : Hid (nodeB t = false) := by
      show _ = _
      unfold nodeB
      have : (t.kids.length == kidsTab.getD t.kind.toNat 0) = false := by rw [hk, beq_eq_false_iff_ne]; exact hl
      rw [this]; simp
    have hl2 : ((t.kids.length : Int) != 0) = true := by rw [bne_iff_ne]; omega
    replace hk := Lib.hid hk
    clear hE hl
    go_enter Tryz.func23, Tryz.ntmps23
    go_wp2_with fail
    go_quiet (fail)
    all_goals go_wp2
    all_goals go_ret
    all_goals exact ⟨ret_bool hE9.out.symm, belowN (Below.refl _ _) _⟩
  have hN : nodeB t = fieldsB t := by
    unfold nodeB
    have : (t.kids.length == kidsTab.getD t.kind.toNat 0) = true := by rw [hk, beq_iff_eq]; exact hl
    rw [this, decide_eq_true (show 1 ≤ t.kind by omega), decide_eq_true (show t.kind ≤ 13 by omega)]; simp
  have hl2 : ((t.kids.length : Int) != 0) = false := by rw [Bool.eq_false_iff, Ne, bne_iff_ne]; omega
  clear hl
  have hF : nodeB t = (t.name.size == 0 && decide (0 ≤ t.num) && decide (t.num ≤ 2147483647)) := by
    rw [hN]; unfold fieldsB; rw [if_pos hk]
  rw [← empty_iff] at hF
  clear hE hN
  replace hk := Lib.hid hk
  replace hF := Lib.hid hF
  go_enter Tryz.func23, Tryz.ntmps23
  go_wp2_with fail
  go_quiet (fail)
  cases hs2 : (t.name.toList == []) with
  | false =>
    have hE9 : Hid (nodeB t = false) := by show _ = _; rw [hF.out, hs2]; rfl
    go_wp2
    all_goals go_ret
    all_goals exact ⟨ret_bool hE9.out.symm, belowN (Below.refl _ _) _⟩
  | true =>
    by_cases hn1 : 0 ≤ t.num
    case neg =>
      have hE9 : Hid (nodeB t = false) := by show _ = _; rw [hF.out, hs2, decide_eq_false hn1]; rfl
      go_wp2
      all_goals go_ret
      all_goals exact ⟨ret_bool hE9.out.symm, belowN (Below.refl _ _) _⟩
    by_cases hn2 : t.num ≤ 2147483647
    · have hE9 : Hid (nodeB t = true) := by show _ = _; rw [hF.out, hs2, decide_eq_true hn1, decide_eq_true hn2]; rfl
      go_wp2
      all_goals go_ret
      all_goals exact ⟨ret_bool hE9.out.symm, belowN (Below.refl _ _) _⟩
    · have hE9 : Hid (nodeB t = false) := by show _ = _; rw [hF.out, hs2, decide_eq_true hn1, decide_eq_false hn2]; rfl
      go_wp2
      all_goals go_ret
      all_goals exact ⟨ret_bool hE9.out.symm, belowN (Below.refl _ _) _⟩

set_option maxRecDepth 100000 in
set_option maxHeartbeats 2000000 in
theorem right_2 (b o : Nat) (t : Go.Tm.T) (A : Option Addr) (c : Nat) (w : World) (hE : Env w) (hh : Hdr w anyB b o t A c) (hs : t.name.size ≤ 9223372036854775807) (hk : t.kind = 2) :
    Calls Tryz.prog 23 #[.pointer (some ⟨b, o, none⟩)] w fun e w' => e = .returned (.bool (nodeB t)) ∧ Below w.heap.size w w' := by
  have h0 := hh.kind
  have h1 := hh.name
  have h2 := hh.num
  have h3 := hh.kids
  replace hh := Lib.hid hh
  have tb : w.cell? ⟨0, 2, none⟩ = some (.int .i64 0) := hE.tab 2 (by decide)
  rw [hk] at h0
  by_cases hl : t.kids.length = 0
  case neg =>
    have hE9 : Hid (nodeB t = false) := by
      show _ = _
      unfold nodeB
      have : (t.kids.length == kidsTab.getD t.kind.toNat 0) = false := by rw [hk, beq_eq_false_iff_ne]; exact hl
      rw [this]; simp
    have hl2 : ((t.kids.length : Int) != 0) = true := by rw [bne_iff_ne]; omega
    replace hk := Lib.hid hk
    clear hE hl
    go_enter Tryz.func23, Tryz.ntmps23
    go_wp2_with fail
    go_quiet (fail)
    all_goals go_wp2
    all_goals go_ret
    all_goals exact ⟨ret_bool hE9.out.symm, belowN (Below.refl _ _) _⟩
  have hN : nodeB t = fieldsB t := by
    unfold nodeB
    have : (t.kids.length == kidsTab.getD t.kind.toNat 0) = true := by rw [hk, beq_iff_eq]; exact hl
    rw [this, decide_eq_true (show 1 ≤ t.kind by omega), decide_eq_true (show t.kind ≤ 13 by omega)]; simp
  have hl2 : ((t.kids.length : Int) != 0) = false := by rw [Bool.eq_false_iff, Ne, bne_iff_ne]; omega
  clear hl
  have hF : nodeB t = (t.num == 0 && nameB t.name && !isKey t.name.data.toList) := by
    rw [hN]; unfold fieldsB; rw [if_neg (by omega), hk, if_pos (by decide)]
  have hkey : Hid (∀ n, Calls Tryz.prog 47 #[.string t.name] (w.drewN n) fun e w' => e = .returned (.bool (isKey t.name.data.toList)) ∧ w.drewN n = w') := fun n =>
    keyword_any t.name (w.drewN n) (hE.later (belowN (Below.refl _ _) n))
  clear hE hN
  replace hk := Lib.hid hk
  replace hF := Lib.hid hF
  go_enter Tryz.func23, Tryz.ntmps23
  go_wp2_with fail
  go_quiet (fail)
  cases hn : (t.num == 0) with
  | false =>
    have hE9 : Hid (nodeB t = false) := by show _ = _; rw [hF.out, hn]; rfl
    go_wp2
    all_goals go_ret
    all_goals exact ⟨ret_bool hE9.out.symm, belowN (Below.refl _ _) _⟩
  | true =>
    cases hm : nameB t.name with
    | false =>
      have hE9 : Hid (nodeB t = false) := by show _ = _; rw [hF.out, hm]; simp
      go_wp2_with fail
      refine (name_any t.name _ hs).mono ?_
      rw [hm]
      rintro e w' ⟨rfl, rfl⟩
      replace hm := Lib.hid hm
      go_wp2
      all_goals go_ret
      all_goals exact ⟨ret_bool hE9.out.symm, belowN (Below.refl _ _) _⟩
    | true =>
      have hE9 : Hid (nodeB t = !isKey t.name.data.toList) := by show _ = _; rw [hF.out, hm, hn]; simp
      go_wp2_with fail
      refine (name_any t.name _ hs).mono ?_
      rw [hm]
      rintro e w' ⟨rfl, rfl⟩
      replace hm := Lib.hid hm
      go_wp2_with fail
      refine (hkey.out _).mono ?_
      rintro e w' ⟨rfl, rfl⟩
      go_wp2
      all_goals go_ret
      all_goals exact ⟨ret_bool hE9.out.symm, belowN (Below.refl _ _) _⟩

set_option maxRecDepth 100000 in
set_option maxHeartbeats 2000000 in
theorem right_3 (b o : Nat) (t : Go.Tm.T) (A : Option Addr) (c : Nat) (w : World) (hE : Env w) (hh : Hdr w anyB b o t A c) (hs : t.name.size ≤ 9223372036854775807) (hk : t.kind = 3) :
    Calls Tryz.prog 23 #[.pointer (some ⟨b, o, none⟩)] w fun e w' => e = .returned (.bool (nodeB t)) ∧ Below w.heap.size w w' := by
  have h0 := hh.kind
  have h1 := hh.name
  have h2 := hh.num
  have h3 := hh.kids
  replace hh := Lib.hid hh
  have tb : w.cell? ⟨0, 3, none⟩ = some (.int .i64 1) := hE.tab 3 (by decide)
  rw [hk] at h0
  by_cases hl : t.kids.length = 1
  case neg =>
    have hE9 : Hid (nodeB t = false) := by
      show _ = _
      unfold nodeB
      have : (t.kids.length == kidsTab.getD t.kind.toNat 0) = false := by rw [hk, beq_eq_false_iff_ne]; exact hl
      rw [this]; simp
    have hl2 : ((t.kids.length : Int) != 1) = true := by rw [bne_iff_ne]; omega
    replace hk := Lib.hid hk
    clear hE hl
    go_enter Tryz.func23, Tryz.ntmps23
    go_wp2_with fail
    go_quiet (fail)
    all_goals go_wp2
    all_goals go_ret
    all_goals exact ⟨ret_bool hE9.out.symm, belowN (Below.refl _ _) _⟩
  have hN : nodeB t = fieldsB t := by
    unfold nodeB
    have : (t.kids.length == kidsTab.getD t.kind.toNat 0) = true := by rw [hk, beq_iff_eq]; exact hl
    rw [this, decide_eq_true (show 1 ≤ t.kind by omega), decide_eq_true (show t.kind ≤ 13 by omega)]; simp
  have hl2 : ((t.kids.length : Int) != 1) = false := by rw [Bool.eq_false_iff, Ne, bne_iff_ne]; omega
  clear hl
  have hF : nodeB t = (t.num == 0 && nameB t.name && !isKey t.name.data.toList) := by
    rw [hN]; unfold fieldsB; rw [if_neg (by omega), hk, if_pos (by decide)]
  have hkey : Hid (∀ n, Calls Tryz.prog 47 #[.string t.name] (w.drewN n) fun e w' => e = .returned (.bool (isKey t.name.data.toList)) ∧ w.drewN n = w') := fun n =>
    keyword_any t.name (w.drewN n) (hE.later (belowN (Below.refl _ _) n))
  clear hE hN
  replace hk := Lib.hid hk
  replace hF := Lib.hid hF
  go_enter Tryz.func23, Tryz.ntmps23
  go_wp2_with fail
  go_quiet (fail)
  cases hn : (t.num == 0) with
  | false =>
    have hE9 : Hid (nodeB t = false) := by show _ = _; rw [hF.out, hn]; rfl
    go_wp2
    all_goals go_ret
    all_goals exact ⟨ret_bool hE9.out.symm, belowN (Below.refl _ _) _⟩
  | true =>
    cases hm : nameB t.name with
    | false =>
      have hE9 : Hid (nodeB t = false) := by show _ = _; rw [hF.out, hm]; simp
      go_wp2_with fail
      refine (name_any t.name _ hs).mono ?_
      rw [hm]
      rintro e w' ⟨rfl, rfl⟩
      replace hm := Lib.hid hm
      go_wp2
      all_goals go_ret
      all_goals exact ⟨ret_bool hE9.out.symm, belowN (Below.refl _ _) _⟩
    | true =>
      have hE9 : Hid (nodeB t = !isKey t.name.data.toList) := by show _ = _; rw [hF.out, hm, hn]; simp
      go_wp2_with fail
      refine (name_any t.name _ hs).mono ?_
      rw [hm]
      rintro e w' ⟨rfl, rfl⟩
      replace hm := Lib.hid hm
      go_wp2_with fail
      refine (hkey.out _).mono ?_
      rintro e w' ⟨rfl, rfl⟩
      go_wp2
      all_goals go_ret
      all_goals exact ⟨ret_bool hE9.out.symm, belowN (Below.refl _ _) _⟩

set_option maxRecDepth 100000 in
set_option maxHeartbeats 2000000 in
theorem right_4 (b o : Nat) (t : Go.Tm.T) (A : Option Addr) (c : Nat) (w : World) (hE : Env w) (hh : Hdr w anyB b o t A c) (_ : t.name.size ≤ 9223372036854775807) (hk : t.kind = 4) :
    Calls Tryz.prog 23 #[.pointer (some ⟨b, o, none⟩)] w fun e w' => e = .returned (.bool (nodeB t)) ∧ Below w.heap.size w w' := by
  have h0 := hh.kind
  have h1 := hh.name
  have h2 := hh.num
  have h3 := hh.kids
  replace hh := Lib.hid hh
  have tb : w.cell? ⟨0, 4, none⟩ = some (.int .i64 2) := hE.tab 4 (by decide)
  rw [hk] at h0
  by_cases hl : t.kids.length = 2
  case neg =>
    have hE9 : Hid (nodeB t = false) := by
      show _ = _
      unfold nodeB
      have : (t.kids.length == kidsTab.getD t.kind.toNat 0) = false := by rw [hk, beq_eq_false_iff_ne]; exact hl
      rw [this]; simp
    have hl2 : ((t.kids.length : Int) != 2) = true := by rw [bne_iff_ne]; omega
    replace hk := Lib.hid hk
    clear hE hl
    go_enter Tryz.func23, Tryz.ntmps23
    go_wp2_with fail
    go_quiet (fail)
    all_goals go_wp2
    all_goals go_ret
    all_goals exact ⟨ret_bool hE9.out.symm, belowN (Below.refl _ _) _⟩
  have hN : nodeB t = fieldsB t := by
    unfold nodeB
    have : (t.kids.length == kidsTab.getD t.kind.toNat 0) = true := by rw [hk, beq_iff_eq]; exact hl
    rw [this, decide_eq_true (show 1 ≤ t.kind by omega), decide_eq_true (show t.kind ≤ 13 by omega)]; simp
  have hl2 : ((t.kids.length : Int) != 2) = false := by rw [Bool.eq_false_iff, Ne, bne_iff_ne]; omega
  clear hl
  have hF : nodeB t = (t.num == 0 && t.name.size == 0) := by
    rw [hN]; unfold fieldsB; rw [if_neg (by omega), hk, if_neg (by decide), if_neg (by decide)]
  rw [← empty_iff] at hF
  clear hE hN
  replace hk := Lib.hid hk
  replace hF := Lib.hid hF
  go_enter Tryz.func23, Tryz.ntmps23
  go_wp2_with fail
  go_quiet (fail)
  cases hn : (t.num == 0) with
  | false =>
    have hE9 : Hid (nodeB t = false) := by show _ = _; rw [hF.out, hn]; rfl
    go_wp2
    all_goals go_ret
    all_goals exact ⟨ret_bool hE9.out.symm, belowN (Below.refl _ _) _⟩
  | true =>
    have hE9 : Hid (nodeB t = (t.name.toList == [])) := by show _ = _; rw [hF.out, hn]; simp
    cases hs2 : (t.name.toList == []) with
    | false =>
      rw [hs2] at hE9
      go_wp2
      all_goals go_ret
      all_goals exact ⟨ret_bool hE9.out.symm, belowN (Below.refl _ _) _⟩
    | true =>
      rw [hs2] at hE9
      go_wp2
      all_goals go_ret
      all_goals exact ⟨ret_bool hE9.out.symm, belowN (Below.refl _ _) _⟩

set_option maxRecDepth 100000 in
set_option maxHeartbeats 2000000 in
theorem right_5 (b o : Nat) (t : Go.Tm.T) (A : Option Addr) (c : Nat) (w : World) (hE : Env w) (hh : Hdr w anyB b o t A c) (hs : t.name.size ≤ 9223372036854775807) (hk : t.kind = 5) :
    Calls Tryz.prog 23 #[.pointer (some ⟨b, o, none⟩)] w fun e w' => e = .returned (.bool (nodeB t)) ∧ Below w.heap.size w w' := by
  have h0 := hh.kind
  have h1 := hh.name
  have h2 := hh.num
  have h3 := hh.kids
  replace hh := Lib.hid hh
  have tb : w.cell? ⟨0, 5, none⟩ = some (.int .i64 2) := hE.tab 5 (by decide)
  rw [hk] at h0
  by_cases hl : t.kids.length = 2
  case neg =>
    have hE9 : Hid (nodeB t = false) := by
      show _ = _
      unfold nodeB
      have : (t.kids.length == kidsTab.getD t.kind.toNat 0) = false := by rw [hk, beq_eq_false_iff_ne]; exact hl
      rw [this]; simp
    have hl2 : ((t.kids.length : Int) != 2) = true := by rw [bne_iff_ne]; omega
    replace hk := Lib.hid hk
    clear hE hl
    go_enter Tryz.func23, Tryz.ntmps23
    go_wp2_with fail
    go_quiet (fail)
    all_goals go_wp2
    all_goals go_ret
    all_goals exact ⟨ret_bool hE9.out.symm, belowN (Below.refl _ _) _⟩
  have hN : nodeB t = fieldsB t := by
    unfold nodeB
    have : (t.kids.length == kidsTab.getD t.kind.toNat 0) = true := by rw [hk, beq_iff_eq]; exact hl
    rw [this, decide_eq_true (show 1 ≤ t.kind by omega), decide_eq_true (show t.kind ≤ 13 by omega)]; simp
  have hl2 : ((t.kids.length : Int) != 2) = false := by rw [Bool.eq_false_iff, Ne, bne_iff_ne]; omega
  clear hl
  have hF : nodeB t = (t.num == 0 && nameB t.name && !isKey t.name.data.toList) := by
    rw [hN]; unfold fieldsB; rw [if_neg (by omega), hk, if_pos (by decide)]
  have hkey : Hid (∀ n, Calls Tryz.prog 47 #[.string t.name] (w.drewN n) fun e w' => e = .returned (.bool (isKey t.name.data.toList)) ∧ w.drewN n = w') := fun n =>
    keyword_any t.name (w.drewN n) (hE.later (belowN (Below.refl _ _) n))
  clear hE hN
  replace hk := Lib.hid hk
  replace hF := Lib.hid hF
  go_enter Tryz.func23, Tryz.ntmps23
  go_wp2_with fail
  go_quiet (fail)
  cases hn : (t.num == 0) with
  | false =>
    have hE9 : Hid (nodeB t = false) := by show _ = _; rw [hF.out, hn]; rfl
    go_wp2
    all_goals go_ret
    all_goals exact ⟨ret_bool hE9.out.symm, belowN (Below.refl _ _) _⟩
  | true =>
    cases hm : nameB t.name with
    | false =>
      have hE9 : Hid (nodeB t = false) := by show _ = _; rw [hF.out, hm]; simp
      go_wp2_with fail
      refine (name_any t.name _ hs).mono ?_
      rw [hm]
      rintro e w' ⟨rfl, rfl⟩
      replace hm := Lib.hid hm
      go_wp2
      all_goals go_ret
      all_goals exact ⟨ret_bool hE9.out.symm, belowN (Below.refl _ _) _⟩
    | true =>
      have hE9 : Hid (nodeB t = !isKey t.name.data.toList) := by show _ = _; rw [hF.out, hm, hn]; simp
      go_wp2_with fail
      refine (name_any t.name _ hs).mono ?_
      rw [hm]
      rintro e w' ⟨rfl, rfl⟩
      replace hm := Lib.hid hm
      go_wp2_with fail
      refine (hkey.out _).mono ?_
      rintro e w' ⟨rfl, rfl⟩
      go_wp2
      all_goals go_ret
      all_goals exact ⟨ret_bool hE9.out.symm, belowN (Below.refl _ _) _⟩

set_option maxRecDepth 100000 in
set_option maxHeartbeats 2000000 in
theorem right_6 (b o : Nat) (t : Go.Tm.T) (A : Option Addr) (c : Nat) (w : World) (hE : Env w) (hh : Hdr w anyB b o t A c) (_ : t.name.size ≤ 9223372036854775807) (hk : t.kind = 6) :
    Calls Tryz.prog 23 #[.pointer (some ⟨b, o, none⟩)] w fun e w' => e = .returned (.bool (nodeB t)) ∧ Below w.heap.size w w' := by
  have h0 := hh.kind
  have h1 := hh.name
  have h2 := hh.num
  have h3 := hh.kids
  replace hh := Lib.hid hh
  have tb : w.cell? ⟨0, 6, none⟩ = some (.int .i64 3) := hE.tab 6 (by decide)
  rw [hk] at h0
  by_cases hl : t.kids.length = 3
  case neg =>
    have hE9 : Hid (nodeB t = false) := by
      show _ = _
      unfold nodeB
      have : (t.kids.length == kidsTab.getD t.kind.toNat 0) = false := by rw [hk, beq_eq_false_iff_ne]; exact hl
      rw [this]; simp
    have hl2 : ((t.kids.length : Int) != 3) = true := by rw [bne_iff_ne]; omega
    replace hk := Lib.hid hk
    clear hE hl
    go_enter Tryz.func23, Tryz.ntmps23
    go_wp2_with fail
    go_quiet (fail)
    all_goals go_wp2
    all_goals go_ret
    all_goals exact ⟨ret_bool hE9.out.symm, belowN (Below.refl _ _) _⟩
  have hN : nodeB t = fieldsB t := by
    unfold nodeB
    have : (t.kids.length == kidsTab.getD t.kind.toNat 0) = true := by rw [hk, beq_iff_eq]; exact hl
    rw [this, decide_eq_true (show 1 ≤ t.kind by omega), decide_eq_true (show t.kind ≤ 13 by omega)]; simp
  have hl2 : ((t.kids.length : Int) != 3) = false := by rw [Bool.eq_false_iff, Ne, bne_iff_ne]; omega
  clear hl
  have hF : nodeB t = (t.num == 0 && t.name.size == 0) := by
    rw [hN]; unfold fieldsB; rw [if_neg (by omega), hk, if_neg (by decide), if_neg (by decide)]
  rw [← empty_iff] at hF
  clear hE hN
  replace hk := Lib.hid hk
  replace hF := Lib.hid hF
  go_enter Tryz.func23, Tryz.ntmps23
  go_wp2_with fail
  go_quiet (fail)
  cases hn : (t.num == 0) with
  | false =>
    have hE9 : Hid (nodeB t = false) := by show _ = _; rw [hF.out, hn]; rfl
    go_wp2
    all_goals go_ret
    all_goals exact ⟨ret_bool hE9.out.symm, belowN (Below.refl _ _) _⟩
  | true =>
    have hE9 : Hid (nodeB t = (t.name.toList == [])) := by show _ = _; rw [hF.out, hn]; simp
    cases hs2 : (t.name.toList == []) with
    | false =>
      rw [hs2] at hE9
      go_wp2
      all_goals go_ret
      all_goals exact ⟨ret_bool hE9.out.symm, belowN (Below.refl _ _) _⟩
    | true =>
      rw [hs2] at hE9
      go_wp2
      all_goals go_ret
      all_goals exact ⟨ret_bool hE9.out.symm, belowN (Below.refl _ _) _⟩

set_option maxRecDepth 100000 in
set_option maxHeartbeats 2000000 in
theorem right_7 (b o : Nat) (t : Go.Tm.T) (A : Option Addr) (c : Nat) (w : World) (hE : Env w) (hh : Hdr w anyB b o t A c) (_ : t.name.size ≤ 9223372036854775807) (hk : t.kind = 7) :
    Calls Tryz.prog 23 #[.pointer (some ⟨b, o, none⟩)] w fun e w' => e = .returned (.bool (nodeB t)) ∧ Below w.heap.size w w' := by
  have h0 := hh.kind
  have h1 := hh.name
  have h2 := hh.num
  have h3 := hh.kids
  replace hh := Lib.hid hh
  have tb : w.cell? ⟨0, 7, none⟩ = some (.int .i64 2) := hE.tab 7 (by decide)
  rw [hk] at h0
  by_cases hl : t.kids.length = 2
  case neg =>
    have hE9 : Hid (nodeB t = false) := by
      show _ = _
      unfold nodeB
      have : (t.kids.length == kidsTab.getD t.kind.toNat 0) = false := by rw [hk, beq_eq_false_iff_ne]; exact hl
      rw [this]; simp
    have hl2 : ((t.kids.length : Int) != 2) = true := by rw [bne_iff_ne]; omega
    replace hk := Lib.hid hk
    clear hE hl
    go_enter Tryz.func23, Tryz.ntmps23
    go_wp2_with fail
    go_quiet (fail)
    all_goals go_wp2
    all_goals go_ret
    all_goals exact ⟨ret_bool hE9.out.symm, belowN (Below.refl _ _) _⟩
  have hN : nodeB t = fieldsB t := by
    unfold nodeB
    have : (t.kids.length == kidsTab.getD t.kind.toNat 0) = true := by rw [hk, beq_iff_eq]; exact hl
    rw [this, decide_eq_true (show 1 ≤ t.kind by omega), decide_eq_true (show t.kind ≤ 13 by omega)]; simp
  have hl2 : ((t.kids.length : Int) != 2) = false := by rw [Bool.eq_false_iff, Ne, bne_iff_ne]; omega
  clear hl
  have hF : nodeB t = (t.num == 0 && t.name.size == 0) := by
    rw [hN]; unfold fieldsB; rw [if_neg (by omega), hk, if_neg (by decide), if_neg (by decide)]
  rw [← empty_iff] at hF
  clear hE hN
  replace hk := Lib.hid hk
  replace hF := Lib.hid hF
  go_enter Tryz.func23, Tryz.ntmps23
  go_wp2_with fail
  go_quiet (fail)
  cases hn : (t.num == 0) with
  | false =>
    have hE9 : Hid (nodeB t = false) := by show _ = _; rw [hF.out, hn]; rfl
    go_wp2
    all_goals go_ret
    all_goals exact ⟨ret_bool hE9.out.symm, belowN (Below.refl _ _) _⟩
  | true =>
    have hE9 : Hid (nodeB t = (t.name.toList == [])) := by show _ = _; rw [hF.out, hn]; simp
    cases hs2 : (t.name.toList == []) with
    | false =>
      rw [hs2] at hE9
      go_wp2
      all_goals go_ret
      all_goals exact ⟨ret_bool hE9.out.symm, belowN (Below.refl _ _) _⟩
    | true =>
      rw [hs2] at hE9
      go_wp2
      all_goals go_ret
      all_goals exact ⟨ret_bool hE9.out.symm, belowN (Below.refl _ _) _⟩

set_option maxRecDepth 100000 in
set_option maxHeartbeats 2000000 in
theorem right_8 (b o : Nat) (t : Go.Tm.T) (A : Option Addr) (c : Nat) (w : World) (hE : Env w) (hh : Hdr w anyB b o t A c) (_ : t.name.size ≤ 9223372036854775807) (hk : t.kind = 8) :
    Calls Tryz.prog 23 #[.pointer (some ⟨b, o, none⟩)] w fun e w' => e = .returned (.bool (nodeB t)) ∧ Below w.heap.size w w' := by
  have h0 := hh.kind
  have h1 := hh.name
  have h2 := hh.num
  have h3 := hh.kids
  replace hh := Lib.hid hh
  have tb : w.cell? ⟨0, 8, none⟩ = some (.int .i64 1) := hE.tab 8 (by decide)
  rw [hk] at h0
  by_cases hl : t.kids.length = 1
  case neg =>
    have hE9 : Hid (nodeB t = false) := by
      show _ = _
      unfold nodeB
      have : (t.kids.length == kidsTab.getD t.kind.toNat 0) = false := by rw [hk, beq_eq_false_iff_ne]; exact hl
      rw [this]; simp
    have hl2 : ((t.kids.length : Int) != 1) = true := by rw [bne_iff_ne]; omega
    replace hk := Lib.hid hk
    clear hE hl
    go_enter Tryz.func23, Tryz.ntmps23
    go_wp2_with fail
    go_quiet (fail)
    all_goals go_wp2
    all_goals go_ret
    all_goals exact ⟨ret_bool hE9.out.symm, belowN (Below.refl _ _) _⟩
  have hN : nodeB t = fieldsB t := by
    unfold nodeB
    have : (t.kids.length == kidsTab.getD t.kind.toNat 0) = true := by rw [hk, beq_iff_eq]; exact hl
    rw [this, decide_eq_true (show 1 ≤ t.kind by omega), decide_eq_true (show t.kind ≤ 13 by omega)]; simp
  have hl2 : ((t.kids.length : Int) != 1) = false := by rw [Bool.eq_false_iff, Ne, bne_iff_ne]; omega
  clear hl
  have hF : nodeB t = (t.num == 0 && t.name.size == 0) := by
    rw [hN]; unfold fieldsB; rw [if_neg (by omega), hk, if_neg (by decide), if_neg (by decide)]
  rw [← empty_iff] at hF
  clear hE hN
  replace hk := Lib.hid hk
  replace hF := Lib.hid hF
  go_enter Tryz.func23, Tryz.ntmps23
  go_wp2_with fail
  go_quiet (fail)
  cases hn : (t.num == 0) with
  | false =>
    have hE9 : Hid (nodeB t = false) := by show _ = _; rw [hF.out, hn]; rfl
    go_wp2
    all_goals go_ret
    all_goals exact ⟨ret_bool hE9.out.symm, belowN (Below.refl _ _) _⟩
  | true =>
    have hE9 : Hid (nodeB t = (t.name.toList == [])) := by show _ = _; rw [hF.out, hn]; simp
    cases hs2 : (t.name.toList == []) with
    | false =>
      rw [hs2] at hE9
      go_wp2
      all_goals go_ret
      all_goals exact ⟨ret_bool hE9.out.symm, belowN (Below.refl _ _) _⟩
    | true =>
      rw [hs2] at hE9
      go_wp2
      all_goals go_ret
      all_goals exact ⟨ret_bool hE9.out.symm, belowN (Below.refl _ _) _⟩

set_option maxRecDepth 100000 in
set_option maxHeartbeats 2000000 in
theorem right_9 (b o : Nat) (t : Go.Tm.T) (A : Option Addr) (c : Nat) (w : World) (hE : Env w) (hh : Hdr w anyB b o t A c) (hs : t.name.size ≤ 9223372036854775807) (hk : t.kind = 9) :
    Calls Tryz.prog 23 #[.pointer (some ⟨b, o, none⟩)] w fun e w' => e = .returned (.bool (nodeB t)) ∧ Below w.heap.size w w' := by
  have h0 := hh.kind
  have h1 := hh.name
  have h2 := hh.num
  have h3 := hh.kids
  replace hh := Lib.hid hh
  have tb : w.cell? ⟨0, 9, none⟩ = some (.int .i64 2) := hE.tab 9 (by decide)
  rw [hk] at h0
  by_cases hl : t.kids.length = 2
  case neg =>
    have hE9 : Hid (nodeB t = false) := by
      show _ = _
      unfold nodeB
      have : (t.kids.length == kidsTab.getD t.kind.toNat 0) = false := by rw [hk, beq_eq_false_iff_ne]; exact hl
      rw [this]; simp
    have hl2 : ((t.kids.length : Int) != 2) = true := by rw [bne_iff_ne]; omega
    replace hk := Lib.hid hk
    clear hE hl
    go_enter Tryz.func23, Tryz.ntmps23
    go_wp2_with fail
    go_quiet (fail)
    all_goals go_wp2
    all_goals go_ret
    all_goals exact ⟨ret_bool hE9.out.symm, belowN (Below.refl _ _) _⟩
  have hN : nodeB t = fieldsB t := by
    unfold nodeB
    have : (t.kids.length == kidsTab.getD t.kind.toNat 0) = true := by rw [hk, beq_iff_eq]; exact hl
    rw [this, decide_eq_true (show 1 ≤ t.kind by omega), decide_eq_true (show t.kind ≤ 13 by omega)]; simp
  have hl2 : ((t.kids.length : Int) != 2) = false := by rw [Bool.eq_false_iff, Ne, bne_iff_ne]; omega
  clear hl
  have hF : nodeB t = (t.num == 0 && nameB t.name && !isKey t.name.data.toList) := by
    rw [hN]; unfold fieldsB; rw [if_neg (by omega), hk, if_pos (by decide)]
  have hkey : Hid (∀ n, Calls Tryz.prog 47 #[.string t.name] (w.drewN n) fun e w' => e = .returned (.bool (isKey t.name.data.toList)) ∧ w.drewN n = w') := fun n =>
    keyword_any t.name (w.drewN n) (hE.later (belowN (Below.refl _ _) n))
  clear hE hN
  replace hk := Lib.hid hk
  replace hF := Lib.hid hF
  go_enter Tryz.func23, Tryz.ntmps23
  go_wp2_with fail
  go_quiet (fail)
  cases hn : (t.num == 0) with
  | false =>
    have hE9 : Hid (nodeB t = false) := by show _ = _; rw [hF.out, hn]; rfl
    go_wp2
    all_goals go_ret
    all_goals exact ⟨ret_bool hE9.out.symm, belowN (Below.refl _ _) _⟩
  | true =>
    cases hm : nameB t.name with
    | false =>
      have hE9 : Hid (nodeB t = false) := by show _ = _; rw [hF.out, hm]; simp
      go_wp2_with fail
      refine (name_any t.name _ hs).mono ?_
      rw [hm]
      rintro e w' ⟨rfl, rfl⟩
      replace hm := Lib.hid hm
      go_wp2
      all_goals go_ret
      all_goals exact ⟨ret_bool hE9.out.symm, belowN (Below.refl _ _) _⟩
    | true =>
      have hE9 : Hid (nodeB t = !isKey t.name.data.toList) := by show _ = _; rw [hF.out, hm, hn]; simp
      go_wp2_with fail
      refine (name_any t.name _ hs).mono ?_
      rw [hm]
      rintro e w' ⟨rfl, rfl⟩
      replace hm := Lib.hid hm
      go_wp2_with fail
      refine (hkey.out _).mono ?_
      rintro e w' ⟨rfl, rfl⟩
      go_wp2
      all_goals go_ret
      all_goals exact ⟨ret_bool hE9.out.symm, belowN (Below.refl _ _) _⟩

set_option maxRecDepth 100000 in
set_option maxHeartbeats 2000000 in
theorem right_10 (b o : Nat) (t : Go.Tm.T) (A : Option Addr) (c : Nat) (w : World) (hE : Env w) (hh : Hdr w anyB b o t A c) (_ : t.name.size ≤ 9223372036854775807) (hk : t.kind = 10) :
    Calls Tryz.prog 23 #[.pointer (some ⟨b, o, none⟩)] w fun e w' => e = .returned (.bool (nodeB t)) ∧ Below w.heap.size w w' := by
  have h0 := hh.kind
  have h1 := hh.name
  have h2 := hh.num
  have h3 := hh.kids
  replace hh := Lib.hid hh
  have tb : w.cell? ⟨0, 10, none⟩ = some (.int .i64 1) := hE.tab 10 (by decide)
  rw [hk] at h0
  by_cases hl : t.kids.length = 1
  case neg =>
    have hE9 : Hid (nodeB t = false) := by
      show _ = _
      unfold nodeB
      have : (t.kids.length == kidsTab.getD t.kind.toNat 0) = false := by rw [hk, beq_eq_false_iff_ne]; exact hl
      rw [this]; simp
    have hl2 : ((t.kids.length : Int) != 1) = true := by rw [bne_iff_ne]; omega
    replace hk := Lib.hid hk
    clear hE hl
    go_enter Tryz.func23, Tryz.ntmps23
    go_wp2_with fail
    go_quiet (fail)
    all_goals go_wp2
    all_goals go_ret
    all_goals exact ⟨ret_bool hE9.out.symm, belowN (Below.refl _ _) _⟩
  have hN : nodeB t = fieldsB t := by
    unfold nodeB
    have : (t.kids.length == kidsTab.getD t.kind.toNat 0) = true := by rw [hk, beq_iff_eq]; exact hl
    rw [this, decide_eq_true (show 1 ≤ t.kind by omega), decide_eq_true (show t.kind ≤ 13 by omega)]; simp
  have hl2 : ((t.kids.length : Int) != 1) = false := by rw [Bool.eq_false_iff, Ne, bne_iff_ne]; omega
  clear hl
  have hF : nodeB t = (t.num == 0 && t.name.size == 0) := by
    rw [hN]; unfold fieldsB; rw [if_neg (by omega), hk, if_neg (by decide), if_neg (by decide)]
  rw [← empty_iff] at hF
  clear hE hN
  replace hk := Lib.hid hk
  replace hF := Lib.hid hF
  go_enter Tryz.func23, Tryz.ntmps23
  go_wp2_with fail
  go_quiet (fail)
  cases hn : (t.num == 0) with
  | false =>
    have hE9 : Hid (nodeB t = false) := by show _ = _; rw [hF.out, hn]; rfl
    go_wp2
    all_goals go_ret
    all_goals exact ⟨ret_bool hE9.out.symm, belowN (Below.refl _ _) _⟩
  | true =>
    have hE9 : Hid (nodeB t = (t.name.toList == [])) := by show _ = _; rw [hF.out, hn]; simp
    cases hs2 : (t.name.toList == []) with
    | false =>
      rw [hs2] at hE9
      go_wp2
      all_goals go_ret
      all_goals exact ⟨ret_bool hE9.out.symm, belowN (Below.refl _ _) _⟩
    | true =>
      rw [hs2] at hE9
      go_wp2
      all_goals go_ret
      all_goals exact ⟨ret_bool hE9.out.symm, belowN (Below.refl _ _) _⟩

set_option maxRecDepth 100000 in
set_option maxHeartbeats 2000000 in
theorem right_11 (b o : Nat) (t : Go.Tm.T) (A : Option Addr) (c : Nat) (w : World) (hE : Env w) (hh : Hdr w anyB b o t A c) (_ : t.name.size ≤ 9223372036854775807) (hk : t.kind = 11) :
    Calls Tryz.prog 23 #[.pointer (some ⟨b, o, none⟩)] w fun e w' => e = .returned (.bool (nodeB t)) ∧ Below w.heap.size w w' := by
  have h0 := hh.kind
  have h1 := hh.name
  have h2 := hh.num
  have h3 := hh.kids
  replace hh := Lib.hid hh
  have tb : w.cell? ⟨0, 11, none⟩ = some (.int .i64 2) := hE.tab 11 (by decide)
  rw [hk] at h0
  by_cases hl : t.kids.length = 2
  case neg =>
    have hE9 : Hid (nodeB t = false) := by
      show _ = _
      unfold nodeB
      have : (t.kids.length == kidsTab.getD t.kind.toNat 0) = false := by rw [hk, beq_eq_false_iff_ne]; exact hl
      rw [this]; simp
    have hl2 : ((t.kids.length : Int) != 2) = true := by rw [bne_iff_ne]; omega
    replace hk := Lib.hid hk
    clear hE hl
    go_enter Tryz.func23, Tryz.ntmps23
    go_wp2_with fail
    go_quiet (fail)
    all_goals go_wp2
    all_goals go_ret
    all_goals exact ⟨ret_bool hE9.out.symm, belowN (Below.refl _ _) _⟩
  have hN : nodeB t = fieldsB t := by
    unfold nodeB
    have : (t.kids.length == kidsTab.getD t.kind.toNat 0) = true := by rw [hk, beq_iff_eq]; exact hl
    rw [this, decide_eq_true (show 1 ≤ t.kind by omega), decide_eq_true (show t.kind ≤ 13 by omega)]; simp
  have hl2 : ((t.kids.length : Int) != 2) = false := by rw [Bool.eq_false_iff, Ne, bne_iff_ne]; omega
  clear hl
  have hF : nodeB t = (t.num == 0 && t.name.size == 0) := by
    rw [hN]; unfold fieldsB; rw [if_neg (by omega), hk, if_neg (by decide), if_neg (by decide)]
  rw [← empty_iff] at hF
  clear hE hN
  replace hk := Lib.hid hk
  replace hF := Lib.hid hF
  go_enter Tryz.func23, Tryz.ntmps23
  go_wp2_with fail
  go_quiet (fail)
  cases hn : (t.num == 0) with
  | false =>
    have hE9 : Hid (nodeB t = false) := by show _ = _; rw [hF.out, hn]; rfl
    go_wp2
    all_goals go_ret
    all_goals exact ⟨ret_bool hE9.out.symm, belowN (Below.refl _ _) _⟩
  | true =>
    have hE9 : Hid (nodeB t = (t.name.toList == [])) := by show _ = _; rw [hF.out, hn]; simp
    cases hs2 : (t.name.toList == []) with
    | false =>
      rw [hs2] at hE9
      go_wp2
      all_goals go_ret
      all_goals exact ⟨ret_bool hE9.out.symm, belowN (Below.refl _ _) _⟩
    | true =>
      rw [hs2] at hE9
      go_wp2
      all_goals go_ret
      all_goals exact ⟨ret_bool hE9.out.symm, belowN (Below.refl _ _) _⟩

set_option maxRecDepth 100000 in
set_option maxHeartbeats 2000000 in
theorem right_12 (b o : Nat) (t : Go.Tm.T) (A : Option Addr) (c : Nat) (w : World) (hE : Env w) (hh : Hdr w anyB b o t A c) (_ : t.name.size ≤ 9223372036854775807) (hk : t.kind = 12) :
    Calls Tryz.prog 23 #[.pointer (some ⟨b, o, none⟩)] w fun e w' => e = .returned (.bool (nodeB t)) ∧ Below w.heap.size w w' := by
  have h0 := hh.kind
  have h1 := hh.name
  have h2 := hh.num
  have h3 := hh.kids
  replace hh := Lib.hid hh
  have tb : w.cell? ⟨0, 12, none⟩ = some (.int .i64 2) := hE.tab 12 (by decide)
  rw [hk] at h0
  by_cases hl : t.kids.length = 2
  case neg =>
    have hE9 : Hid (nodeB t = false) := by
      show _ = _
      unfold nodeB
      have : (t.kids.length == kidsTab.getD t.kind.toNat 0) = false := by rw [hk, beq_eq_false_iff_ne]; exact hl
      rw [this]; simp
    have hl2 : ((t.kids.length : Int) != 2) = true := by rw [bne_iff_ne]; omega
    replace hk := Lib.hid hk
    clear hE hl
    go_enter Tryz.func23, Tryz.ntmps23
    go_wp2_with fail
    go_quiet (fail)
    all_goals go_wp2
    all_goals go_ret
    all_goals exact ⟨ret_bool hE9.out.symm, belowN (Below.refl _ _) _⟩
  have hN : nodeB t = fieldsB t := by
    unfold nodeB
    have : (t.kids.length == kidsTab.getD t.kind.toNat 0) = true := by rw [hk, beq_iff_eq]; exact hl
    rw [this, decide_eq_true (show 1 ≤ t.kind by omega), decide_eq_true (show t.kind ≤ 13 by omega)]; simp
  have hl2 : ((t.kids.length : Int) != 2) = false := by rw [Bool.eq_false_iff, Ne, bne_iff_ne]; omega
  clear hl
  have hF : nodeB t = (t.num == 0 && opB t.name.data.toList) := by
    rw [hN]; unfold fieldsB; rw [if_neg (by omega), hk, if_neg (by decide), if_pos rfl]
  clear hE hN
  replace hk := Lib.hid hk
  replace hF := Lib.hid hF
  go_enter Tryz.func23, Tryz.ntmps23
  go_wp2_with fail
  go_quiet (fail)
  cases hn : (t.num == 0) with
  | false =>
    have hE9 : Hid (nodeB t = false) := by show _ = _; rw [hF.out, hn]; rfl
    go_wp2
    all_goals go_ret
    all_goals exact ⟨ret_bool hE9.out.symm, belowN (Below.refl _ _) _⟩
  | true =>
    have hE9 : Hid (nodeB t = opB t.name.data.toList) := by show _ = _; rw [hF.out, hn]; simp
    go_wp2_with fail
    refine (operator_any t.name _).mono ?_
    rintro e w' ⟨rfl, rfl⟩
    go_wp2
    all_goals go_ret
    all_goals exact ⟨ret_bool hE9.out.symm, belowN (Below.refl _ _) _⟩

set_option maxRecDepth 100000 in
set_option maxHeartbeats 2000000 in
theorem right_13 (b o : Nat) (t : Go.Tm.T) (A : Option Addr) (c : Nat) (w : World) (hE : Env w) (hh : Hdr w anyB b o t A c) (_ : t.name.size ≤ 9223372036854775807) (hk : t.kind = 13) :
    Calls Tryz.prog 23 #[.pointer (some ⟨b, o, none⟩)] w fun e w' => e = .returned (.bool (nodeB t)) ∧ Below w.heap.size w w' := by
  have h0 := hh.kind
  have h1 := hh.name
  have h2 := hh.num
  have h3 := hh.kids
  replace hh := Lib.hid hh
  have tb : w.cell? ⟨0, 13, none⟩ = some (.int .i64 2) := hE.tab 13 (by decide)
  rw [hk] at h0
  by_cases hl : t.kids.length = 2
  case neg =>
    have hE9 : Hid (nodeB t = false) := by
      show _ = _
      unfold nodeB
      have : (t.kids.length == kidsTab.getD t.kind.toNat 0) = false := by rw [hk, beq_eq_false_iff_ne]; exact hl
      rw [this]; simp
    have hl2 : ((t.kids.length : Int) != 2) = true := by rw [bne_iff_ne]; omega
    replace hk := Lib.hid hk
    clear hE hl
    go_enter Tryz.func23, Tryz.ntmps23
    go_wp2_with fail
    go_quiet (fail)
    all_goals go_wp2
    all_goals go_ret
    all_goals exact ⟨ret_bool hE9.out.symm, belowN (Below.refl _ _) _⟩
  have hN : nodeB t = fieldsB t := by
    unfold nodeB
    have : (t.kids.length == kidsTab.getD t.kind.toNat 0) = true := by rw [hk, beq_iff_eq]; exact hl
    rw [this, decide_eq_true (show 1 ≤ t.kind by omega), decide_eq_true (show t.kind ≤ 13 by omega)]; simp
  have hl2 : ((t.kids.length : Int) != 2) = false := by rw [Bool.eq_false_iff, Ne, bne_iff_ne]; omega
  clear hl
  have hF : nodeB t = (t.num == 0 && t.name.size == 0) := by
    rw [hN]; unfold fieldsB; rw [if_neg (by omega), hk, if_neg (by decide), if_neg (by decide)]
  rw [← empty_iff] at hF
  clear hE hN
  replace hk := Lib.hid hk
  replace hF := Lib.hid hF
  go_enter Tryz.func23, Tryz.ntmps23
  go_wp2_with fail
  go_quiet (fail)
  cases hn : (t.num == 0) with
  | false =>
    have hE9 : Hid (nodeB t = false) := by show _ = _; rw [hF.out, hn]; rfl
    go_wp2
    all_goals go_ret
    all_goals exact ⟨ret_bool hE9.out.symm, belowN (Below.refl _ _) _⟩
  | true =>
    have hE9 : Hid (nodeB t = (t.name.toList == [])) := by show _ = _; rw [hF.out, hn]; simp
    cases hs2 : (t.name.toList == []) with
    | false =>
      rw [hs2] at hE9
      go_wp2
      all_goals go_ret
      all_goals exact ⟨ret_bool hE9.out.symm, belowN (Below.refl _ _) _⟩
    | true =>
      rw [hs2] at hE9
      go_wp2
      all_goals go_ret
      all_goals exact ⟨ret_bool hE9.out.symm, belowN (Below.refl _ _) _⟩

theorem right1_any (b o : Nat) (t : Go.Tm.T) (w : World) (hE : Env w) (hx : NodeAt w anyB b o t) :
    Calls Tryz.prog 23 #[.pointer (some ⟨b, o, none⟩)] w fun e w' => e = .returned (.bool (nodeB t)) ∧ Below w.heap.size w w' := by
  obtain ⟨A, c, hh⟩ := hx.hdr
  by_cases h1 : t.kind < 1
  · exact right_low b o t A c w hE hh hh.nsz h1
  by_cases h2 : 13 < t.kind
  · exact right_high b o t A c w hE hh hh.nsz h2
  obtain h | h | h | h | h | h | h | h | h | h | h | h | h : t.kind = 1 ∨ t.kind = 2 ∨ t.kind = 3 ∨ t.kind = 4 ∨ t.kind = 5 ∨ t.kind = 6 ∨ t.kind = 7 ∨ t.kind = 8 ∨ t.kind = 9 ∨ t.kind = 10 ∨ t.kind = 11 ∨ t.kind = 12 ∨ t.kind = 13 := by omega
  · exact right_1 b o t A c w hE hh hh.nsz h
  · exact right_2 b o t A c w hE hh hh.nsz h
  · exact right_3 b o t A c w hE hh hh.nsz h
  · exact right_4 b o t A c w hE hh hh.nsz h
  · exact right_5 b o t A c w hE hh hh.nsz h
  · exact right_6 b o t A c w hE hh hh.nsz h
  · exact right_7 b o t A c w hE hh hh.nsz h
  · exact right_8 b o t A c w hE hh hh.nsz h
  · exact right_9 b o t A c w hE hh hh.nsz h
  · exact right_10 b o t A c w hE hh hh.nsz h
  · exact right_11 b o t A c w hE hh hh.nsz h
  · exact right_12 b o t A c w hE hh hh.nsz h
  · exact right_13 b o t A c w hE hh hh.nsz h
end Go.Proofs.YthmchdpinobbgaaGreatDoor
