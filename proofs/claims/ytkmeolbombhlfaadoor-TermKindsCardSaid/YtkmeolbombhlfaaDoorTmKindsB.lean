/-
  TermKinds's walk, for the kinds 4 to 6. Condition: the tables lie as laid.
-/
import Derived.Test.YtkmeolbombhlfaaDoorTmKindW
namespace Go.Proofs.YtkmeolbombhlfaaDoor
open Go.RowKit Go.Shelf Go.Tm

set_option maxRecDepth 100000 in
set_option maxHeartbeats 4000000 in
theorem kinds_4 (a m : Int) (w : World) (hE : Env w) (ha : 0 ≤ a ∧ a < 256) (hm : 0 ≤ m ∧ m < 256) (hk : a % 13 = 3) :
    Calls Tryd.prog 8 #[.int .u8 a, .int .u8 m] w fun e w' => e = .returned (.bool true) ∧ Below w.heap.size w w' := by
  have hX := Lib.hid (Now.new hE)
  obtain ⟨M, hM, hM1⟩ : ∃ M : Nat, m % 5 = (M : Int) ∧ M < 5 := ⟨(m % 5).toNat, by omega, by omega⟩
  replace hE := Lib.hid hE
  obtain ⟨i0, hi, hi2⟩ := Option.map_eq_some_iff.1 info_term
  obtain ⟨hz0, hz1, hz2⟩ : i0.zero = some (.agg #[.int .i64 0, .string ⟨#[]⟩, .int .i64 0, .slice none 0 0]) ∧ i0.size = 4 ∧ i0.bytes = 56 := by
    injection hi2 with h1 h2; injection h2 with h2 h3; exact ⟨h1, h2, h3⟩
  replace hi := Lib.hid hi
  replace hz0 := Lib.hid hz0
  replace hz1 := Lib.hid hz1
  replace hz2 := Lib.hid hz2
  clear hi2
  go_enter Tryd.func8, Tryd.ntmps8
  go_wp2_with fail
  refine (examples_any _ hX.out.env).mono ?_
  rintro e w1 ⟨rfl, hb9⟩
  replace hX := Lib.hid (hX.out.later hb9)
  clear hb9
  have hlow0 : w.heap.size ≤ w1.heap.size := hX.out.below.size
  have kb : ∀ W nm v, Calls Tryd.prog 26 #[.agg #[.int .i64 4, .string nm, .int .i64 0, v]] W fun e w' => e = .returned (.bool false) ∧ Below W.heap.size W w' := fun W nm v => by
    have h := binder_any 4 0 nm v W
    rw [show binderB 4 = false by decide] at h
    exact h
  replace kb := Lib.hid kb
  go_wp2_with fail
  refine (kb.out _ _ _).mono ?_
  rintro e w2 ⟨rfl, hb9⟩
  have hx0 := (hb9.block w1.heap.size (by simp)).trans (World.alloc_heap_new w1 (.cells #[.int .i64 4, .string ⟨#[]⟩, .int .i64 0, .slice none 0 0] 24))
  replace hX := Lib.hid (hX.out.later ((later_alloc w1 (.cells #[.int .i64 4, .string ⟨#[]⟩, .int .i64 0, .slice none 0 0] 24)).trans (hb9.mono (by simp))))
  have hlo : w.heap.size ≤ w1.heap.size := hlow0
  have hK := Lib.hid (KS.first (k := 4) (nm := ⟨#[]⟩) hX.out hE.out hlo hx0)
  replace hx0 := Lib.hid hx0
  clear hb9
  go_wp2_with fail
  go_loopw [8] (fun i wr => ∃ (j : Nat) (v : Value), j ≤ M ∧ i = .int .i64 j ∧ Hid (KS w wr w1.heap.size 4 ⟨#[]⟩ v j)) (fun i _ => M - (intOf i).toNat)
  case atStart => exact ⟨0, _, Nat.zero_le _, rfl, hK.out⟩
  case round =>
    clear hX hK
    obtain ⟨j, v, hj, rfl, hK⟩ := hrel
    obtain ⟨b, hb⟩ : ∃ b, w1.heap.size = b := ⟨_, rfl⟩
    rw [hb] at hK ⊢
    have p3 := cell_of_row wr b 3 _ _ _ hK.out.box
    have p2 := cell_of_row wr b 2 _ _ _ hK.out.box
    have p1 := cell_of_row wr b 1 _ _ _ hK.out.box
    have p0 := cell_of_row wr b 0 _ _ _ hK.out.box
    have hl := World.lt_of_get hK.out.box
    by_cases hlt : j < M
    · go_wp2_with fail
      go_region_law (first
        | (refine step_append_held rfl (.tmp 39) (.tmp 41) 22 rfl (b + 1) 24 i0 (.agg #[.int .i64 0, .string ⟨#[]⟩, .int .i64 0, .slice none 0 0]) 4 56 Tryd.underlying22 hi.out hz0.out hz1.out hz2.out rfl (by decide) _ _ _ (by simp [Act.eval]) hK10.out.own ⟨w9.heap.size, 0, none⟩ 1 1 leafC (by simp [Act.eval]) rfl (leaf_cells (World.alloc_heap_new w9 _)) leaf_one (by unfold maxLen; omega) (by omega) (World.lt_of_get hK10.out.box) ?_
           intro v'' w10 hown hgrow
           obtain ⟨A9, n9, c9, rfl⟩ := own_slice hown
           have hb10 := hK10.out.boxed hgrow
           have z3 := cell_of_row w10 b 3 _ _ _ hb10
           have zf3 := frozen_of_row hb10 3
           have hl10 := World.lt_of_get hb10
           have hput := Lib.hid (hK10.out.put hgrow hown)
           clear hown hgrow hb10)
        | (go_simp; go_at_call 30; refine (num_any 3 _).mono ?_; rintro e9 w9 ⟨rfl, hb9⟩; have hK9 := Lib.hid (hK.out.later ((Below.refl _ wr).drew.trans hb9)); have hK10 := Lib.hid (hK9.out.later (later_alloc w9 (.cells #[.int .i64 1, .string ⟨#[]⟩, .int .i64 3, .slice none 0 0] 24))); have z0 := cell_of_row w9 b 3 _ _ _ hK9.out.box; have hl9 := World.lt_of_get hK9.out.box; clear hb9))
      all_goals go_wp2_with fail
      all_goals go_roundw
      all_goals first
        | exact ⟨j + 1, _, by omega, by go_num, hput.out⟩
        | (simp [intOf]; omega)
    · obtain rfl : j = M := by omega
      clear hlt hj
      obtain ⟨A, c, rfl, hT⟩ := hK.out.last (by decide)
      replace hT := Lib.hid hT
      have hnb := (by decide +kernel : ∀ j < 5, nodeB (kindT 4 ⟨#[]⟩ j) = (j == 2)) j hM1
      have hrt : rightT (kindT 4 ⟨#[]⟩ j) = (j == 2) := (kind_right _ _ _ (by omega)).trans hnb
      have KR : Hid (∀ W', Below wr.heap.size wr W' → Calls Tryd.prog 19 #[.agg #[.int .i64 4, .string ⟨#[]⟩, .int .i64 0, .slice A j c]] W' fun e w'' => e = .returned (.bool (j == 2)) ∧ Below W'.heap.size W' w'') := fun W' hb => by
        have h := right_any (kindT 4 ⟨#[]⟩ j) A c W' (hK.out.later hb).now.env (by rw [kind_size]; omega) ((hT.out.later hb))
        rw [hrt] at h
        unfold tmV at h
        rw [show (kindT 4 ⟨#[]⟩ j).kids.length = j from List.length_replicate] at h
        exact h
      clear hnb hrt hT
      obtain ⟨r, hr⟩ : ∃ r, (j == 2) = r := ⟨_, rfl⟩
      rw [hr] at KR
      cases r with
      | true =>
        have g1 : j = 2 := by simpa using hr
        have g2 : ((j : Int) == 2) = true := by rw [beq_iff_eq]; omega
        have g3 : decide ((j : Int) = 2) = true := decide_eq_true (by omega)
        replace g1 := Lib.hid g1
        replace hr := Lib.hid hr
        go_wp2_with fail
        refine (KR.out _ (later_alloc _ _)).mono ?_
        rintro e w5 ⟨rfl, hb9⟩
        have hK5 := Lib.hid (hK.out.later ((later_alloc wr _).trans (hb9.mono (by simp))))
        have q0 := cell_of_row w5 b 0 _ _ _ hK5.out.box
        have q1 := cell_of_row w5 b 1 _ _ _ hK5.out.box
        have q2 := cell_of_row w5 b 2 _ _ _ hK5.out.box
        have q3 := cell_of_row w5 b 3 _ _ _ hK5.out.box
        have hl5 := World.lt_of_get hK5.out.box
        clear hb9
        go_wp2_with fail
        refine (kb.out _ _ _).mono ?_
        rintro e w6 ⟨rfl, hb9⟩
        have hfin := Lib.hid (hK5.out.later hb9).now.below
        clear hb9
        go_wp2_with fail
        go_ret
        exact ⟨rfl, hfin.out⟩
      | false =>
        have g1 : ¬ j = 2 := by simpa using hr
        have g2 : ((j : Int) == 2) = false := by rw [beq_eq_false_iff_ne]; omega
        have g3 : decide ((j : Int) = 2) = false := decide_eq_false (by omega)
        replace hr := Lib.hid hr
        go_wp2_with fail
        refine (KR.out _ (later_alloc _ _)).mono ?_
        rintro e w5 ⟨rfl, hb9⟩
        have hK5 := Lib.hid (hK.out.later ((later_alloc wr _).trans (hb9.mono (by simp))))
        have q0 := cell_of_row w5 b 0 _ _ _ hK5.out.box
        have q1 := cell_of_row w5 b 1 _ _ _ hK5.out.box
        have q2 := cell_of_row w5 b 2 _ _ _ hK5.out.box
        have q3 := cell_of_row w5 b 3 _ _ _ hK5.out.box
        have hl5 := World.lt_of_get hK5.out.box
        clear hb9
        go_wp2_with fail
        refine (kb.out _ _ _).mono ?_
        rintro e w6 ⟨rfl, hb9⟩
        have hfin := Lib.hid (hK5.out.later hb9).now.below
        clear hb9
        go_wp2_with fail
        go_ret
        exact ⟨rfl, hfin.out⟩
set_option maxRecDepth 100000 in
set_option maxHeartbeats 4000000 in
theorem kinds_5 (a m : Int) (w : World) (hE : Env w) (ha : 0 ≤ a ∧ a < 256) (hm : 0 ≤ m ∧ m < 256) (hk : a % 13 = 4) :
    Calls Tryd.prog 8 #[.int .u8 a, .int .u8 m] w fun e w' => e = .returned (.bool true) ∧ Below w.heap.size w w' := by
  have hX := Lib.hid (Now.new hE)
  obtain ⟨M, hM, hM1⟩ : ∃ M : Nat, m % 5 = (M : Int) ∧ M < 5 := ⟨(m % 5).toNat, by omega, by omega⟩
  replace hE := Lib.hid hE
  obtain ⟨i0, hi, hi2⟩ := Option.map_eq_some_iff.1 info_term
  obtain ⟨hz0, hz1, hz2⟩ : i0.zero = some (.agg #[.int .i64 0, .string ⟨#[]⟩, .int .i64 0, .slice none 0 0]) ∧ i0.size = 4 ∧ i0.bytes = 56 := by
    injection hi2 with h1 h2; injection h2 with h2 h3; exact ⟨h1, h2, h3⟩
  replace hi := Lib.hid hi
  replace hz0 := Lib.hid hz0
  replace hz1 := Lib.hid hz1
  replace hz2 := Lib.hid hz2
  clear hi2
  go_enter Tryd.func8, Tryd.ntmps8
  go_wp2_with fail
  refine (examples_any _ hX.out.env).mono ?_
  rintro e w1 ⟨rfl, hb9⟩
  replace hX := Lib.hid (hX.out.later hb9)
  clear hb9
  have hlow0 : w.heap.size ≤ w1.heap.size := hX.out.below.size
  have kb : ∀ W nm v, Calls Tryd.prog 26 #[.agg #[.int .i64 5, .string nm, .int .i64 0, v]] W fun e w' => e = .returned (.bool true) ∧ Below W.heap.size W w' := fun W nm v => by
    have h := binder_any 5 0 nm v W
    rw [show binderB 5 = true by decide] at h
    exact h
  replace kb := Lib.hid kb
  go_wp2_with fail
  refine (kb.out _ _ _).mono ?_
  rintro e w2 ⟨rfl, hb9⟩
  have hx0 := (hb9.block w1.heap.size (by simp)).trans (World.alloc_heap_new w1 (.cells #[.int .i64 5, .string ⟨#[]⟩, .int .i64 0, .slice none 0 0] 24))
  replace hX := Lib.hid (hX.out.later ((later_alloc w1 (.cells #[.int .i64 5, .string ⟨#[]⟩, .int .i64 0, .slice none 0 0] 24)).trans (hb9.mono (by simp))))
  have f0 := frozen_of_row hx0 1
  have p1 := cell_of_row w2 w1.heap.size 1 _ _ _ hx0
  have hlb := World.lt_of_get hx0
  have hlo : w.heap.size ≤ w1.heap.size := hlow0
  have hBs : Below w.heap.size w (w2.setCell ⟨w1.heap.size, 1, none⟩ (.string ⟨#[120]⟩)) := hX.out.below.setCell (p := ⟨w1.heap.size, 1, none⟩) hlo _
  have hK := Lib.hid (KS.first (k := 5) (nm := ⟨#[120]⟩) ⟨hBs, hE.out.below hE.out.size hBs⟩ hE.out hlo (heap_setCell_same w2 w1.heap.size 1 _ _ (.string ⟨#[120]⟩) hx0))
  replace hBs := Lib.hid hBs
  replace hx0 := Lib.hid hx0
  clear hb9
  go_wp2_with fail
  go_loopw [8] (fun i wr => ∃ (j : Nat) (v : Value), j ≤ M ∧ i = .int .i64 j ∧ Hid (KS w wr w1.heap.size 5 ⟨#[120]⟩ v j)) (fun i _ => M - (intOf i).toNat)
  case atStart => exact ⟨0, _, Nat.zero_le _, rfl, hK.out⟩
  case round =>
    clear hX hK
    obtain ⟨j, v, hj, rfl, hK⟩ := hrel
    obtain ⟨b, hb⟩ : ∃ b, w1.heap.size = b := ⟨_, rfl⟩
    rw [hb] at hK ⊢
    have p3 := cell_of_row wr b 3 _ _ _ hK.out.box
    have p2 := cell_of_row wr b 2 _ _ _ hK.out.box
    have p1 := cell_of_row wr b 1 _ _ _ hK.out.box
    have p0 := cell_of_row wr b 0 _ _ _ hK.out.box
    have hl := World.lt_of_get hK.out.box
    by_cases hlt : j < M
    · go_wp2_with fail
      go_region_law (first
        | (refine step_append_held rfl (.tmp 39) (.tmp 41) 22 rfl (b + 1) 24 i0 (.agg #[.int .i64 0, .string ⟨#[]⟩, .int .i64 0, .slice none 0 0]) 4 56 Tryd.underlying22 hi.out hz0.out hz1.out hz2.out rfl (by decide) _ _ _ (by simp [Act.eval]) hK10.out.own ⟨w9.heap.size, 0, none⟩ 1 1 leafC (by simp [Act.eval]) rfl (leaf_cells (World.alloc_heap_new w9 _)) leaf_one (by unfold maxLen; omega) (by omega) (World.lt_of_get hK10.out.box) ?_
           intro v'' w10 hown hgrow
           obtain ⟨A9, n9, c9, rfl⟩ := own_slice hown
           have hb10 := hK10.out.boxed hgrow
           have z3 := cell_of_row w10 b 3 _ _ _ hb10
           have zf3 := frozen_of_row hb10 3
           have hl10 := World.lt_of_get hb10
           have hput := Lib.hid (hK10.out.put hgrow hown)
           clear hown hgrow hb10)
        | (go_simp; go_at_call 30; refine (num_any 3 _).mono ?_; rintro e9 w9 ⟨rfl, hb9⟩; have hK9 := Lib.hid (hK.out.later ((Below.refl _ wr).drew.trans hb9)); have hK10 := Lib.hid (hK9.out.later (later_alloc w9 (.cells #[.int .i64 1, .string ⟨#[]⟩, .int .i64 3, .slice none 0 0] 24))); have z0 := cell_of_row w9 b 3 _ _ _ hK9.out.box; have hl9 := World.lt_of_get hK9.out.box; clear hb9))
      all_goals go_wp2_with fail
      all_goals go_roundw
      all_goals first
        | exact ⟨j + 1, _, by omega, by go_num, hput.out⟩
        | (simp [intOf]; omega)
    · obtain rfl : j = M := by omega
      clear hlt hj
      obtain ⟨A, c, rfl, hT⟩ := hK.out.last (by decide)
      replace hT := Lib.hid hT
      have hnb := (by decide +kernel : ∀ j < 5, nodeB (kindT 5 ⟨#[120]⟩ j) = (j == 2)) j hM1
      have hrt : rightT (kindT 5 ⟨#[120]⟩ j) = (j == 2) := (kind_right _ _ _ (by omega)).trans hnb
      have KR : Hid (∀ W', Below wr.heap.size wr W' → Calls Tryd.prog 19 #[.agg #[.int .i64 5, .string ⟨#[120]⟩, .int .i64 0, .slice A j c]] W' fun e w'' => e = .returned (.bool (j == 2)) ∧ Below W'.heap.size W' w'') := fun W' hb => by
        have h := right_any (kindT 5 ⟨#[120]⟩ j) A c W' (hK.out.later hb).now.env (by rw [kind_size]; omega) ((hT.out.later hb))
        rw [hrt] at h
        unfold tmV at h
        rw [show (kindT 5 ⟨#[120]⟩ j).kids.length = j from List.length_replicate] at h
        exact h
      clear hnb hrt hT
      obtain ⟨r, hr⟩ : ∃ r, (j == 2) = r := ⟨_, rfl⟩
      rw [hr] at KR
      cases r with
      | true =>
        have g1 : j = 2 := by simpa using hr
        have g2 : ((j : Int) == 2) = true := by rw [beq_iff_eq]; omega
        have g3 : decide ((j : Int) = 2) = true := decide_eq_true (by omega)
        replace g1 := Lib.hid g1
        replace hr := Lib.hid hr
        go_wp2_with fail
        refine (KR.out _ (later_alloc _ _)).mono ?_
        rintro e w5 ⟨rfl, hb9⟩
        have hK5 := Lib.hid (hK.out.later ((later_alloc wr _).trans (hb9.mono (by simp))))
        have q0 := cell_of_row w5 b 0 _ _ _ hK5.out.box
        have q1 := cell_of_row w5 b 1 _ _ _ hK5.out.box
        have q2 := cell_of_row w5 b 2 _ _ _ hK5.out.box
        have q3 := cell_of_row w5 b 3 _ _ _ hK5.out.box
        have hl5 := World.lt_of_get hK5.out.box
        clear hb9
        go_wp2_with fail
        refine (kb.out _ _ _).mono ?_
        rintro e w6 ⟨rfl, hb9⟩
        have hfin := Lib.hid (hK5.out.later hb9).now.below
        clear hb9
        go_wp2_with fail
        go_ret
        exact ⟨rfl, hfin.out⟩
      | false =>
        have g1 : ¬ j = 2 := by simpa using hr
        have g2 : ((j : Int) == 2) = false := by rw [beq_eq_false_iff_ne]; omega
        have g3 : decide ((j : Int) = 2) = false := decide_eq_false (by omega)
        replace hr := Lib.hid hr
        go_wp2_with fail
        refine (KR.out _ (later_alloc _ _)).mono ?_
        rintro e w5 ⟨rfl, hb9⟩
        have hK5 := Lib.hid (hK.out.later ((later_alloc wr _).trans (hb9.mono (by simp))))
        have q0 := cell_of_row w5 b 0 _ _ _ hK5.out.box
        have q1 := cell_of_row w5 b 1 _ _ _ hK5.out.box
        have q2 := cell_of_row w5 b 2 _ _ _ hK5.out.box
        have q3 := cell_of_row w5 b 3 _ _ _ hK5.out.box
        have hl5 := World.lt_of_get hK5.out.box
        clear hb9
        go_wp2_with fail
        refine (kb.out _ _ _).mono ?_
        rintro e w6 ⟨rfl, hb9⟩
        have hfin := Lib.hid (hK5.out.later hb9).now.below
        clear hb9
        go_wp2_with fail
        go_ret
        exact ⟨rfl, hfin.out⟩
set_option maxRecDepth 100000 in
set_option maxHeartbeats 4000000 in
theorem kinds_6 (a m : Int) (w : World) (hE : Env w) (ha : 0 ≤ a ∧ a < 256) (hm : 0 ≤ m ∧ m < 256) (hk : a % 13 = 5) :
    Calls Tryd.prog 8 #[.int .u8 a, .int .u8 m] w fun e w' => e = .returned (.bool true) ∧ Below w.heap.size w w' := by
  have hX := Lib.hid (Now.new hE)
  obtain ⟨M, hM, hM1⟩ : ∃ M : Nat, m % 5 = (M : Int) ∧ M < 5 := ⟨(m % 5).toNat, by omega, by omega⟩
  replace hE := Lib.hid hE
  obtain ⟨i0, hi, hi2⟩ := Option.map_eq_some_iff.1 info_term
  obtain ⟨hz0, hz1, hz2⟩ : i0.zero = some (.agg #[.int .i64 0, .string ⟨#[]⟩, .int .i64 0, .slice none 0 0]) ∧ i0.size = 4 ∧ i0.bytes = 56 := by
    injection hi2 with h1 h2; injection h2 with h2 h3; exact ⟨h1, h2, h3⟩
  replace hi := Lib.hid hi
  replace hz0 := Lib.hid hz0
  replace hz1 := Lib.hid hz1
  replace hz2 := Lib.hid hz2
  clear hi2
  go_enter Tryd.func8, Tryd.ntmps8
  go_wp2_with fail
  refine (examples_any _ hX.out.env).mono ?_
  rintro e w1 ⟨rfl, hb9⟩
  replace hX := Lib.hid (hX.out.later hb9)
  clear hb9
  have hlow0 : w.heap.size ≤ w1.heap.size := hX.out.below.size
  have kb : ∀ W nm v, Calls Tryd.prog 26 #[.agg #[.int .i64 6, .string nm, .int .i64 0, v]] W fun e w' => e = .returned (.bool false) ∧ Below W.heap.size W w' := fun W nm v => by
    have h := binder_any 6 0 nm v W
    rw [show binderB 6 = false by decide] at h
    exact h
  replace kb := Lib.hid kb
  go_wp2_with fail
  refine (kb.out _ _ _).mono ?_
  rintro e w2 ⟨rfl, hb9⟩
  have hx0 := (hb9.block w1.heap.size (by simp)).trans (World.alloc_heap_new w1 (.cells #[.int .i64 6, .string ⟨#[]⟩, .int .i64 0, .slice none 0 0] 24))
  replace hX := Lib.hid (hX.out.later ((later_alloc w1 (.cells #[.int .i64 6, .string ⟨#[]⟩, .int .i64 0, .slice none 0 0] 24)).trans (hb9.mono (by simp))))
  have hlo : w.heap.size ≤ w1.heap.size := hlow0
  have hK := Lib.hid (KS.first (k := 6) (nm := ⟨#[]⟩) hX.out hE.out hlo hx0)
  replace hx0 := Lib.hid hx0
  clear hb9
  go_wp2_with fail
  go_loopw [8] (fun i wr => ∃ (j : Nat) (v : Value), j ≤ M ∧ i = .int .i64 j ∧ Hid (KS w wr w1.heap.size 6 ⟨#[]⟩ v j)) (fun i _ => M - (intOf i).toNat)
  case atStart => exact ⟨0, _, Nat.zero_le _, rfl, hK.out⟩
  case round =>
    clear hX hK
    obtain ⟨j, v, hj, rfl, hK⟩ := hrel
    obtain ⟨b, hb⟩ : ∃ b, w1.heap.size = b := ⟨_, rfl⟩
    rw [hb] at hK ⊢
    have p3 := cell_of_row wr b 3 _ _ _ hK.out.box
    have p2 := cell_of_row wr b 2 _ _ _ hK.out.box
    have p1 := cell_of_row wr b 1 _ _ _ hK.out.box
    have p0 := cell_of_row wr b 0 _ _ _ hK.out.box
    have hl := World.lt_of_get hK.out.box
    by_cases hlt : j < M
    · go_wp2_with fail
      go_region_law (first
        | (refine step_append_held rfl (.tmp 39) (.tmp 41) 22 rfl (b + 1) 24 i0 (.agg #[.int .i64 0, .string ⟨#[]⟩, .int .i64 0, .slice none 0 0]) 4 56 Tryd.underlying22 hi.out hz0.out hz1.out hz2.out rfl (by decide) _ _ _ (by simp [Act.eval]) hK10.out.own ⟨w9.heap.size, 0, none⟩ 1 1 leafC (by simp [Act.eval]) rfl (leaf_cells (World.alloc_heap_new w9 _)) leaf_one (by unfold maxLen; omega) (by omega) (World.lt_of_get hK10.out.box) ?_
           intro v'' w10 hown hgrow
           obtain ⟨A9, n9, c9, rfl⟩ := own_slice hown
           have hb10 := hK10.out.boxed hgrow
           have z3 := cell_of_row w10 b 3 _ _ _ hb10
           have zf3 := frozen_of_row hb10 3
           have hl10 := World.lt_of_get hb10
           have hput := Lib.hid (hK10.out.put hgrow hown)
           clear hown hgrow hb10)
        | (go_simp; go_at_call 30; refine (num_any 3 _).mono ?_; rintro e9 w9 ⟨rfl, hb9⟩; have hK9 := Lib.hid (hK.out.later ((Below.refl _ wr).drew.trans hb9)); have hK10 := Lib.hid (hK9.out.later (later_alloc w9 (.cells #[.int .i64 1, .string ⟨#[]⟩, .int .i64 3, .slice none 0 0] 24))); have z0 := cell_of_row w9 b 3 _ _ _ hK9.out.box; have hl9 := World.lt_of_get hK9.out.box; clear hb9))
      all_goals go_wp2_with fail
      all_goals go_roundw
      all_goals first
        | exact ⟨j + 1, _, by omega, by go_num, hput.out⟩
        | (simp [intOf]; omega)
    · obtain rfl : j = M := by omega
      clear hlt hj
      obtain ⟨A, c, rfl, hT⟩ := hK.out.last (by decide)
      replace hT := Lib.hid hT
      have hnb := (by decide +kernel : ∀ j < 5, nodeB (kindT 6 ⟨#[]⟩ j) = (j == 3)) j hM1
      have hrt : rightT (kindT 6 ⟨#[]⟩ j) = (j == 3) := (kind_right _ _ _ (by omega)).trans hnb
      have KR : Hid (∀ W', Below wr.heap.size wr W' → Calls Tryd.prog 19 #[.agg #[.int .i64 6, .string ⟨#[]⟩, .int .i64 0, .slice A j c]] W' fun e w'' => e = .returned (.bool (j == 3)) ∧ Below W'.heap.size W' w'') := fun W' hb => by
        have h := right_any (kindT 6 ⟨#[]⟩ j) A c W' (hK.out.later hb).now.env (by rw [kind_size]; omega) ((hT.out.later hb))
        rw [hrt] at h
        unfold tmV at h
        rw [show (kindT 6 ⟨#[]⟩ j).kids.length = j from List.length_replicate] at h
        exact h
      clear hnb hrt hT
      obtain ⟨r, hr⟩ : ∃ r, (j == 3) = r := ⟨_, rfl⟩
      rw [hr] at KR
      cases r with
      | true =>
        have g1 : j = 3 := by simpa using hr
        have g2 : ((j : Int) == 3) = true := by rw [beq_iff_eq]; omega
        have g3 : decide ((j : Int) = 3) = true := decide_eq_true (by omega)
        replace g1 := Lib.hid g1
        replace hr := Lib.hid hr
        go_wp2_with fail
        refine (KR.out _ (later_alloc _ _)).mono ?_
        rintro e w5 ⟨rfl, hb9⟩
        have hK5 := Lib.hid (hK.out.later ((later_alloc wr _).trans (hb9.mono (by simp))))
        have q0 := cell_of_row w5 b 0 _ _ _ hK5.out.box
        have q1 := cell_of_row w5 b 1 _ _ _ hK5.out.box
        have q2 := cell_of_row w5 b 2 _ _ _ hK5.out.box
        have q3 := cell_of_row w5 b 3 _ _ _ hK5.out.box
        have hl5 := World.lt_of_get hK5.out.box
        clear hb9
        go_wp2_with fail
        refine (kb.out _ _ _).mono ?_
        rintro e w6 ⟨rfl, hb9⟩
        have hfin := Lib.hid (hK5.out.later hb9).now.below
        clear hb9
        go_wp2_with fail
        go_ret
        exact ⟨rfl, hfin.out⟩
      | false =>
        have g1 : ¬ j = 3 := by simpa using hr
        have g2 : ((j : Int) == 3) = false := by rw [beq_eq_false_iff_ne]; omega
        have g3 : decide ((j : Int) = 3) = false := decide_eq_false (by omega)
        replace hr := Lib.hid hr
        go_wp2_with fail
        refine (KR.out _ (later_alloc _ _)).mono ?_
        rintro e w5 ⟨rfl, hb9⟩
        have hK5 := Lib.hid (hK.out.later ((later_alloc wr _).trans (hb9.mono (by simp))))
        have q0 := cell_of_row w5 b 0 _ _ _ hK5.out.box
        have q1 := cell_of_row w5 b 1 _ _ _ hK5.out.box
        have q2 := cell_of_row w5 b 2 _ _ _ hK5.out.box
        have q3 := cell_of_row w5 b 3 _ _ _ hK5.out.box
        have hl5 := World.lt_of_get hK5.out.box
        clear hb9
        go_wp2_with fail
        refine (kb.out _ _ _).mono ?_
        rintro e w6 ⟨rfl, hb9⟩
        have hfin := Lib.hid (hK5.out.later hb9).now.below
        clear hb9
        go_wp2_with fail
        go_ret
        exact ⟨rfl, hfin.out⟩
end Go.Proofs.YtkmeolbombhlfaaDoor
