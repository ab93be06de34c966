/-
  A region that draws its order and calls functions that lay blocks: one walk of the text's order serves, where the worlds are those of a kind; has, which reads alone. Conditions: as stated.
-/
import Derived.Test.YtkmeolbombhlfaaDoorTmNames
import Derived.BigQuiet
namespace Go
/-- ONE WALK OF THE TEXT's ORDER, where the worlds are those of a kind: reads, and calls whose answer is the same in each of them. -/
theorem wp_region_quiet_in {S : Type} (f : S → World) {P : Program} {id : Nat} {Q : Exit → Act → World → Prop} {a : Act} {w : World} {l : List Oper} (hm : P.follows .mixedOrders = true) (hB : Region.lexB .any l.toArray = true) (hC : ∃ s, w.drew = f s)
    (h : wpQuiet P l.toArray (fun w' => ∃ s, w' = f s) (fun a' => ∀ w', (∃ s, w' = f s) → Q .normal a' w') l a) : (Code.region id l.toArray true).wp P Q a w :=
  wp_region_quiet (C := fun w' => ∃ s, w' = f s) hm hB hC (by simpa using h)
end Go
namespace Go.Proofs.YtkmeolbombhlfaaDoor
open Go.RowKit Go.Shelf Go.Tm Go.Maps
attribute [local go_sem] Oper.semAt_some

set_option maxRecDepth 100000 in
set_option maxHeartbeats 2000000 in
/-- has reads alone -/
theorem has_same (L : List ByteArray) (s : ByteArray) (r : Bool) (hr : r = true ↔ s ∈ L) (A : Option Addr) (c : Nat) (w : World) (hA : Txs w A L) (hl : L.length ≤ 4294967296) :
    Calls Tryd.prog 29 #[.slice A L.length c, .string s] w fun e w' => e = .returned (.bool r) ∧ w' = w := by
  replace hA := Lib.hid hA
  replace hr := Lib.hid hr
  obtain ⟨n, hn⟩ : ∃ n, L.length = n := ⟨_, rfl⟩
  rw [hn]
  rw [hn] at hl
  replace hn := Lib.hid hn
  go_enter Tryd.func29, Tryd.ntmps29
  go_wp2_with fail
  go_loopw [5] (fun i wr => ∃ k : Nat, k ≤ n ∧ i = .int .i64 k ∧ Hid (s ∉ L.take k) ∧ Hid (wr = w)) (fun i _ => n - (intOf i).toNat)
  case atStart => exact ⟨0, Nat.zero_le _, rfl, by show s ∉ _; simp, rfl⟩
  case round =>
    obtain ⟨k, hk, rfl, hR, hw⟩ := hrel
    have hww := hw.out
    subst hww
    by_cases hlt : k < n
    · obtain ⟨b, off, rfl, hb, hc⟩ := hA.out k (by rw [hn.out]; exact hlt)
      have h9 : Hid (k < L.length) := by show k < L.length; rw [hn.out]; exact hlt
      have hLk : Hid (L.take (k + 1) = L.take k ++ [L.getD k ⟨#[]⟩]) := by
        show _ = _
        rw [List.take_add_one, List.getElem?_eq_getElem h9.out, List.getD_eq_getElem?_getD, List.getElem?_eq_getElem h9.out]; rfl
      have hmem : Hid (L.getD k ⟨#[]⟩ ∈ L) := by
        show _ ∈ _
        rw [List.getD_eq_getElem?_getD, List.getElem?_eq_getElem h9.out]
        exact List.getElem_mem _
      obtain ⟨q1, hq1⟩ : ∃ q, L.getD k ⟨#[]⟩ = q := ⟨_, rfl⟩
      rw [hq1] at hc hLk hmem
      replace hq1 := Lib.hid hq1
      clear hb
      cases hqq : (q1.toList == s.toList) with
      | true =>
        have hqe := bytes_eq.1 hqq
        subst hqe
        have hE : Hid (true = r) := (hr.out.2 hmem.out).symm
        clear hqq
        go_wp2_with fail
        all_goals go_ret
        all_goals exact ⟨ret_bool hE.out, rfl⟩
      | false =>
        have hne : Hid (¬ s = q1) := fun h => by rw [bytes_eq.2 h.symm] at hqq; cases hqq
        have d2 : decide (q1.toList = s.toList) = false := by rw [decide_eq_false_iff_not]; exact fun h => by rw [h, beq_self_eq_true] at hqq; cases hqq
        have n2 : ¬ q1.toList = s.toList := of_decide_eq_false d2
        have hR2 : Hid (s ∉ L.take (k + 1)) := by
          show s ∉ _
          rw [hLk.out, List.mem_append, List.mem_singleton]
          rintro (h | h)
          · exact hR.out h
          · exact hne.out h
        go_wp2_with fail
        all_goals go_roundw
        case rel => exact ⟨k + 1, by omega, by go_num, hR2, by first | exact rfl | exact True.intro⟩
        case measure => simp [intOf]; omega
    · obtain rfl : k = n := by omega
      have hE : Hid (false = r) := by
        show false = r
        cases r with
        | false => rfl
        | true =>
          have h1 := hR.out
          rw [← hn.out, List.take_length] at h1
          exact absurd (hr.out.1 rfl) h1
      go_wp2_with fail
      go_ret
      exact ⟨ret_bool hE.out, rfl⟩
end Go.Proofs.YtkmeolbombhlfaaDoor
