/-
  A lattice upside down is right, too; its joins are the meets. Conditions: words of 64 bits.
-/
import Derived.Test.YtkmafbcgdhhenaaDoorLtOrder
namespace Go.Proofs.YtkmafbcgdhhenaaDoor
open Go.Lt

theorem right_of {ns : List ByteArray} {us : List Nat} (h1 : 1 ≤ ns.length) (hl : us.length = ns.length) (hn : namedB ns = true) (h : IsLat us) : rightB ns us = true := by
  have hO := h.ord
  have h64 := hO.l64
  have w1 : within us = true := by
    unfold within
    rw [List.all_eq_true]
    intro r hr
    obtain ⟨a, ha, rfl⟩ := List.getElem_of_mem hr
    have e : us[a] = row us a := by
      unfold row
      rw [List.getD_eq_getElem?_getD, List.getElem?_eq_getElem ha]
      rfl
    rw [e]
    refine (sub_iff (hO.w64 a) (all_lt h64)).2 fun b hb => ?_
    rw [all_bit]
    simpa using (hO.inn a b hb).2
  have w2 : ordered us = true := by
    unfold ordered
    rw [List.all_eq_true]
    intro a ha
    have ha := List.mem_range.1 ha
    unfold ordRow
    rw [Bool.and_eq_true, List.all_eq_true]
    refine ⟨hO.refl a ha, fun b hb => ?_⟩
    have hb := (mem_places (hO.w64 a)).1 hb
    unfold ordPlace
    rw [Bool.and_eq_true]
    refine ⟨(sub_iff (hO.w64 b) (hO.w64 a)).2 fun c hc => hO.trans a b c hb hc, ?_⟩
    cases hc : (row us b).testBit a with
    | false => simp
    | true =>
      have := hO.anti a b hb hc
      subst this
      simp
  have w3 : complete us = true := by
    unfold complete
    rw [Bool.and_eq_true, List.all_eq_true, decide_eq_true_eq]
    refine ⟨fun a ha => ?_, ?_⟩
    · have ha := List.mem_range.1 ha
      unfold compRow
      rw [List.all_eq_true]
      intro b hb
      have hb := List.mem_range.1 hb
      obtain ⟨j, hj⟩ := h.joins a b ha (by omega)
      unfold compTo
      rw [decide_eq_true_eq, least_of hO (and_small hO.w64 a b) (least_join.2 hj)]
      omega
    · obtain ⟨z, hz⟩ := h.bottom
      rw [least_of hO (all_lt h64) ⟨by rw [all_bit]; simpa using le_left (hz 0 (by omega)), fun b hb => hz b (by rw [all_bit] at hb; simpa using hb)⟩]
      omega
  unfold rightB
  rw [hn, w1, w2, w3, decide_eq_true h1, decide_eq_true (show ns.length ≤ 64 by omega), decide_eq_true hl]
  rfl
theorem right_turned {ns : List ByteArray} {us : List Nat} (h64 : W64 us) (hR : rightB ns us = true) : rightB ns (turnedL us) = true := by
  obtain ⟨q1, q2, q3, q4, q5, q6, q7⟩ := right_parts hR
  exact right_of q1 (by rw [turnedL_length]; exact q3) q4 ((isLat_of h64 (by omega) q5 q6 q7).turned (by omega))
/-- turned twice it is what it was -/
theorem turned_twice {us : List Nat} (h : IsLat us) : turnedL (turnedL us) = us := by
  apply List.ext_getElem (by simp [turnedL_length])
  intro a h1 h2
  have e1 : (turnedL (turnedL us))[a] = row (turnedL (turnedL us)) a := by
    unfold row
    rw [List.getD_eq_getElem?_getD, List.getElem?_eq_getElem h1]
    rfl
  have e2 : us[a] = row us a := by
    unfold row
    rw [List.getD_eq_getElem?_getD, List.getElem?_eq_getElem h2]
    rfl
  rw [e1, e2]
  apply Nat.eq_of_testBit_eq
  intro b
  have hT := h.turned (by omega)
  have k1 := le_turned (turnedL us) a b hT.ord.inn
  have k2 := le_turned us b a h.ord.inn
  exact k1.trans k2
end Go.Proofs.YtkmafbcgdhhenaaDoor
