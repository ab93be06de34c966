/-
  What is printed of a lattice that is right is parsed as it; what is parsed is right, and is printed as it was. Conditions: words of 64 bits.
-/
import Derived.Test.YtieamjpfmjkchaaDoorLtRoundTrip
import Derived.Test.YtieamjpfmjkchaaDoorLtPieces
import Derived.Test.YtieamjpfmjkchaaDoorLtOrder
namespace Go.Proofs.YtieamjpfmjkchaaDoor
open Go.Lt

theorem name_bytes {s : ByteArray} (h : nameB s = true) : (10 : UInt8) ∉ s.data.toList ∧ (32 : UInt8) ∉ s.data.toList := by
  have key : ∀ x ∈ s.data.toList, letterI (x.toNat : Int) = true ∨ digitI (x.toNat : Int) = true := fun x hx => by
    obtain ⟨j, hj, rfl⟩ := List.getElem_of_mem hx
    unfold nameB at h
    rw [Bool.and_eq_true, List.all_eq_true] at h
    have := h.2 j (List.mem_range.2 (by simpa using hj))
    unfold okAt at this
    rw [List.getD_eq_getElem?_getD, List.getElem?_eq_getElem hj, Bool.or_eq_true] at this
    exact this
  refine ⟨fun hm => ?_, fun hm => ?_⟩
  · have := key 10 hm
    revert this
    decide
  · have := key 32 hm
    revert this
    decide
theorem named_mem {ns : List ByteArray} (h : namedB ns = true) : ∀ x ∈ ns, nameB x = true := fun x hx => by
  obtain ⟨j, hj, rfl⟩ := List.getElem_of_mem hx
  have := named_at h hj
  unfold Lt.nm at this
  rwa [List.getD_eq_getElem?_getD, List.getElem?_eq_getElem hj] at this
theorem join_no (c : UInt8) (hc : c ≠ 32) : ∀ l : List (List UInt8), (∀ x ∈ l, c ∉ x) → c ∉ Lib.join l [32]
  | [], _ => by simp [Lib.join]
  | [x], h => by rw [Lib.join_one]; exact h x (by simp)
  | x :: y :: r, h => by
    rw [join_two]
    have h1 := h x (by simp)
    have h2 := join_no c hc (y :: r) (fun z hz => h z (List.mem_cons_of_mem _ hz))
    simp [h1, hc, h2]

theorem head_of {x r : List UInt8} {s : ByteArray} (hs : s.data.toList = x ++ 10 :: r) (hx : (10 : UInt8) ∉ x) : headB s = ⟨x.toArray⟩ ∧ restB s = ⟨r.toArray⟩ := by
  have h := cut_at 10 x r hx
  have e : nl.data.toList = [10] := rfl
  unfold headB restB
  rw [hs, e, h]
  exact ⟨rfl, rfl⟩
theorem toList_inj {a b : ByteArray} (h : a.data.toList = b.data.toList) : a = b := by
  cases a; cases b
  simp only [ByteArray.mk.injEq]
  exact Array.toList_inj.1 h
theorem map_inj : ∀ {l m : List ByteArray}, l.map (·.data.toList) = m.map (·.data.toList) → l = m
  | [], [], _ => rfl
  | [], _ :: _, h => by simp at h
  | _ :: _, [], h => by simp at h
  | a :: l, b :: m, h => by
    simp only [List.map_cons, List.cons.injEq] at h
    rw [toList_inj h.1, map_inj h.2]

theorem parse_print {ns : List ByteArray} {us : List Nat} (h64 : W64 us) (hR : rightB ns us = true) :
    parseErr ⟨(printL ns us).toArray⟩ = 0 ∧ pnames ⟨(printL ns us).toArray⟩ = ns ∧ prows ⟨(printL ns us).toArray⟩ = us := by
  obtain ⟨q1, q2, q3, q4, q5, q6, q7⟩ := right_parts hR
  have hin := within_in h64 (by omega) q5
  have hno : ∀ x ∈ ns.map (·.data.toList), (10 : UInt8) ∉ x ∧ (32 : UInt8) ∉ x := fun x hx => by
    obtain ⟨y, hy, rfl⟩ := List.mem_map.1 hx
    exact name_bytes (named_mem q4 y hy)
  have h10 : (10 : UInt8) ∉ joinL ns := join_no 10 (by decide) _ fun x hx => (hno x hx).1
  have hs : ((⟨(printL ns us).toArray⟩ : ByteArray)).data.toList = joinL ns ++ 10 :: bodyL us ns.length us.length := by
    simp [printL, hdrL]
  obtain ⟨e1, e2⟩ := head_of hs h10
  generalize (⟨(printL ns us).toArray⟩ : ByteArray) = s at e1 e2 hs ⊢
  obtain ⟨n0, nr, rfl⟩ : ∃ n0 nr, ns = n0 :: nr := by
    cases ns with
    | nil => simp at q1
    | cons a b => exact ⟨a, b, rfl⟩
  have hsj := split_join 32 n0.data.toList (nr.map (·.data.toList)) (fun y hy => (hno y (by simpa using hy)).2)
  have hsp : spaces s = nr.length := by
    unfold spaces
    rw [e1]
    have : Lib.countB ⟨(joinL (n0 :: nr)).toArray⟩ sp = Lib.count (joinL (n0 :: nr)) [32] := rfl
    rw [this, Lib.count_one]
    have := hsj.2
    rw [List.length_map] at this
    exact this
  have hpn : pnames s = n0 :: nr := by
    apply map_inj
    unfold pnames
    rw [Lib.splitB_data, hsp, e1]
    have := hsj.1
    rw [List.length_map] at this
    exact this
  have hbody : (restB s).data.toList = bodyL us (n0 :: nr).length (n0 :: nr).length := by rw [e2, ← q3]
  obtain ⟨r1, r2⟩ := read_written q3 (fun a ha => by rw [← q3] at ha ⊢; exact hin a ha) hbody
  rw [List.length_cons] at r1 r2
  have hpr : prows s = us := by
    unfold prows
    rw [hsp]
    exact r2
  refine ⟨?_, hpn, hpr⟩
  unfold parseErr
  rw [hpn, hpr, hsp, q4, q6, q7, r1]
  have : ¬ 63 < nr.length := by rw [List.length_cons] at q2; omega
  simp [this]

theorem err_parts {s : ByteArray} (h : parseErr s = 0) : spaces s ≤ 63 ∧ namedB (pnames s) = true ∧ rowsOk (restB s) (spaces s + 1) = true ∧ ordered (prows s) = true ∧ complete (prows s) = true := by
  unfold parseErr at h
  split at h
  · cases h
  · split at h
    · cases h
    · split at h
      · cases h
      · split at h
        · cases h
        · split at h
          · cases h
          · rename_i h1 h2 h3 h4 h5
            exact ⟨by omega, by simpa using h2, by simpa using h3, by simpa using h4, by simpa using h5⟩
theorem print_parse {s : ByteArray} (h : parseErr s = 0) : rightB (pnames s) (prows s) = true ∧ printL (pnames s) (prows s) = s.data.toList := by
  obtain ⟨h1, h2, h3, h4, h5⟩ := err_parts h
  have hn := pnames_length s
  have hr := prows_length s
  have hw : within (prows s) = true := by
    unfold within
    rw [List.all_eq_true, hr]
    intro r hm
    unfold prows rowsL at hm
    obtain ⟨a, _, rfl⟩ := List.mem_map.1 hm
    have hlt := lineBits_lt (restB s) (a * (spaces s + 1 + 1)) (spaces s + 1)
    have h64 : 2 ^ (spaces s + 1) ≤ 2 ^ 64 := Nat.pow_le_pow_right (by omega) (by omega)
    refine (sub_iff (Nat.lt_of_lt_of_le hlt h64) (all_lt (by omega))).2 fun b hb => ?_
    rw [all_bit]
    simpa using testBit_lt hlt hb
  refine ⟨?_, ?_⟩
  · unfold rightB
    rw [h2, h4, h5, hw, hn, hr, decide_eq_true (show 1 ≤ spaces s + 1 by omega), decide_eq_true (show spaces s + 1 ≤ 64 by omega), decide_eq_true rfl]
    rfl
  · have hb := written_read h3
    by_cases hm : (10 : UInt8) ∈ s.data.toList
    · obtain ⟨x, r, e, hx⟩ := List.eq_append_cons_of_mem hm
      obtain ⟨e1, e2⟩ := head_of e hx
      have hj : joinL (pnames s) = x := by
        unfold joinL pnames
        rw [Lib.splitB_data, e1]
        refine join_split 32 _ _ ?_
        unfold spaces
        rw [e1]
        have : Lib.countB ⟨x.toArray⟩ sp = Lib.count x [32] := rfl
        rw [this, Lib.count_one]
      unfold printL hdrL
      rw [hj, hn, hr]
      unfold prows
      rw [hb, e2, e]
      simp
    · have e2 : restB s = ⟨#[]⟩ := by
        have e : nl.data.toList = [10] := rfl
        unfold restB
        rw [e, cut_none 10 _ hm]
      unfold rowsOk at h3
      rw [e2, Bool.and_eq_true, beq_iff_eq] at h3
      have : (⟨#[]⟩ : ByteArray).size = 0 := rfl
      rw [this, Nat.succ_mul] at h3
      omega
end Go.Proofs.YtieamjpfmjkchaaDoor
