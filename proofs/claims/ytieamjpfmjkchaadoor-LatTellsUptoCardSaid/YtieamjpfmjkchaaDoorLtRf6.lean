/-
  The walk of the reference's Print. Condition: the lattice can be read.
-/
import Derived.Test.YtieamjpfmjkchaaDoorLtRf5
namespace Go.Proofs.YtieamjpfmjkchaaDoor
open Go.RowKit Go.Shelf Go.Lt

def sOf (l : List UInt8) : ByteArray := ⟨l.toArray⟩
theorem data_sOf (l : List UInt8) : (sOf l).data.toList = l := by simp [sOf]
theorem sOf_data (s : ByteArray) : sOf s.data.toList = s := toList_inj (data_sOf _)
theorem size_sOf (l : List UInt8) : (sOf l).size = l.length := by
  show l.toArray.size = _
  simp
theorem sOf_app (a b : List UInt8) : sOf a ++ sOf b = sOf (a ++ b) := toList_inj (by
  rw [ByteArray.data_append, Array.toList_append, data_sOf, data_sOf, data_sOf])

def joinK (ns : List ByteArray) (k : Nat) : List UInt8 := Lib.join ((ns.take k).map (·.data.toList)) [32]
theorem joinK_succ (ns : List ByteArray) (k : Nat) (hk : k < ns.length) : joinK ns (k + 1) = (if 0 < k then joinK ns k ++ [32] else joinK ns k) ++ (Lt.nm ns k).data.toList := by
  unfold joinK Lt.nm
  rw [List.take_succ_eq_append_getElem hk, List.map_append, List.getD_eq_getElem?_getD, List.getElem?_eq_getElem hk]
  cases hq : (ns.take k).map (·.data.toList) with
  | nil =>
    have : ns.take k = [] := by simpa using hq
    have h0 : k = 0 := by
      have h9 := congrArg List.length this
      rw [List.length_take, List.length_nil] at h9
      omega
    subst h0
    rw [if_neg (by omega)]
    simp [Lib.join_one, Lib.join_nil]
  | cons x r =>
    have h0 : 0 < k := by
      rcases Nat.eq_zero_or_pos k with h | h
      · subst h; simp at hq
      · exact h
    rw [if_pos h0, List.cons_append, Lib.join_cons, Lib.join_cons]
    simp [Lib.joinTail]
theorem joinK_len {ns : List ByteArray} (h : namedB ns = true) (k : Nat) (hk : k ≤ 64) : (joinK ns k).length ≤ 1088 := by
  unfold joinK
  have := join_length ((ns.take k).map (·.data.toList)) (fun x hx => by
    obtain ⟨s, hs, rfl⟩ := List.mem_map.1 hx
    have h1 := named_mem h s (List.mem_of_mem_take hs)
    have h2 := (nameB_size h1).2
    simpa using h2)
  rw [List.length_map, List.length_take] at this
  omega
theorem joinK_all (ns : List ByteArray) : joinK ns ns.length = joinL ns := by
  unfold joinK joinL; rw [List.take_length]
/-- the text within a line -/
def txtQ (ns : List ByteArray) (us : List Nat) (k q : Nat) : List UInt8 := txt ns us k ++ (List.range q).map (bitSign us k)
theorem txtQ_zero (ns : List ByteArray) (us : List Nat) (k : Nat) : txtQ ns us k 0 = txt ns us k := by simp [txtQ]
theorem txtQ_succ (ns : List ByteArray) (us : List Nat) (k q : Nat) : txtQ ns us k (q + 1) = txtQ ns us k q ++ [bitSign us k q] := by
  unfold txtQ
  rw [List.range_succ, List.map_append, ← List.append_assoc]; rfl
theorem txtQ_all (ns : List ByteArray) (us : List Nat) (k : Nat) : txtQ ns us k ns.length ++ [10] = txt ns us (k + 1) := by
  rw [txt_succ]
  unfold txtQ lineL
  simp
theorem txtQ_len {ns : List ByteArray} {us : List Nat} (h : namedB ns = true) (hl : ns.length ≤ 64) (k q : Nat) (hk : k ≤ 64) (hq : q ≤ 64) : (txtQ ns us k q).length ≤ 10000 := by
  have h1 := hdr_length h hl
  unfold txtQ txt
  rw [List.length_append, List.length_append, bodyL_length, List.length_map, List.length_range]
  have h2 : k * (ns.length + 1) ≤ 64 * 65 := Nat.mul_le_mul hk (by omega)
  omega

set_option maxRecDepth 100000 in
set_option maxHeartbeats 2000000 in
theorem refprint_any (A B : Option Addr) (ns : List ByteArray) (us : List Nat) (c d : Nat) (w : World) (hE : Env w) (hL : LatAt w A B c ns us) (hR : rightB ns us = true) :
    Calls Tryd.prog 32 #[.agg #[.slice A ns.length c, .slice B us.length d]] w fun e w' => e = .returned (.string ⟨(printL ns us).toArray⟩) ∧ Below w.heap.size w w' := by
  have hX := Lib.hid (At.newT 27 (d := d) hE hL)
  have h64 := Lib.hid hL.w64
  have hsm := Lib.hid hL.smax
  clear hE hL
  obtain ⟨z1, z2, z3, z4, -, -, -⟩ := right_parts hR
  have hq : Hid (ns.length = us.length) := z3.symm
  have hl : us.length ≤ 64 := by omega
  have hpos : 0 < us.length := by omega
  replace hR := Lib.hid hR
  replace z4 := Lib.hid z4
  clear z3
  go_enter Tryd.func32, Tryd.ntmps32
  go_wp2_with fail
  refine (rf_right hX.out hR.out).mono ?_
  rintro e w1 ⟨rfl, hY⟩
  clear hX
  go_wp2_with fail
  go_loopw [3, 4] (fun v i wr => ∃ k : Nat, k ≤ ns.length ∧ i = .int .i64 k ∧ v = .string (sOf (joinK ns k)) ∧ Hid (At w wr w.heap.size A B c d ns us)) (fun _ i _ => ns.length - (intOf i).toNat)
  case atStart => exact ⟨0, Nat.zero_le _, rfl, rfl, hY⟩
  case round =>
    clear hY
    obtain ⟨k, hk, rfl, rfl, hY⟩ := hrel
    obtain ⟨wo, rfl⟩ : ∃ wo : World, wo = wr := ⟨_, rfl⟩
    have q1 := hY.out.box.1
    have q2 := hY.out.box.2.1
    by_cases hlt : k < ns.length
    · obtain ⟨b, off, rfl, hb, hc⟩ := hY.out.lat.names (by intro e; subst e; simp at hlt)
      have hck := hc k hlt
      clear hc
      have hs1 : (sOf (joinK ns k)).size ≤ 10000 := by rw [size_sOf]; have := joinK_len z4.out k (by omega); omega
      have hst := joinK_succ ns k hlt
      have hs2 : (Lt.nm ns k).size ≤ 10000 := by
        have := (nameB_size (named_at z4.out hlt)).2
        omega
      have hqq : (sOf (if 0 < k then joinK ns k ++ [32] else joinK ns k)) ++ Lt.nm ns k = sOf (joinK ns (k + 1)) := by rw [hst, ← sOf_app, sOf_data]
      clear hst
      by_cases h0 : 0 < k
      · rw [if_pos h0, ← sOf_app] at hqq
        replace hqq := Lib.hid (show sOf (joinK ns k) ++ ⟨#[32]⟩ ++ Lt.nm ns k = sOf (joinK ns (k + 1)) from hqq)
        generalize hT0 : Lt.nm ns k = T0 at hck hs2 hqq
        generalize hP0 : sOf (joinK ns k) = P0 at hs1 hqq ⊢
        replace hT0 := Lib.hid hT0
        replace hP0 := Lib.hid hP0
        go_wp2_with fail
        go_roundw
        case rel => exact ⟨k + 1, by omega, by go_num, by rw [← hqq.out], hY⟩
        case measure => simp [intOf]; omega
      · rw [if_neg h0] at hqq
        replace hqq := Lib.hid hqq
        generalize hT0 : Lt.nm ns k = T0 at hck hs2 hqq
        generalize hP0 : sOf (joinK ns k) = P0 at hs1 hqq ⊢
        replace hT0 := Lib.hid hT0
        replace hP0 := Lib.hid hP0
        go_wp2_with fail
        go_roundw
        case rel => exact ⟨k + 1, by omega, by go_num, by rw [← hqq.out], hY⟩
        case measure => simp [intOf]; omega
    · obtain rfl : k = ns.length := by omega
      have hs1 : (sOf (joinK ns ns.length)).size ≤ 10000 := by rw [size_sOf]; have := joinK_len z4.out ns.length (by omega); omega
      have hqq : Hid (sOf (joinK ns ns.length) ++ ⟨#[10]⟩ = sOf (txt ns us 0)) := by
        show sOf (joinK ns ns.length) ++ sOf [10] = _
        rw [sOf_app, joinK_all, txt_zero]; rfl
      generalize hP0 : sOf (joinK ns ns.length) = P0 at hs1 hqq ⊢
      replace hP0 := Lib.hid hP0
      go_wp2_with fail
      clear q1 q2
      go_loopw [3, 5] (fun v i wr => ∃ a : Nat, a ≤ us.length ∧ i = .int .i64 a ∧ v = .string (sOf (txt ns us a)) ∧ Hid (At w wr w.heap.size A B c d ns us)) (fun _ i _ => us.length - (intOf i).toNat)
      case atStart => exact ⟨0, Nat.zero_le _, rfl, by rw [← hqq.out], hY⟩
      case round =>
        clear hY hqq hP0 hs1
        obtain ⟨a, ha, rfl, rfl, hY⟩ := hrel
        obtain ⟨wo, rfl⟩ : ∃ wo : World, wo = wr := ⟨_, rfl⟩
        have q1 := hY.out.box.1
        have q2 := hY.out.box.2.1
        generalize hP0 : sOf (txt ns us a) = P0
        replace hP0 := Lib.hid hP0
        go_wp2_with fail
        clear q1 q2
        refine (rf_size hY.out hq.out).mono ?_
        rintro e w2 ⟨rfl, hZ⟩
        clear hY
        by_cases hlt : a < us.length
        · go_wp2_with fail
          go_loopw [3, 6] (fun v i wr => ∃ b : Nat, b ≤ us.length ∧ i = .int .i64 b ∧ v = .string (sOf (txtQ ns us a b)) ∧ Hid (At w wr w.heap.size A B c d ns us)) (fun _ i _ => us.length - (intOf i).toNat)
          case atStart => exact ⟨0, Nat.zero_le _, rfl, by rw [txtQ_zero, hP0.out], hZ⟩
          case round =>
            clear hZ hP0
            obtain ⟨b, hb, rfl, rfl, hY⟩ := hrel
            have hs1 : (sOf (txtQ ns us a b)).size ≤ 10000 := by rw [size_sOf]; exact txtQ_len z4.out (by omega) a b (by omega) (by omega)
            have hqs := txtQ_succ ns us a b
            have hqa := txtQ_all ns us a
            rw [hq.out] at hqa
            have hn1 : Hid (b = us.length → sOf (txtQ ns us a b) ++ ⟨#[10]⟩ = sOf (txt ns us (a + 1))) := fun e => by
              subst e
              rw [← hqa, ← sOf_app]; rfl
            have hn2 : Hid (∀ x, bitSign us a b = x → sOf (txtQ ns us a b) ++ ⟨#[x]⟩ = sOf (txtQ ns us a (b + 1))) := fun x e => by
              rw [hqs, ← sOf_app, e]; rfl
            generalize hP1 : sOf (txtQ ns us a b) = P1 at hs1 hn1 hn2
            replace hP1 := Lib.hid hP1
            clear hqs hqa
            have q1 := hY.out.box.1
            have q2 := hY.out.box.2.1
            go_wp2_with fail
            clear q1 q2
            refine (rf_size hY.out hq.out).mono ?_
            rintro e w3 ⟨rfl, hZ⟩
            clear hY
            by_cases hbl : b < us.length
            · have q1 := hZ.out.box.1
              have q2 := hZ.out.box.2.1
              go_wp2_with fail
              clear q1 q2
              cases hab : le us a b with
              | true =>
                refine (rf_le hZ.out hq.out a b hlt hbl hab).mono ?_
                rintro e w4 ⟨rfl, hY⟩
                have hn3 := Lib.hid (hn2.out 49 (by unfold bitSign; rw [show (row us a).testBit b = true from hab, if_pos rfl]))
                replace hab := Lib.hid hab
                clear hZ
                go_wp2_with fail
                go_roundw
                case rel => exact ⟨b + 1, by omega, by go_num, by rw [← hn3.out], hY⟩
                case measure => simp [intOf]; omega
              | false =>
                refine (rf_le hZ.out hq.out a b hlt hbl hab).mono ?_
                rintro e w4 ⟨rfl, hY⟩
                have hn3 := Lib.hid (hn2.out 48 (by unfold bitSign; rw [show (row us a).testBit b = false from hab]; rfl))
                replace hab := Lib.hid hab
                clear hZ
                go_wp2_with fail
                go_roundw
                case rel => exact ⟨b + 1, by omega, by go_num, by rw [← hn3.out], hY⟩
                case measure => simp [intOf]; omega
            · have hn3 := Lib.hid (hn1.out (by omega))
              go_wp2_with fail
              go_roundw
              case rel => exact ⟨a + 1, by omega, by go_num, by rw [← hn3.out], hZ⟩
              case measure => simp [intOf]; omega
        · have hE9 : Hid (P0 = ⟨(printL ns us).toArray⟩) := by
            show P0 = _
            rw [← hP0.out, show a = us.length by omega]; rfl
          go_wp2_with fail
          go_ret
          exact ⟨congrArg (fun z => Ending.returned (.string z)) hE9.out, hZ.out.below⟩

set_option maxRecDepth 100000 in
set_option maxHeartbeats 1000000 in
theorem refprint_no (A B : Option Addr) (ns : List ByteArray) (us : List Nat) (c d : Nat) (w : World) (hE : Env w) (hL : LatAt w A B c ns us) (hR : rightB ns us = false) :
    Calls Tryd.prog 32 #[.agg #[.slice A ns.length c, .slice B us.length d]] w fun e w' => e = .returned (.string ⟨#[]⟩) ∧ Below w.heap.size w w' := by
  have hX := Lib.hid (At.newT 27 (d := d) hE hL)
  clear hE hL
  replace hR := Lib.hid hR
  go_enter Tryd.func32, Tryd.ntmps32
  go_wp2_with fail
  refine (rf_right hX.out hR.out).mono ?_
  rintro e w1 ⟨rfl, hY⟩
  go_wp2_with fail
  go_ret
  exact ⟨rfl, hY.out.below⟩
end Go.Proofs.YtieamjpfmjkchaaDoor
