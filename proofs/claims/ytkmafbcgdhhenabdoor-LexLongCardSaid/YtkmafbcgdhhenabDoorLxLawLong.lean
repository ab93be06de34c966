/-
  LexLong's walk: true of whatever number. Condition: the variables that are read lie as laid.
-/
import Derived.Test.YtkmafbcgdhhenabDoorLxEx
import Derived.Laws.IdiomStrings
namespace Go.Proofs.YtkmafbcgdhhenabDoor
open Go.RowKit Go.Lx

theorem info_byte : (Tryd.prog.info? 5).map (fun i => (i.zero, i.size, i.bytes)) = some (some (.int .u8 0), 1, 1) := by kernel_rfl
theorem lexL_blanks : ∀ n, lexL (List.replicate n 32) = some []
  | 0 => rfl
  | n + 1 => by rw [List.replicate_succ, lexL_blank 32 (by simp), lexL_blanks n]
def blankTo (k j : Nat) : Value := if j < k then .int .u8 32 else .int .u8 0
theorem blankTo_set (k j : Nat) : (if j = k then .int .u8 32 else blankTo k j) = blankTo (k + 1) j := by
  unfold blankTo
  by_cases e : j = k
  · subst e; rw [if_pos rfl, if_pos (by omega)]
  · rw [if_neg e]
    by_cases g : j < k
    · rw [if_pos g, if_pos (by omega)]
    · rw [if_neg g, if_neg (by omega)]

set_option maxRecDepth 100000 in
set_option maxHeartbeats 2000000 in
theorem lexLong_any (a : Int) (w : World) (hE : Env w) (ha : 0 ≤ a ∧ a < 256) :
    Calls Tryd.prog 6 #[.int .u8 a] w fun e w' => e = .returned (.bool true) ∧ Below w.heap.size w w' := by
  have hX := Lib.hid (Now.new hE)
  clear hE
  obtain ⟨N, hN, hN1, hN2⟩ : ∃ N : Nat, 65530 + a % 12 = (N : Int) ∧ 65530 ≤ N ∧ N < 65542 := ⟨(65530 + a % 12).toNat, by omega, by omega, by omega⟩
  go_enter Tryd.func6, Tryd.ntmps6
  go_wp2_with fail
  refine (examples_any _ hX.out.env).mono ?_
  rintro e w1 ⟨rfl, hb⟩
  replace hX := Lib.hid (hX.out.later hb)
  clear hb
  have hmk := run_make_row' (P := Tryd.prog) 38 5 (.int .u8 0) 1 Tryd.underlying38 info_byte rfl .i64 .i64 N (by omega) (by omega)
  go_wp2_with fail
  clear hmk
  go_loopw [5] (fun i wr => ∃ k : Nat, k ≤ N ∧ i = .int .i64 k ∧ wr.rowIs w1.heap.size 5 N (blankTo k) ∧ Hid (Below w1.heap.size w1 wr)) (fun i _ => N - (intOf i).toNat)
  case atStart => exact ⟨0, Nat.zero_le _, rfl, (World.rowIs_made w1 _ _ _).congr fun j _ => by unfold blankTo; simp, (Below.refl _ _).alloc (Nat.le_refl _) _⟩
  case round =>
    obtain ⟨k, hk, rfl, hrow, hB⟩ := hrel
    by_cases hlt : k < N
    · have hxc := hrow.cell hlt
      have hxf := hrow.frozen k
      go_wp2_with fail
      go_roundw
      case rel => exact ⟨k + 1, by omega, by go_num, (hrow.set k _).congr fun j _ => blankTo_set k j, hB.out.setCell (p := ⟨w1.heap.size, k, none⟩) (Nat.le_refl _) _⟩
      case measure => simp [intOf]; omega
    · obtain rfl : k = N := by omega
      have hcv := run_convert_bytes_back (P := Tryd.prog) wr 38 9 5 ⟨w1.heap.size, 0, none⟩ k (List.replicate k 32) Tryd.underlying38 Tryd.underlying5 Tryd.underlying9 (fun j hj => by
        rw [List.length_replicate] at hj
        have h1 := hrow.cell hj
        unfold blankTo at h1
        rw [if_pos hj] at h1
        rw [List.getElem_replicate]
        have e : (⟨w1.heap.size, 0, none⟩ : Addr).add j = ⟨w1.heap.size, j, none⟩ := by
          unfold Addr.add
          split
          · rename_i h0; subst h0; rfl
          · simp
        rw [e, h1]; rfl)
      rw [List.length_replicate] at hcv
      have hs1 : (⟨(List.replicate k (32 : UInt8)).toArray⟩ : ByteArray).size = k := by
        show (List.replicate k (32 : UInt8)).toArray.size = k; simp
      have hs2 : (⟨(List.replicate k (32 : UInt8)).toArray⟩ : ByteArray).data.toList = List.replicate k 32 := by
        show (List.replicate k (32 : UInt8)).toArray.toList = _; simp
      have hlx : Hid (lexL (⟨(List.replicate k (32 : UInt8)).toArray⟩ : ByteArray).data.toList = some []) := by
        show lexL _ = _
        rw [hs2, lexL_blanks]
      have hs3 : Hid ((⟨(List.replicate k (32 : UInt8)).toArray⟩ : ByteArray).size = k) := hs1
      clear hs1 hs2 hrow
      generalize (⟨(List.replicate k (32 : UInt8)).toArray⟩ : ByteArray) = z at hcv hlx hs3
      replace hX := Lib.hid (hX.out.later hB.out)
      go_wp2_with fail
      clear hcv
      by_cases hbig : 65536 < k
      · refine (lex_long hX.out.env (by rw [hs3.out]; exact hbig) (by rw [hs3.out]; omega)).mono ?_
        rintro e w9 ⟨rfl, hb⟩
        replace hX := Lib.hid (hX.out.later hb)
        clear hb hlx hs3
        have d1 : decide ((k : Int) ≤ 65536) = false := decide_eq_false (by omega)
        go_wp2_with fail
        go_ret
        exact ⟨rfl, hX.out.below⟩
      · refine (lex_some hX.out.env (by rw [hs3.out]; omega) hlx.out).mono ?_
        rintro e w9 ⟨A, c, rfl, hb, _, hc1, hc2, _⟩
        replace hX := Lib.hid (hX.out.later hb)
        clear hb hlx hs3
        have d1 : decide ((65536 : Int) < (k : Int)) = false := decide_eq_false (by omega)
        have d2 : decide ((k : Int) ≤ 65536) = true := decide_eq_true (by omega)
        go_wp2_with fail
        go_ret
        exact ⟨rfl, hX.out.below⟩
end Go.Proofs.YtkmafbcgdhhenabDoor
