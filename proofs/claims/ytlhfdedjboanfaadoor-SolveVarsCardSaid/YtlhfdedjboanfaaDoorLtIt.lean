/-
  The iterator lat.places: it hands out the places of the bits that are set, the lowest first. No condition but that the library's table lies as laid.
-/
import Derived.Test.YtlhfdedjboanfaaDoorLtW2
namespace Go.Proofs.YtlhfdedjboanfaaDoor.L
open Go.RowKit Go.Shelf Go.Lt
attribute [local go_sem] Oper.semAt_some

abbrev PAt (u : Nat) := { b : Nat // u.testBit b = true }

theorem and_pred (x : Nat) (h0 : x ≠ 0) (hx : x < 18446744073709551616) : bits BinOp.and IntKind.u64 (x : Int) ((x : Int) - 1) = ((x &&& (x - 1) : Nat) : Int) := by
  rw [show ((x : Int) - 1) = ((x - 1 : Nat) : Int) by omega]
  exact u64_and_nat x (x - 1) hx (by omega)

theorem places_any (u : Nat) (w : World) : Calls Tryd.prog 75 #[.int .u64 u] w fun e w' => e = .returned (.func (.func 83) #[] #[.pointer (some ⟨w.heap.size, 0, none⟩)]) ∧ w.alloc (.cells #[.int .u64 u] 72) = w' := by
  go_enter Tryd.func75, Tryd.ntmps75
  go_wp2
  go_ret
  exact ⟨rfl, rfl⟩

set_option maxHeartbeats 1000000 in
theorem it_in (n l Bn n₀ : Nat) (hn : 1 ≤ n) (u : Nat) (hu : u < 18446744073709551616) (J Jx : List (PAt u) → World → Prop)
    (hY : ∀ pre x W, J pre W → pre.length < (places u).length → YieldAt Fence.wide (n - 1) Tryd.prog l #[.int .i64 ((x.1 : Nat) : Int)] W fun e W' =>
      (e = .returned (.bool true) ∧ J (pre ++ [x]) W' ∧ Below n₀ W W') ∨ (e = .returned (.bool false) ∧ Jx (pre ++ [x]) W'))
    (W : World) (hBn : W.cell? ⟨Bn, 0, none⟩ = some (.int .u64 u)) (hE : Env W) (h4 : 1 ≤ n₀) (h0 : J [] W) :
    CallsIn Fence.wide n Tryd.prog 83 #[.func (.yield l) #[] #[], .pointer (some ⟨Bn, 0, none⟩)] W fun e W' => (∃ v, e = .returned v) ∧
      ((∃ ys : List (PAt u), ys.map (·.1) = places u ∧ J ys W') ∨ (∃ pre : List (PAt u), pre.map (·.1) <+: places u ∧ Jx pre W')) := by
  refine callsIn_of_wp Tryd.func83 rfl trivial ?_ rfl
  simp only [Tryd.ntmps83, List.size_toArray, List.length_cons, List.length_nil, Nat.reduceAdd, Nat.reduceSub, Array.replicate_succ, Array.replicate_zero, List.push_toArray, List.append_toArray, List.nil_append, List.cons_append]
  gi_wp2
  gi_loopw [3] (fun p wr => ∃ (k left : Nat) (pre : List (PAt u)), p = .int .u64 left ∧ k ≤ 64 ∧ Lt.Left u k left ∧ Hid (pre.map (·.1) = upto u k) ∧ J pre wr ∧ Env wr)
    (fun p _ => (intOf p).toNat)
  case atStart => exact ⟨0, u, [], rfl, by omega, left_zero u, rfl, h0, hE⟩
  case round =>
    obtain ⟨k, left, pre, rfl, hk, hL, hpre, hJ, hEr⟩ := hrel
    have hlt := hL.lt hu
    by_cases hz : left = 0
    · subst hz
      gi_wp2
      go_end0
      exact ⟨⟨_, rfl⟩, .inl ⟨pre, by rw [hpre.out]; exact hL.done hk, hJ⟩⟩
    · obtain ⟨hb, hkc, hc64, hup, hL'⟩ := hL.next hu hz
      have hcl := clear_less hz
      have hlen : pre.length < (places u).length := by
        have e1 := (upto_places (u := u) (k := Lib.ctz 64 left + 1) (by omega)).length_le
        rw [hup] at e1
        have e2 : pre.length = (upto u k).length := by rw [← hpre.out]; simp
        simp at e1; omega
      obtain ⟨fn, tmps, assign, body, hy, hR⟩ := hY pre ⟨Lib.ctz 64 left, hb⟩ wr hJ hlen
      dsimp only at hy
      have hz' : ((left : Int) != 0) = true := by rw [bne_iff_ne]; omega
      have HN := Lib.hid (And.intro hup (And.intro hL' hcl))
      clear hup hL' hcl
      gi_wp2_with (refine ⟨trivial, ?_⟩; gi_at_call 84; refine (callsIn_wide.2 (tz left hlt _ hEr)).mono ?_; rintro e w' ⟨rfl, rfl⟩)
      refine hR.mono ?_
      rintro e W3 (⟨rfl, hJ3, hk3⟩ | ⟨rfl, hJx3⟩)
      · have hE3 : Env W3 := hEr.below h4 hk3
        gi_wp2
        go_roundw
        case rel => exact ⟨Lib.ctz 64 left + 1, left &&& (left - 1), pre ++ [⟨Lib.ctz 64 left, hb⟩], by rw [and_pred left hz hlt], by omega, HN.out.2.1, (by show (pre ++ [(⟨Lib.ctz 64 left, hb⟩ : PAt u)]).map (·.1) = _; rw [List.map_append, hpre.out, HN.out.1]; rfl), hJ3, hE3⟩
        case measure =>
          have := HN.out.2.2
          simp [intOf, and_pred left hz hlt]; omega
      · gi_wp2
        refine bodyPost_ret (results_none rfl _ _ _) rfl ?_
        refine ⟨⟨_, rfl⟩, .inr ⟨pre ++ [⟨Lib.ctz 64 left, hb⟩], ?_, hJx3⟩⟩
        rw [List.map_append, hpre.out]
        show upto u k ++ [Lib.ctz 64 left] <+: _
        rw [← HN.out.1]
        exact upto_places (by omega)

/-- lat.places' VALUE HANDS OUT THE PLACES. -/
theorem it_stops (n Bn n₀ : Nat) (hn : 1 ≤ n) (u : Nat) (hu : u < 18446744073709551616) (w : World) (hBn : Bn < w.heap.size) (hc : w.cell? ⟨Bn, 0, none⟩ = some (.int .u64 u)) (hE : Env w) (h4 : 1 ≤ n₀) :
    SeqStopsK Fence.wide n Tryd.prog 83 #[.pointer (some ⟨Bn, 0, none⟩)] (fun x : PAt u => #[Value.int .i64 ((x.1 : Nat) : Int)]) (Below n₀)
      (fun ys => ys.map (·.1) = places u) (fun pre => pre.map (·.1) <+: places u) (places u).length w := fun l J Jx W hW _ _ hY h0 =>
  it_in n l Bn n₀ hn u hu J Jx hY W ((hW.cell (p := ⟨Bn, 0, none⟩) hBn).trans hc) (hE.later hW) h4 h0
end Go.Proofs.YtlhfdedjboanfaaDoor.L
