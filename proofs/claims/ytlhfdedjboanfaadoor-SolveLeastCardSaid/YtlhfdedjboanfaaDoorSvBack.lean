/-
  The iterator slices.Backward over Sols. Condition: the Sols can be read.
-/
import Derived.Test.YtlhfdedjboanfaaDoorSvMap
import Derived.RangeFuncNested
import Derived.RangeFuncBound
import Derived.RangeFuncCalls
import Derived.RangeFuncLeaves
import Derived.Maps.OwnIn
namespace Go.At
/-- atoms put in one behind another, from the back -/
def putAll (zs : List (Int × Int)) : Int → Option Int := zs.foldr (fun p f x => if x = p.1 then some p.2 else f x) (fun _ => none)
theorem putAll_get : ∀ (zs : List (Int × Int)) (a : Int), (putAll zs a).getD a = renT zs a
  | [], _ => rfl
  | p :: r, a => by
    have ih := putAll_get r a
    show (if a = p.1 then some p.2 else putAll r a).getD a = (if a = p.1 then p.2 else renT r a)
    split
    · rfl
    · exact ih
theorem putAll_fold (zs : List (Int × Int)) : zs.reverse.foldl (fun f p x => if x = p.1 then some p.2 else f x) (fun _ => none) = putAll zs := by
  rw [List.foldl_reverse]
  rfl
/-- the numbers below n, the greatest first -/
def downTo (n : Nat) : List Nat := (List.range n).reverse
theorem downTo_succ (n : Nat) : downTo (n + 1) = n :: downTo n := by
  unfold downTo
  rw [List.range_succ, List.reverse_append]
  rfl
theorem downTo_len (n : Nat) : (downTo n).length = n := by simp [downTo]
theorem downTo_get {α : Type} (d : α) (zs : List α) : (downTo zs.length).map (fun i => zs.getD i d) = zs.reverse := by
  unfold downTo
  rw [List.map_reverse]
  congr 1
  apply List.ext_getElem
  · simp
  · intro i h1 h2
    simp [List.getD_eq_getElem?_getD, List.getElem?_eq_getElem h2]
end Go.At
namespace Go.Proofs.YtlhfdedjboanfaaDoor
open Go.RowKit Go.Shelf Go.At Go.Maps
attribute [local go_sem] Oper.semAt_some

theorem backward_any (A : Option Addr) (n c : Nat) (w : World) : Calls Tryd.prog 71 #[.slice A n c] w fun e w' => e = .returned (.func (.func 80) #[] #[.pointer (some ⟨w.heap.size, 0, none⟩)]) ∧ w.alloc (.cells #[.slice A n c] 27) = w' := by
  go_enter Tryd.func71, Tryd.ntmps71
  go_wp2
  go_ret
  exact ⟨rfl, rfl⟩
/-- a Sol's value -/
def solV (p : Pr) : Value := .agg #[.int .i64 p.1, .int .i64 p.2]
/-- all but a map's block lies as it lay, below n₀ -/
def KpM (n₀ mb : Nat) (W W' : World) : Prop := ∀ k, k < n₀ → k ≠ mb → W'.heap[k]? = W.heap[k]?
theorem KpM.t {n₀ mb : Nat} {A B C : World} (h : KpM n₀ mb A B) (k : KpM n₀ mb B C) : KpM n₀ mb A C := fun i h1 h2 => (k i h1 h2).trans (h i h1 h2)
theorem KpM.b {n₀ mb : Nat} {w : World} (hn : n₀ ≤ w.heap.size) (W : World) (l : Nat) (o o' : Obj) (hl : w.heap.size ≤ l) (_ : W.heap[l]? = some o) (_ : o.isCells = false) (_ : o.isWalk = false) : KpM n₀ mb W (W.putObj l o') := fun k hk _ =>
  World.putObj_heap_other (by omega)
/-- a place of the first n -/
abbrev Ix (n : Nat) := { i : Nat // i < n }
set_option maxHeartbeats 1000000 in
set_option maxRecDepth 100000 in
theorem back_in (m l Bn n₀ mb : Nat) (hm : 1 ≤ m) (A : Option Addr) (n c : Nat) (ft : List Pr) (hnl : n ≤ ft.length) (hnb : n ≤ 9223372036854775807) (hBm : Bn ≠ mb) (hBn : Bn < n₀) (J Jx : List (Ix n) → World → Prop)
    (hY : ∀ pre x W, J pre W → pre.length < n → YieldAt Fence.wide (m - 1) Tryd.prog l #[.int .i64 ((x.1 : Nat) : Int), solV (ft.getD x.1 (0, 0))] W fun e W' =>
      (e = .returned (.bool true) ∧ J (pre ++ [x]) W' ∧ KpM n₀ mb W W') ∨ (e = .returned (.bool false) ∧ Jx (pre ++ [x]) W'))
    (W : World) (hB : W.cell? ⟨Bn, 0, none⟩ = some (.slice A n c)) (hR : n ≠ 0 → ∃ b off, A = some ⟨b, off, none⟩ ∧ b < n₀ ∧ b ≠ mb ∧ PRow W b off ft) (h0 : J [] W) :
    CallsIn Fence.wide m Tryd.prog 80 #[.func (.yield l) #[] #[], .pointer (some ⟨Bn, 0, none⟩)] W fun e W' => (∃ v, e = .returned v) ∧
      ((∃ ys : List (Ix n), ys.map (·.1) = downTo n ∧ J ys W') ∨ (∃ pre : List (Ix n), True ∧ Jx pre W')) := by
  refine callsIn_of_wp Tryd.func80 rfl trivial ?_ rfl
  simp only [Tryd.ntmps80, List.size_toArray, List.length_cons, List.length_nil, Nat.reduceAdd, Nat.reduceSub, Array.replicate_succ, Array.replicate_zero, List.push_toArray, List.append_toArray, List.nil_append, List.cons_append]
  have hw0 : IntKind.i64.wrap ((n : Int) - 1) = (n : Int) - 1 := wrap_i ⟨by omega, by omega⟩
  gi_wp2
  gi_loopw [3] (fun p wr => ∃ (k : Nat) (pre : List (Ix n)), p = .int .i64 ((k : Int) - 1) ∧ k ≤ n ∧ Hid (pre.map (·.1) ++ downTo k = downTo n) ∧ J pre wr ∧ KpM n₀ mb W wr)
    (fun p _ => (intOf p + 1).toNat)
  case atStart => exact ⟨n, [], rfl, Nat.le_refl _, rfl, h0, fun _ _ _ => rfl⟩
  case round =>
    obtain ⟨k, pre, rfl, hk, hpre, hJ, hK⟩ := hrel
    cases k with
    | zero =>
      have hd : decide ((0 : Int) ≤ ((0 : Nat) : Int) - 1) = false := rfl
      gi_wp2
      go_end0
      exact ⟨⟨_, rfl⟩, .inl ⟨pre, by have := hpre.out; simpa [downTo] using this, hJ⟩⟩
    | succ k =>
      have hkn0 : k < n := Nat.lt_of_succ_le hk
      obtain ⟨b, off, rfl, hb, hbm, hRow⟩ := hR (by omega)
      have hB1 : wr.cell? ⟨Bn, 0, none⟩ = some (.slice (some ⟨b, off, none⟩) n c) := (World.cell?_of_block (a := ⟨Bn, 0, none⟩) (hK Bn hBn hBm)).trans hB
      obtain ⟨hC1, hC2⟩ := (hRow.block (hK b hb hbm)) k (by omega)
      have hlen : pre.length < n := by
        have e := congrArg List.length hpre.out
        rw [List.length_append, List.length_map, downTo_len, downTo_len] at e
        omega
      have hpre2 : Hid ((pre ++ [(⟨k, hkn0⟩ : Ix n)]).map (·.1) ++ downTo k = downTo n) := by
        show _ = _
        rw [List.map_append, List.append_assoc]
        have := hpre.out
        rw [downTo_succ] at this
        exact this
      have hY1 := hY pre ⟨k, hkn0⟩ wr hJ hlen
      dsimp only at hY1
      generalize ft.getD k (0, 0) = x at hC1 hC2 hY1
      obtain ⟨x0, x1⟩ := x
      dsimp only at hC1 hC2
      unfold solV at hY1
      dsimp only at hY1
      obtain ⟨fn, tmps, assign, body, hy, hRr⟩ := hY1
      have e1 : (((k + 1 : Nat) : Int) - 1) = (k : Int) := by omega
      rw [e1]
      have d1 : decide ((0 : Int) ≤ (k : Int)) = true := decide_eq_true (by omega)
      have hkn : (k : Int) < (n : Int) := by omega
      have hw1 : IntKind.i64.wrap ((k : Int) - 1) = (k : Int) - 1 := wrap_i ⟨by omega, by omega⟩
      clear hRow hB hR hY hpre hw0
      gi_wp2
      refine hRr.mono ?_
      rintro e W3 (⟨rfl, hJ3, hk3⟩ | ⟨rfl, hJx3⟩)
      · gi_wp2
        go_roundw
        case rel => exact ⟨k, pre ++ [⟨k, hkn0⟩], by first | rfl | (rw [hw1]), by omega, hpre2, hJ3, hK.t hk3⟩
        case measure => simp [intOf]
      · gi_wp2
        refine bodyPost_ret (results_none rfl _ _ _) rfl ?_
        exact ⟨⟨_, rfl⟩, .inr ⟨pre ++ [⟨k, hkn0⟩], trivial, hJx3⟩⟩
/-- what Backward's value hands out -/
theorem back_stops (m Bn n₀ mb : Nat) (hm : 1 ≤ m) (A : Option Addr) (n c : Nat) (ft : List Pr) (hnl : n ≤ ft.length) (hnb : n ≤ 9223372036854775807) (hBm : Bn ≠ mb) (hBn : Bn < n₀) (w : World) (hn0 : n₀ = w.heap.size)
    (hB : w.cell? ⟨Bn, 0, none⟩ = some (.slice A n c)) (hR : n ≠ 0 → ∃ b off, A = some ⟨b, off, none⟩ ∧ b < n₀ ∧ b ≠ mb ∧ PRow w b off ft) :
    SeqStopsK Fence.wide m Tryd.prog 80 #[.pointer (some ⟨Bn, 0, none⟩)] (fun x : Ix n => #[Value.int .i64 ((x.1 : Nat) : Int), solV (ft.getD x.1 (0, 0))]) (KpM n₀ mb)
      (fun ys => ys.map (·.1) = downTo n) (fun _ => True) n w := fun l J Jx W hW _ _ hY h0 =>
  back_in m l Bn n₀ mb hm A n c ft hnl hnb hBm hBn J Jx hY W ((hW.cell (p := ⟨Bn, 0, none⟩) (by show Bn < w.heap.size; omega)).trans hB)
    (fun h => by
      obtain ⟨b, off, e1, e2, e3, e4⟩ := hR h
      exact ⟨b, off, e1, e2, e3, e4.block (hW.block b (by omega))⟩) h0
end Go.Proofs.YtlhfdedjboanfaaDoor
