/-
  Words for the world of the lattice functions: the library's variables, strings and words behind a slice, a lattice's value. No condition.
-/
import Derived.WalkKit
import Derived.Shelf.Spec.TrailingZeros
import Derived.Laws.BitsAllLaws
import Derived.RangeFuncNested
import Derived.RangeFuncBound
import Derived.RangeFuncCalls
import Derived.RangeFuncLeaves
import Derived.Shelf.Abstract
import Derived.Shelf.RegionOpen
import Derived.OwnWalkIn
import Derived.TacticsInMore
import Derived.LoopNIn
import Derived.LoopIn
import Derived.Test.YtlhfdedjboanfaaDoorLtMath
import Derived.Test.YtlhfdedjboanfaaDoorShelf
namespace Go.Proofs.YtlhfdedjboanfaaDoor.L
open Go.RowKit Go.Shelf

theorem tz_lays : Lays7.n29 Tryd.prog ⟨fun | 29 => 84 | n => n, fun | 22 => 72 | 25 => 115 | 54 => 141 | n => n, fun | 1 => 0 | n => n⟩ := {
  mixed := by kernel_rfl
  f29 := Tryd.func84.trans (congrArg some (by kernel_rfl))
  t0 := Tryd.underlying0
  a0 := Tryd.isAgg0
  z0 := Tryd.sizeOf0
  v0 := Tryd.zeroValue0
  i0 := by kernel_rfl
  t3 := Tryd.underlying3
  a3 := Tryd.isAgg3
  z3 := Tryd.sizeOf3
  v3 := Tryd.zeroValue3
  i3 := by kernel_rfl
  t4 := Tryd.underlying4
  a4 := Tryd.isAgg4
  z4 := Tryd.sizeOf4
  v4 := Tryd.zeroValue4
  i4 := by kernel_rfl
  t5 := Tryd.underlying5
  a5 := Tryd.isAgg5
  z5 := Tryd.sizeOf5
  v5 := Tryd.zeroValue5
  i5 := by kernel_rfl
  t22 := Tryd.underlying72
  a22 := Tryd.isAgg72
  z22 := Tryd.sizeOf72
  v22 := Tryd.zeroValue72
  i22 := by kernel_rfl
  t25 := Tryd.underlying115
  a25 := Tryd.isAgg115
  z25 := Tryd.sizeOf115
  v25 := Tryd.zeroValue115
  i25 := by kernel_rfl
  t54 := Tryd.underlying141
  a54 := Tryd.isAgg141
  z54 := Tryd.sizeOf141
  g1 := by kernel_rfl }

/-- THE LIBRARY's VARIABLE THAT IS READ. -/
def Env (w : World) : Prop := TabAt 0 Lib.deBruijn64tab w ∧ 1 ≤ w.heap.size
theorem Env.kept {w w' : World} (h : Env w) (hs : w.heap.size ≤ w'.heap.size) (hk : ∀ k, k < 1 → w'.heap[k]? = w.heap[k]?) : Env w' := by
  obtain ⟨h1, h3⟩ := h
  refine ⟨fun j hj => ?_, by omega⟩
  exact (World.cell?_of_block (a := ⟨0, j, none⟩) (hk 0 (by decide))).trans (h1 j hj)
theorem Env.below {B : Nat} {w w' : World} (h : Env w) (hB : 1 ≤ B) (hb : Below B w w') : Env w' :=
  h.kept hb.size fun k hk => hb.block k (by omega)
theorem Env.four {w : World} (h : Env w) : 1 ≤ w.heap.size := h.2
theorem Env.later {w w' : World} (h : Env w) (hb : Below w.heap.size w w') : Env w' := h.below h.four hb

theorem tz (x : Nat) (hx : x < 18446744073709551616) (w : World) (hE : Env w) :
    Calls Tryd.prog 84 #[.int .u64 x] w fun e w' => e = .returned (.int .i64 (Lib.ctz 64 x)) ∧ w' = w :=
  Any7.bits_TrailingZeros64 tz_lays x hx w fun _ => hE.1


def Lt.nm (ss : List ByteArray) (j : Nat) : ByteArray := ss.getD j ByteArray.empty
/-- the words behind a slice -/
def Words (w : World) (B : Nat) (A : Option Addr) (us : List Nat) : Prop :=
  us ≠ [] → ∃ b off, A = some ⟨b, off, none⟩ ∧ b < B ∧ ∀ j, j < us.length → w.cell? ⟨b, off + j, none⟩ = some (.int .u64 (Lt.row us j : Nat))
/-- the strings behind a slice -/
def Strs (w : World) (B : Nat) (A : Option Addr) (ss : List ByteArray) : Prop :=
  ss ≠ [] → ∃ b off, A = some ⟨b, off, none⟩ ∧ b < B ∧ ∀ j, j < ss.length → w.cell? ⟨b, off + j, none⟩ = some (.string (Lt.nm ss j))
theorem Words.kept {w w' : World} {B B' : Nat} {A : Option Addr} {us : List Nat} (h : Words w B A us) (hB : B ≤ B') (hk : ∀ p : Addr, p.block < B → w'.cell? p = w.cell? p) : Words w' B' A us := fun hn => by
  obtain ⟨b, off, hA, hb, hc⟩ := h hn
  exact ⟨b, off, hA, by omega, fun j hj => (hk ⟨b, off + j, none⟩ hb).trans (hc j hj)⟩
theorem Strs.kept {w w' : World} {B B' : Nat} {A : Option Addr} {us : List ByteArray} (h : Strs w B A us) (hB : B ≤ B') (hk : ∀ p : Addr, p.block < B → w'.cell? p = w.cell? p) : Strs w' B' A us := fun hn => by
  obtain ⟨b, off, hA, hb, hc⟩ := h hn
  exact ⟨b, off, hA, by omega, fun j hj => (hk ⟨b, off + j, none⟩ hb).trans (hc j hj)⟩
theorem Words.below {w w' : World} {B B' : Nat} {A : Option Addr} {us : List Nat} (h : Words w B A us) (hB : B ≤ B') (hb : Below B w w') : Words w' B' A us := h.kept hB fun _ hp => hb.cell hp
theorem Strs.below {w w' : World} {B B' : Nat} {A : Option Addr} {us : List ByteArray} (h : Strs w B A us) (hB : B ≤ B') (hb : Below B w w') : Strs w' B' A us := h.kept hB fun _ hp => hb.cell hp
theorem Words.nil (w : World) (B : Nat) (A : Option Addr) : Words w B A [] := fun h => absurd rfl h
theorem Strs.nil (w : World) (B : Nat) (A : Option Addr) : Strs w B A [] := fun h => absurd rfl h

/-- all are words of 64 bits -/
def W64 (us : List Nat) : Prop := ∀ j, Lt.row us j < 18446744073709551616
theorem W64.of {us : List Nat} (h : ∀ u ∈ us, u < 18446744073709551616) : W64 us := fun j => by
  unfold Lt.row
  rw [List.getD_eq_getElem?_getD]
  by_cases hj : j < us.length
  · rw [List.getElem?_eq_getElem hj]
    exact h _ (List.getElem_mem hj)
  · rw [List.getElem?_eq_none (by omega)]
    decide

theorem bcell {W w1 : World} (hb : Below W.heap.size W w1) : (∀ b o, b < W.heap.size → w1.cell? ⟨b, o, none⟩ = W.cell? ⟨b, o, none⟩) ∧ (∀ b o, b < W.heap.size → w1.frozen? ⟨b, o, none⟩ = W.frozen? ⟨b, o, none⟩) :=
  ⟨fun b o h => hb.cell (p := ⟨b, o, none⟩) h, fun b o h => hb.frozen (p := ⟨b, o, none⟩) h⟩

/-- one bit of a word, as the walk spells it -/
theorem shr_one (r k : Nat) (hr : r < 18446744073709551616) : bits BinOp.and IntKind.u64 ((r : Int) / 2 ^ min k 64) 1 = ((r.testBit k).toNat : Int) := by
  have e1 : ((r : Int) / 2 ^ min k 64) = ((r / 2 ^ min k 64 : Nat) : Int) := by
    rw [Int.natCast_ediv]; simp
  have h1 : r / 2 ^ min k 64 < 18446744073709551616 := Nat.lt_of_le_of_lt (Nat.div_le_self _ _) hr
  have e3 : ((1 : Int)) = ((1 : Nat) : Int) := rfl
  rw [e1, e3, u64_and_nat _ 1 h1 (by decide)]
  congr 1
  rw [Nat.and_one_is_mod]
  by_cases hk : k ≤ 64
  · rw [Nat.min_eq_left hk, Nat.testBit_eq_decide_div_mod_eq]
    have := Nat.mod_two_eq_zero_or_one (r / 2 ^ k)
    rcases this with e | e <;> simp [e]
  · have hb : r.testBit k = false := Nat.testBit_lt_two_pow (Nat.lt_of_lt_of_le hr (by
      have := Nat.pow_le_pow_right (n := 2) (by omega) (show 64 ≤ k by omega)
      omega))
    rw [Nat.min_eq_right (by omega), hb, Nat.div_eq_of_lt (by omega)]
    rfl
theorem shr_eq1 (r k : Nat) (hr : r < 18446744073709551616) : (bits BinOp.and IntKind.u64 ((r : Int) / 2 ^ min k 64) 1 == 1) = r.testBit k := by
  rw [shr_one r k hr]; cases r.testBit k <;> rfl
theorem shr_eq0 (r k : Nat) (hr : r < 18446744073709551616) : (bits BinOp.and IntKind.u64 ((r : Int) / 2 ^ min k 64) 1 == 0) = !r.testBit k := by
  rw [shr_one r k hr]; cases r.testBit k <;> rfl
theorem shr0 (r k : Nat) (hr : r < 18446744073709551616) (hk : k ≤ 64) : (bits BinOp.and IntKind.u64 ((r : Int) / 2 ^ k) 1 == 0) = !r.testBit k := by
  have := shr_eq0 r k hr
  rwa [Nat.min_eq_left hk] at this
theorem shr1 (r k : Nat) (hr : r < 18446744073709551616) (hk : k ≤ 64) : (bits BinOp.and IntKind.u64 ((r : Int) / 2 ^ k) 1 == 1) = r.testBit k := by
  have := shr_eq1 r k hr
  rwa [Nat.min_eq_left hk] at this
end Go.Proofs.YtlhfdedjboanfaaDoor.L
