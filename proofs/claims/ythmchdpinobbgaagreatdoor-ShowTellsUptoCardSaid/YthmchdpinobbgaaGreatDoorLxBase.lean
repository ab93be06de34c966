/-
  Words for the world of the word functions: the library's and the package's variables that are read; tokens as values. No condition.
-/
import Derived.Test.YthmchdpinobbgaaGreatDoorLxW1
import Derived.Test.YthmchdpinobbgaaGreatDoorShelf
import Derived.Deep.OwnRows
namespace Go.Proofs.YthmchdpinobbgaaGreatDoor.X
open Go.RowKit Go.Lx Go.Sort

/-- THE VARIABLES THAT ARE READ. -/
structure Env (w : World) : Prop where
  keys : ∀ j, j < 14 → w.cell? ⟨1, j, none⟩ = some (.string ⟨(keys.getD j []).toArray⟩)
  tab : Lib.TabIs Tryz.prog w "internal/strconv.uint64pow10" .u64 Lib.pow10Tab
  syn : ∃ te pe, w.cell? ⟨4, 0, none⟩ = some (.iface te pe)
  rng : ∃ te pe, w.cell? ⟨5, 0, none⟩ = some (.iface te pe)
  size : 7 ≤ w.heap.size
theorem gPow : Tryz.prog.globalNamed "internal/strconv.uint64pow10" = some 2 := by kernel_rfl
theorem Env.later {w w' : World} (h : Env w) (hb : Below w.heap.size w w') : Env w' where
  keys j hj := (hb.cell (p := ⟨1, j, none⟩) (Nat.lt_of_lt_of_le (show 1 < 7 by decide) h.size)).trans (h.keys j hj)
  tab := by
    have h1 := h.tab
    unfold Lib.TabIs at h1 ⊢
    rw [← h1]
    simp only [World.var?, gPow, Option.bind_some, hb.block 2 (Nat.lt_of_lt_of_le (by decide) h.size)]
  syn := by
    obtain ⟨te, pe, e⟩ := h.syn
    exact ⟨te, pe, (hb.cell (p := ⟨4, 0, none⟩) (Nat.lt_of_lt_of_le (by decide) h.size)).trans e⟩
  rng := by
    obtain ⟨te, pe, e⟩ := h.rng
    exact ⟨te, pe, (hb.cell (p := ⟨5, 0, none⟩) (Nat.lt_of_lt_of_le (by decide) h.size)).trans e⟩
  size := Nat.le_trans h.size hb.size
theorem below_grow (w : World) (k : Nat) (os : Array Obj) : Below w.heap.size w (grow (w.drewN k) os) :=
  ⟨rfl, rfl, rfl, by show w.heap.size ≤ (w.heap ++ os).size; simp, fun j hj => by show (w.heap ++ os)[j]? = _; rw [Array.getElem?_append_left hj]⟩
theorem later_alloc (W : World) (o : Obj) : Below W.heap.size W (W.alloc o) := (Below.refl _ _).alloc (Nat.le_refl _) _

def strOf (t : List UInt8) : ByteArray := ⟨t.toArray⟩
theorem strOf_data (s : ByteArray) : strOf s.data.toList = s := by
  cases s; rfl
theorem data_strOf (t : List UInt8) : (strOf t).data.toList = t := by
  show t.toArray.toList = t; simp
theorem size_strOf (t : List UInt8) : (strOf t).size = t.length := by
  show t.toArray.size = t.length; simp
/-- a token as a value -/
def tokV (t : Tok) : Value := .agg #[.int .i64 t.kind, .string (strOf t.text), .int .i64 t.num]
def noTok : Value := .agg #[.int .i64 0, .string ⟨#[]⟩, .int .i64 0]
def optV : Option Tok → Value
  | none => .tuple #[noTok, .bool false]
  | some t => .tuple #[tokV t, .bool true]
end Go.Proofs.YthmchdpinobbgaaGreatDoor.X
