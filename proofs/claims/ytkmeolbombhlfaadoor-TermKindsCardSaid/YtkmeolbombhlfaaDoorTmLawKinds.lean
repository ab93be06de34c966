/-
  TermKinds's walk: true of whatever two numbers. Condition: the tables lie as laid.
-/
import Derived.Test.YtkmeolbombhlfaaDoorTmKindsA
import Derived.Test.YtkmeolbombhlfaaDoorTmKindsB
import Derived.Test.YtkmeolbombhlfaaDoorTmKindsC
import Derived.Test.YtkmeolbombhlfaaDoorTmKindsD
namespace Go.Proofs.YtkmeolbombhlfaaDoor
open Go.RowKit Go.Shelf Go.Tm

theorem termKinds_any (a m : Int) (w : World) (hE : Env w) (ha : 0 ≤ a ∧ a < 256) (hm : 0 ≤ m ∧ m < 256) :
    Calls Tryd.prog 8 #[.int .u8 a, .int .u8 m] w fun e w' => e = .returned (.bool true) ∧ Below w.heap.size w w' := by
  obtain h | h | h | h | h | h | h | h | h | h | h | h | h : a % 13 = 0 ∨ a % 13 = 1 ∨ a % 13 = 2 ∨ a % 13 = 3 ∨ a % 13 = 4 ∨ a % 13 = 5 ∨ a % 13 = 6 ∨ a % 13 = 7 ∨ a % 13 = 8 ∨ a % 13 = 9 ∨ a % 13 = 10 ∨ a % 13 = 11 ∨ a % 13 = 12 := by omega
  · exact kinds_1 a m w hE ha hm h
  · exact kinds_2 a m w hE ha hm h
  · exact kinds_3 a m w hE ha hm h
  · exact kinds_4 a m w hE ha hm h
  · exact kinds_5 a m w hE ha hm h
  · exact kinds_6 a m w hE ha hm h
  · exact kinds_7 a m w hE ha hm h
  · exact kinds_8 a m w hE ha hm h
  · exact kinds_9 a m w hE ha hm h
  · exact kinds_10 a m w hE ha hm h
  · exact kinds_11 a m w hE ha hm h
  · exact kinds_12 a m w hE ha hm h
  · exact kinds_13 a m w hE ha hm h
end Go.Proofs.YtkmeolbombhlfaaDoor
