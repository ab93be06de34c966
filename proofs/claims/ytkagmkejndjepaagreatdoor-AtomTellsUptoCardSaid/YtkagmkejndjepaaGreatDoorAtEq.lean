/-
  Two pairs compared. No condition.
-/
import Derived.Test.YtkagmkejndjepaaGreatDoorAtW1
import Derived.Laws.StructEq
namespace Go.Proofs.YtkagmkejndjepaaGreatDoor
open Go.RowKit Go.Shelf Go.At

/-- are two pairs one? -/
def sameP (a b c d : Int) : Bool := (a == c) && (b == d)
theorem equalPair (a b c d : Int) (w : World) : (Op.equalIn 10000 53 (.agg #[.int .i64 a, .int .i64 b]) (.agg #[.int .i64 c, .int .i64 d])).run Tryz.prog w = .ok (sameP a b c d) w := by
  have u3 := Tryz.underlying24
  have a3 := Tryz.isAgg24
  have z3 := Tryz.sizeOf24
  have hS : Tryz.prog.underlying 53 = some (.struct (Tryz.prog.fieldsOf 53)) := by kernel_rfl
  have hp : Tryz.prog.stoodInHeld 53 = false := by kernel_rfl
  show (Op.equalIn (9999 + 1) 53 _ _).run Tryz.prog w = _
  rw [run_equalIn_agg w 9999 53 _ _ hS hp]
  simp only [Program.fieldsOf, Tryz.underlying53]
  go_simp
  by_cases h1 : a = c <;> by_cases h2 : b = d <;> simp [sameP, h1, h2]
theorem eqPair (a b c d : Int) (w : World) : (binOp .eql 53 (.agg #[.int .i64 a, .int .i64 b]) (.agg #[.int .i64 c, .int .i64 d])).run Tryz.prog w = .ok (.bool (sameP a b c d)) w := by
  rw [run_eql_struct, equalPair]; rfl
theorem nePair (a b c d : Int) (w : World) : (binOp .neq 53 (.agg #[.int .i64 a, .int .i64 b]) (.agg #[.int .i64 c, .int .i64 d])).run Tryz.prog w = .ok (.bool (!sameP a b c d)) w := by
  rw [run_neq_struct, equalPair]; rfl
theorem guardPair (op : BinOp) (a b : Operand) (x y : Array Value) (w : World) : (eqGuard op 53 a b (.agg x) (.agg y)).run Tryz.prog w = .ok () w := run_eqGuard_agg w op 53 a b x y (by kernel_rfl)
theorem sameP_iff (p q : Pr) : sameP p.1 p.2 q.1 q.2 = true ↔ p = q := by
  obtain ⟨a, b⟩ := p
  obtain ⟨c, d⟩ := q
  simp [sameP]
end Go.Proofs.YtkagmkejndjepaaGreatDoor
