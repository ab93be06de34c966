/-
  lat.Meet. Conditions: the lattice's slices can be read; the library's table lies as laid.
-/
import Derived.Test.YtlhfdedjboanfaaDoorLtJoin
namespace Go.Proofs.YtlhfdedjboanfaaDoor.L
open Go.RowKit Go.Shelf Go.Lt

def meetI (ns : List ByteArray) (us : List Nat) (a b : Int) : Int :=
  if rightB ns us && pointB ns.length us.length a && pointB ns.length us.length b then least (turnedL us) (row (turnedL us) a.toNat &&& row (turnedL us) b.toNat) else -1

end Go.Proofs.YtlhfdedjboanfaaDoor.L
