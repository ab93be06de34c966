/-
  The way down on the other side, as Same keeps it: a list of pointers. Conditions: each node on it lies below a bound that nobody writes.
-/
import Derived.Test.YthmchdpinobbgaaGreatDoorTmAlike
namespace Go.Proofs.YthmchdpinobbgaaGreatDoor
open Go.RowKit Go.Shelf Go.Tm

end Go.Proofs.YthmchdpinobbgaaGreatDoor
