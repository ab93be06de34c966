/-
  Whether two nodes are alike but for their Kids. Condition: each of the two has a header that can be read.
-/
import Derived.Test.YthmchdpinobbgaaGreatDoorTmRight
import Derived.Test.YthmchdpinobbgaaGreatDoorTmSameM
import Derived.Deep.QuietTactic
import Derived.BigQuiet
namespace Go.Proofs.YthmchdpinobbgaaGreatDoor
open Go.RowKit Go.Shelf Go.Tm
attribute [local go_sem] Oper.semAt_some

end Go.Proofs.YthmchdpinobbgaaGreatDoor
