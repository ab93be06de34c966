/-
  A region that draws its order and calls functions that lay blocks: one walk of the text's order serves, where the worlds are those of a kind; has, which reads alone. Conditions: as stated.
-/
import Derived.Test.YtmomdehilfnpcaaDoorTmNames
import Derived.BigQuiet
namespace Go
/-- ONE WALK OF THE TEXT's ORDER, where the worlds are those of a kind: reads, and calls whose answer is the same in each of them. -/
theorem wp_region_quiet_in {S : Type} (f : S → World) {P : Program} {id : Nat} {Q : Exit → Act → World → Prop} {a : Act} {w : World} {l : List Oper} (hm : P.follows .mixedOrders = true) (hB : Region.lexB .any l.toArray = true) (hC : ∃ s, w.drew = f s)
    (h : wpQuiet P l.toArray (fun w' => ∃ s, w' = f s) (fun a' => ∀ w', (∃ s, w' = f s) → Q .normal a' w') l a) : (Code.region id l.toArray true).wp P Q a w :=
  wp_region_quiet (C := fun w' => ∃ s, w' = f s) hm hB hC (by simpa using h)
end Go
namespace Go.Proofs.YtmomdehilfnpcaaDoor
open Go.RowKit Go.Shelf Go.Tm Go.Maps
attribute [local go_sem] Oper.semAt_some

end Go.Proofs.YtmomdehilfnpcaaDoor
