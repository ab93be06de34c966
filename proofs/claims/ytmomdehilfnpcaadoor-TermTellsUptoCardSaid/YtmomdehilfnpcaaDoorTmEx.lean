/-
  A list of names is told by what stands on it; Free's texts. Conditions: the term can be read.
-/
import Derived.Test.YtmomdehilfnpcaaDoorTmFree
import Derived.Test.YtmomdehilfnpcaaDoorTmEx0
namespace Go.Proofs.YtmomdehilfnpcaaDoor
open Go.RowKit Go.Shelf Go.Tm Go.Maps

/-- a list of names is told by what stands on it -/
theorem names_eq {t : Go.Tm.T} {L M : List ByteArray} (h : Names t L) (hs : M.Pairwise (fun a b => a.data.toList ≤ b.data.toList)) (hn : M.Nodup) (hm : ∀ s, s ∈ M ↔ t.free s = true) : L = M := by
  have hp : L.Perm M := (List.perm_ext_iff_of_nodup h.nodup hn).2 fun s => (h.mem s).trans (hm s).symm
  refine List.Perm.eq_of_pairwise (le := fun a b : ByteArray => a.data.toList ≤ b.data.toList) (fun a b _ _ h1 h2 => ?_) h.sorted hs hp
  have h3 := List.le_antisymm h1 h2
  have h4 : a.data = b.data := Array.toList_inj.1 h3
  cases a; cases b; cases h4; rfl
theorem free_texts (t : Go.Tm.T) (A : Option Addr) (c : Nat) (w : World) (hsz : t.size ≤ 4194304) (hT : TmV w (· < w.heap.size) t A c) :
    Calls Tryd.prog 19 #[tmV t A c] w fun e w' => ∃ L B d, e = .returned (.slice B L.length d) ∧ Names t L ∧ Txs w' B L ∧ Below w.heap.size w w' :=
  (free_any t A c w hsz hT).mono fun e w' ⟨v, L, h1, h2, h3, _, h5⟩ => by
    obtain ⟨B, d, hv, hx⟩ := txs_of_row h3
    exact ⟨L, B, d, by rw [h1, hv], h2, hx, h5⟩
end Go.Proofs.YtmomdehilfnpcaaDoor
