/-
  The one list of the names that are free in a term. No condition.
-/
import Derived.Test.YtmomdehilfnpcaaDoorTmExs
namespace Go.Proofs.YtmomdehilfnpcaaDoor
open Go.RowKit Go.Shelf Go.Tm Go.Maps

theorem names_uniq {t : Go.Tm.T} {L M : List ByteArray} (h : Names t L) (k : Names t M) : L = M := names_eq h k.sorted k.nodup k.mem
open Classical in
/-- the one list -/
noncomputable def namesOf (t : Go.Tm.T) : List ByteArray := if h : ∃ L, Names t L then h.choose else []
theorem namesOf_eq {t : Go.Tm.T} {L : List ByteArray} (h : Names t L) : namesOf t = L := by
  have hex : ∃ L, Names t L := ⟨L, h⟩
  unfold namesOf
  rw [dif_pos hex]
  exact names_uniq hex.choose_spec h
theorem names_len {t : Go.Tm.T} {L : List ByteArray} (h : Names t L) : L.length ≤ t.size := by
  have h1 : L.length ≤ (runS ([], []) (walk (rootT t) 0 1 t)).2.length := h.nodup.length_le_of_subset fun s hs => (run_root t (rootT t) rfl rfl s).2 ((h.mem s).1 hs)
  have h2 := (runS_len (walk (rootT t) 0 1 t) ([], [])).2
  rw [walk_len] at h2
  simp at h2
  omega
/-- Free tells the one list -/
theorem free_one (t : Go.Tm.T) (A : Option Addr) (c : Nat) (w : World) (hsz : t.size ≤ 4194304) (hT : TmV w (· < w.heap.size) t A c) :
    Calls Tryd.prog 19 #[tmV t A c] w fun e w' => ∃ B d, e = .returned (.slice B (namesOf t).length d) ∧ Names t (namesOf t) ∧ Txs w' B (namesOf t) ∧ Below w.heap.size w w' :=
  (free_texts t A c w hsz hT).mono fun e w' ⟨L, B, d, h1, h2, h3, h4⟩ => by
    have e1 := namesOf_eq h2
    exact ⟨B, d, by rw [e1]; exact h1, by rw [e1]; exact h2, by rw [e1]; exact h3, h4⟩
end Go.Proofs.YtmomdehilfnpcaaDoor
