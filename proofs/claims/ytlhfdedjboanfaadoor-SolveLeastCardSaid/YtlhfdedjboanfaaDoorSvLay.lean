/-
  What newRise lays out, pair by pair, as plain words; the places of the variables. Condition: the pairs are known.
-/
import Derived.Test.YtlhfdedjboanfaaDoorSvMath
import Derived.Test.YtlhfdedjboanfaaDoorSvMap
namespace Go.Proofs.YtlhfdedjboanfaaDoor
open Go.At Go.Sv

/-- the variables' places, the first k of them -/
def placeF (vs : List Int) (k : Nat) : Int → Option Int := (List.range k).foldl (fun f i => updM f (vs.getD i 0) ((i : Nat) : Int)) (fun _ => none)
theorem placeF_succ (vs : List Int) (k : Nat) : placeF vs (k + 1) = updM (placeF vs k) (vs.getD k 0) ((k : Nat) : Int) := by unfold placeF; rw [List.range_succ, List.foldl_append]; rfl
theorem placeF_get (c : List Pr) : ∀ k, k ≤ (varsL c).length → ∀ i, i < k → placeF (varsL c) k ((varsL c).getD i 0) = some ((i : Nat) : Int)
  | 0, _, i, h => absurd h (Nat.not_lt_zero _)
  | k + 1, hk, i, hi => by
    rw [placeF_succ]
    unfold updM
    by_cases e : (varsL c).getD i 0 = (varsL c).getD k 0
    · rw [if_pos e]
      have := vars_inj (c := c) (by omega) (by omega) e
      rw [this]
    · rw [if_neg e]
      have hne : i ≠ k := fun h => e (by rw [h])
      exact placeF_get c k (by omega) i (by omega)
structure Lay (us : List Nat) (l : List Pr) (k : Nat) (s : St) : Prop where
  few : ∀ a, (s.O a).length ≤ k
  inv : Inv us.length (Lt.row us) (varsL l).length (EdgeOf l) (PtOf l) s
  fresh : Fresh us.length (varsL l).length s
  edge : ∀ p, p ∈ l.take k → ∀ a b, a < (varsL l).length → b < (varsL l).length → (varsL l).getD a 0 = p.1 → (varsL l).getD b 0 = p.2 → b ∈ s.O a
  pt : ∀ p, p ∈ l.take k → p.1 < 0 → ∀ b, b < (varsL l).length → (varsL l).getD b 0 = p.2 → Sub (s.R b) (Lt.row us (-1 - p.1).toNat)
section
variable {ns : List ByteArray} {us : List Nat} {J M : Nat → Nat → Nat} {z t : Nat} {l : List Pr} {k : Nat} {s : St}
theorem lay_start (h : L.Told ns us J M z t) : Lay us l 0 (Go.Sv.begun (Lt.row us z)) where
  few := fun _ => Nat.le_refl _
  inv := begun_inv (told_z h) h.isZ
  fresh := begun_fresh h.isZ
  edge := fun p hp => by simp at hp
  pt := fun p hp => by simp at hp
theorem take_mem {p : Pr} (hk : k < l.length) : p ∈ l.take (k + 1) ↔ p ∈ l.take k ∨ p = l.getD k (0, 0) := by
  rw [take_snoc l (0, 0) k hk, List.mem_append, List.mem_singleton]
theorem lay_skip (h : Lay us l k s) (hk : k < l.length) (h0 : (l.getD k (0, 0)).2 < 0) : Lay us l (k + 1) s where
  few := fun a => Nat.le_succ_of_le (h.few a)
  inv := h.inv
  fresh := h.fresh
  edge := fun p hp a b ha hb e1 e2 => by
    rcases (take_mem hk).1 hp with h1 | rfl
    · exact h.edge p h1 a b ha hb e1 e2
    · have := vars_pos (c := l) hb; omega
  pt := fun p hp hp1 b hb e2 => by
    rcases (take_mem hk).1 hp with h1 | rfl
    · exact h.pt p h1 hp1 b hb e2
    · have := vars_pos (c := l) hb; omega
theorem lay_raise (hT : L.Told ns us J M z t) (h : Lay us l k s) (hk : k < l.length) {b q : Nat} (hb : b < (varsL l).length) (e2 : (varsL l).getD b 0 = (l.getD k (0, 0)).2) (h1 : (l.getD k (0, 0)).1 < 0) (hq : (q : Int) = -1 - (l.getD k (0, 0)).1) (hqm : q < us.length) :
    Lay us l (k + 1) (after s b (Lt.row us q)) where
  few := fun a => by rw [after_O]; exact Nat.le_succ_of_le (h.few a)
  inv := after_inv (told_rows hT) h.inv hb hqm fun val hval => hval.2.2 q b ⟨hb, l.getD k (0, 0), by rw [List.getD_eq_getElem?_getD, List.getElem?_eq_getElem hk]; exact List.getElem_mem _, h1, hq, e2.symm⟩
  fresh := after_fresh (h.inv.wait b hb) h.fresh
  edge := fun p hp a b' ha hb' e3 e4 => by
    rw [after_O]
    rcases (take_mem hk).1 hp with h2 | rfl
    · exact h.edge p h2 a b' ha hb' e3 e4
    · have := vars_pos (c := l) ha; omega
  pt := fun p hp hp1 b' hb' e4 => by
    rcases (take_mem hk).1 hp with h2 | rfl
    · exact (after_R _ _ _ _).trans (h.pt p h2 hp1 b' hb' e4)
    · obtain rfl := vars_inj hb' hb (e4.trans e2.symm)
      have : q = (-1 - (l.getD k (0, 0)).1).toNat := by omega
      rw [← this]
      exact after_sub _ _ _
theorem lay_link (hT : L.Told ns us J M z t) (h : Lay us l k s) (hk : k < l.length) {a b : Nat} (ha : a < (varsL l).length) (hb : b < (varsL l).length) (e1 : (varsL l).getD a 0 = (l.getD k (0, 0)).1) (e2 : (varsL l).getD b 0 = (l.getD k (0, 0)).2) :
    Lay us l (k + 1) (Go.Sv.linked s a b) where
  few := fun x => by
    show (Sv.upd s.O a (s.O a ++ [b]) x).length ≤ k + 1
    by_cases e : x = a
    · subst e; rw [upd_same, List.length_append]; exact Nat.succ_le_succ (h.few x)
    · rw [upd_other _ _ e]; exact Nat.le_succ_of_le (h.few x)
  inv := linked_inv (told_rows hT) h.inv h.fresh hb ⟨ha, hb, by
    rw [e1, e2]
    have : l.getD k (0, 0) ∈ l := by rw [List.getD_eq_getElem?_getD, List.getElem?_eq_getElem hk]; exact List.getElem_mem _
    exact this⟩
  fresh := h.fresh
  edge := fun p hp x y hx hy e3 e4 => by
    show y ∈ Sv.upd s.O a (s.O a ++ [b]) x
    rcases (take_mem hk).1 hp with h2 | rfl
    · have := h.edge p h2 x y hx hy e3 e4
      by_cases e : x = a
      · subst e; rw [upd_same]; exact List.mem_append_left _ this
      · rw [upd_other _ _ e]; exact this
    · obtain rfl := vars_inj hx ha (e3.trans e1.symm)
      obtain rfl := vars_inj hy hb (e4.trans e2.symm)
      rw [upd_same]
      simp
  pt := fun p hp hp1 b' hb' e4 => by
    rcases (take_mem hk).1 hp with h2 | rfl
    · exact h.pt p h2 hp1 b' hb' e4
    · have := vars_pos (c := l) ha; omega
theorem lay_end (h : Lay us l l.length s) : (∀ a b, EdgeOf l a b → b ∈ s.O a) ∧ (∀ q b, PtOf l q b → Sub (s.R b) (Lt.row us q)) := by
  refine ⟨fun a b ⟨ha, hb, hab⟩ => h.edge _ (by rw [List.take_length]; exact hab) a b ha hb rfl rfl, fun q b ⟨hb, p, hp, h0, hq, e⟩ => ?_⟩
  have := h.pt p (by rw [List.take_length]; exact hp) h0 b hb e.symm
  rwa [show (-1 - p.1).toNat = q by omega] at this
end
end Go.Proofs.YtlhfdedjboanfaaDoor
