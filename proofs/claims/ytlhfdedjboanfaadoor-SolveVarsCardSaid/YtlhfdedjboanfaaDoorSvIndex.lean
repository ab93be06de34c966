/-
  IndexFunc, ContainsFunc of Sols; the two questions that they are asked with. Condition: the Sols can be read.
-/
import Derived.Test.YtlhfdedjboanfaaDoorSvKnown
namespace Go.At
/-- the first place of one that is so -/
def idxT (f : Pr → Bool) (l : List Pr) : Int := match l.findIdx? f with | some i => (i : Int) | none => -1
theorem idx_hit (f : Pr → Bool) (l : List Pr) (k : Nat) (hk : k < l.length) (h0 : (l.take k).all (fun x => !f x) = true) (h : f (l.getD k (0, 0)) = true) : idxT f l = (k : Int) := by
  have : l.findIdx? f = some k := by
    rw [List.findIdx?_eq_some_iff_getElem]
    refine ⟨hk, ?_, fun j hj => ?_⟩
    · rw [List.getD_eq_getElem?_getD, List.getElem?_eq_getElem hk] at h; exact h
    · rw [List.all_eq_true] at h0
      have := h0 l[j] (List.mem_take_iff_getElem.2 ⟨j, by omega, rfl⟩)
      simpa using this
  unfold idxT
  rw [this]
theorem idx_none (f : Pr → Bool) (l : List Pr) (h0 : l.all (fun x => !f x) = true) : idxT f l = -1 := by
  have : l.findIdx? f = none := by
    rw [List.findIdx?_eq_none_iff]
    intro x hx
    have := List.all_eq_true.1 h0 x hx
    simpa using this
  unfold idxT
  rw [this]
theorem idx_find (f : Pr → Bool) (l : List Pr) : (∃ k, k < l.length ∧ idxT f l = (k : Int) ∧ l.find? f = some (l.getD k (0, 0))) ∨ (idxT f l = -1 ∧ l.find? f = none) := by
  unfold idxT
  cases h : l.findIdx? f with
  | none =>
    right
    rw [List.findIdx?_eq_none_iff] at h
    exact ⟨rfl, List.find?_eq_none.2 fun x hx => by simp [h x hx]⟩
  | some k =>
    left
    obtain ⟨hk, h1, h2⟩ := List.findIdx?_eq_some_iff_getElem.1 h
    refine ⟨k, hk, rfl, ?_⟩
    rw [List.find?_eq_some_iff_getElem]
    refine ⟨?_, k, hk, ?_, fun j hj => ?_⟩
    · rw [List.getD_eq_getElem?_getD, List.getElem?_eq_getElem hk]; exact h1
    · rw [List.getD_eq_getElem?_getD, List.getElem?_eq_getElem hk]; rfl
    · have := h2 j hj
      simpa using this
theorem idx_any (f : Pr → Bool) (l : List Pr) : decide (0 ≤ idxT f l) = l.any f := by
  unfold idxT
  cases h : l.findIdx? f with
  | none =>
    rw [List.findIdx?_eq_none_iff] at h
    have : l.any f = false := by rw [List.any_eq_false]; intro x hx; simp [h x hx]
    rw [this]; rfl
  | some k =>
    obtain ⟨hk, h1, _⟩ := List.findIdx?_eq_some_iff_getElem.1 h
    have : l.any f = true := by rw [List.any_eq_true]; exact ⟨l[k], List.getElem_mem _, h1⟩
    rw [this]
    exact decide_eq_true (by simp)
end Go.At
namespace Go.Proofs.YtlhfdedjboanfaaDoor
open Go.RowKit Go.Shelf Go.At Go.Sv
attribute [local go_sem] Oper.semAt_some

theorem valC_any (B : Nat) (a v p : Int) (w : World) (h1 : w.cell? ⟨B, 0, none⟩ = some (.int .i64 a)) :
    Calls Tryd.prog 45 #[.agg #[.int .i64 v, .int .i64 p], .pointer (some ⟨B, 0, none⟩)] w fun e w' => e = .returned (.bool (v == a)) ∧ Below w.heap.size w w' := by
  have hb := Lib.hid (later_alloc w (.cells #[.int .i64 v, .int .i64 p] 54))
  have hB := World.block_lt_of_cell? w _ h1
  have h2 := (later_alloc w (.cells #[.int .i64 v, .int .i64 p] 54)).cell (p := ⟨B, 0, none⟩) hB
  rw [h1] at h2
  clear hB
  go_enter Tryd.func45, Tryd.ntmps45
  go_wp2_with fail
  go_ret
  exact ⟨rfl, hb.out⟩
theorem solC_any (B : Nat) (A D : Option Addr) (n m c d : Nat) (v p : Int) (w : World) (h1 : w.cell? ⟨B, 0, none⟩ = some (.slice A n c)) (h2 : w.cell? ⟨B, 1, none⟩ = some (.slice D m d)) :
    Calls Tryd.prog 48 #[.agg #[.int .i64 v, .int .i64 p], .pointer (some ⟨B, 0, none⟩)] w fun e w' => e = .returned (.bool (!pnt n p)) ∧ Below w.heap.size w w' := by
  have hb := later_alloc w (.cells #[.int .i64 v, .int .i64 p] 54)
  have hB := World.block_lt_of_cell? w _ h1
  have h3 := hb.cell (p := ⟨B, 0, none⟩) hB
  have h4 := hb.cell (p := ⟨B, 1, none⟩) hB
  rw [h1] at h3
  rw [h2] at h4
  have ks := Lib.hid (fun W => spoint_any A D n m c d p W)
  replace hb := Lib.hid hb
  clear hB
  go_enter Tryd.func48, Tryd.ntmps48
  go_wp2_with fail
  refine (ks.out _).mono ?_
  rintro e w' ⟨rfl, hb2⟩
  go_wp2_with fail
  go_ret
  exact ⟨rfl, hb.out.trans (hb2.mono hb.out.size)⟩
set_option maxRecDepth 100000 in
set_option maxHeartbeats 1000000 in
theorem idxFn_any (g : Nat) (lb : Array Value) (f : Pr → Bool) (eg : ∀ args w, (callFunc g args).run Tryd.prog w = .ok (.enter g args) w) (A : Option Addr) (l : List Pr) (c : Nat) (w : World) (hP : Prs w A l) (hl : l.length ≤ 8796093022208)
    (hF : ∀ W v p, Below w.heap.size w W → Calls Tryd.prog g (#[.agg #[.int .i64 v, .int .i64 p]] ++ lb) W fun e w' => e = .returned (.bool (f (v, p))) ∧ Below W.heap.size W w') :
    Calls Tryd.prog 44 #[.slice A l.length c, .func (.func g) #[] lb] w fun e w' => e = .returned (.int .i64 (idxT f l)) ∧ Below w.heap.size w w' := by
  replace hP := Lib.hid hP
  replace hF := Lib.hid hF
  obtain ⟨Q, hQ⟩ : ∃ Q, l.length = Q := ⟨_, rfl⟩
  obtain ⟨R, hR⟩ : ∃ R, idxT f l = R := ⟨_, rfl⟩
  rw [hR]
  rw [hQ] at hl ⊢
  replace hQ := Lib.hid hQ
  replace hR := Lib.hid hR
  go_enter Tryd.func44, Tryd.ntmps44
  go_wp2_with fail
  go_loopw [8] (fun i W => ∃ k : Nat, k ≤ Q ∧ i = .int .i64 k ∧ Hid ((l.take k).all (fun x => !f x) = true) ∧ Hid (Below w.heap.size w W)) (fun i _ => Q - (intOf i).toNat)
  case atStart => exact ⟨0, Nat.zero_le _, rfl, rfl, Below.refl _ _⟩
  case round =>
    obtain ⟨k, hk, rfl, hall, hB⟩ := hrel
    by_cases hlt : k < Q
    · have hkl : k < l.length := by rw [hQ.out]; exact hlt
      obtain ⟨b, off, rfl, hbk, hc⟩ := (hP.out.later hB.out) (by intro e; subst e; simp at hkl)
      obtain ⟨c0, c1⟩ := hc k hkl
      clear hc
      have ht := all_take l (0, 0) (fun x => !f x) k hkl
      have hhit := fun h => idx_hit f l k hkl hall.out h
      generalize l.getD k (0, 0) = p at c0 c1 ht hhit
      obtain ⟨x, y⟩ := p
      dsimp only at c0 c1
      have kf := Lib.hid (hF.out wr x y hB.out)
      obtain ⟨z, hz⟩ : ∃ z, f (x, y) = z := ⟨_, rfl⟩
      rw [hz] at kf hhit
      have ht2 : Hid ((l.take (k + 1)).all (fun x => !f x) = ((l.take k).all (fun x => !f x) && !z)) := by show _ = _; rw [ht, hz]
      replace hhit := Lib.hid hhit
      clear ht hz
      cases z with
      | true =>
        go_wp2_with (go_at_fn g; refine kf.out.mono ?_; rintro e w2 ⟨rfl, hb2⟩)
        go_ret
        exact ⟨ret_int (by rw [← hR.out]; exact (hhit.out (by first | rfl | trivial)).symm), hB.out.trans (hb2.mono hB.out.size)⟩
      | false =>
        go_wp2_with (go_at_fn g; refine kf.out.mono ?_; rintro e w2 ⟨rfl, hb2⟩)
        go_roundw
        case rel => exact ⟨k + 1, by omega, by go_num, by show _ = _; rw [ht2.out, hall.out]; rfl, hB.out.trans (hb2.mono hB.out.size)⟩
        case measure => simp [intOf]; omega
    · obtain rfl : k = Q := by omega
      have h1 := hall.out
      rw [List.take_of_length_le (by rw [hQ.out]; exact Nat.le_refl _)] at h1
      have hR2 : Hid (R = -1) := by show R = -1; rw [← hR.out]; exact idx_none f l h1
      replace h1 := Lib.hid h1
      go_wp2_with fail
      go_ret
      exact ⟨ret_int hR2.out.symm, hB.out⟩
theorem contFn_any (g : Nat) (lb : Array Value) (f : Pr → Bool) (eg : ∀ args w, (callFunc g args).run Tryd.prog w = .ok (.enter g args) w) (A : Option Addr) (l : List Pr) (c : Nat) (w : World) (hP : Prs w A l) (hl : l.length ≤ 8796093022208)
    (hF : ∀ W v p, Below w.heap.size w W → Calls Tryd.prog g (#[.agg #[.int .i64 v, .int .i64 p]] ++ lb) W fun e w' => e = .returned (.bool (f (v, p))) ∧ Below W.heap.size W w') :
    Calls Tryd.prog 47 #[.slice A l.length c, .func (.func g) #[] lb] w fun e w' => e = .returned (.bool (l.any f)) ∧ Below w.heap.size w w' := by
  have k := Lib.hid (idxFn_any g lb f eg A l c w hP hl hF)
  have he := Lib.hid (idx_any f l)
  generalize idxT f l = R at k he
  generalize l.any f = z at he ⊢
  clear hP hF eg
  generalize l.length = Q at k hl ⊢
  go_enter Tryd.func47, Tryd.ntmps47
  go_wp2_with fail
  refine k.out.mono ?_
  rintro e w' ⟨rfl, hb2⟩
  go_wp2_with fail
  go_ret
  exact ⟨by rw [← he.out]; rfl, hb2⟩
end Go.Proofs.YtlhfdedjboanfaaDoor
