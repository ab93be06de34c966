/-
  LatNames's walk: true of whatever text, lattice and point. Conditions: the library's variables lie as laid; the lattice can be read.
-/
import Derived.Test.YtjeelebppfhmlaaDoorLtAt
import Derived.Deep.RegionHeld3
import Derived.Deep.DrawnRows
namespace Go.Proofs.YtjeelebppfhmlaaDoor
open Go.RowKit Go.Shelf Go.Lt
attribute [local go_sem ↓] Go.wp_at_zero Go.wp_at_succ

def fitAt (s : ByteArray) (j : Nat) : Bool := letterI (s.data.toList.getD j 0).toNat || (decide ((0 : Int) < (j : Int)) && digitI (s.data.toList.getD j 0).toNat)
def fitsB (s : ByteArray) (k : Nat) : Bool := decide ((1 : Int) ≤ (s.size : Int)) && decide ((s.size : Int) ≤ 16) && (List.range k).all (fitAt s)
theorem fits_succ (s : ByteArray) (k : Nat) : fitsB s (k + 1) = (fitsB s k && fitAt s k) := by
  unfold fitsB
  rw [List.range_succ, List.all_append]
  simp [Bool.and_assoc]
theorem fits_name (s : ByteArray) : fitsB s s.size = nameB s := by
  unfold fitsB nameB
  rw [Bool.eq_iff_iff]
  simp only [Bool.and_eq_true, decide_eq_true_eq, List.all_eq_true, List.mem_range]
  constructor
  · rintro ⟨⟨h1, h2⟩, h3⟩
    refine ⟨⟨⟨by omega, by omega⟩, ?_⟩, fun j hj => ?_⟩
    · have := h3 0 (by omega)
      simpa [fitAt] using this
    · have := h3 j hj
      unfold fitAt at this
      unfold okAt
      simp only [Bool.or_eq_true, Bool.and_eq_true] at this ⊢
      rcases this with h | h
      · exact Or.inl h
      · exact Or.inr h.2
  · rintro ⟨⟨⟨h1, h2⟩, h3⟩, h4⟩
    refine ⟨⟨by omega, by omega⟩, fun j hj => ?_⟩
    have := h4 j hj
    unfold okAt at this
    unfold fitAt
    simp only [Bool.or_eq_true, Bool.and_eq_true, decide_eq_true_eq] at this ⊢
    rcases this with h | h
    · exact Or.inl h
    · rcases Nat.eq_zero_or_pos j with rfl | hp
      · exact Or.inl h3
      · exact Or.inr ⟨by omega, h⟩

theorem named_two {ss : List ByteArray} {i : Nat} (h : namedB ss = true) (hi : i < ss.length) : nameB (Lt.nm ss i) = true ∧ twice ss i = false := by
  unfold namedB at h
  rw [List.all_eq_true] at h
  have := h i (List.mem_range.2 hi)
  unfold namedAt at this
  rw [Bool.and_eq_true] at this
  exact ⟨this.1, by simpa using this.2⟩
theorem find_own {ss : List ByteArray} {i : Nat} (h : namedB ss = true) (hi : i < ss.length) : findI ss (Lt.nm ss i) = (i : Int) := by
  have h1 := (named_two h hi).2
  have h2 : Lt.nm ss i ∉ ss.take i := fun hm => by
    unfold twice at h1
    rw [(Lib.containsS_iff _ _).2 hm] at h1
    cases h1
  have h3 := Lib.idxOfS_hit ss ss.length i (Lt.nm ss i) hi (Nat.le_refl _) rfl (fun j hj e => h2 (by
    have hjl : j < (ss.take i).length := by rw [List.length_take]; omega
    have : (ss.take i)[j] = Lt.nm ss i := by
      rw [List.getElem_take, ← e, List.getD_eq_getElem?_getD, List.getElem?_eq_getElem (by omega)]
      rfl
    rw [← this]
    exact List.getElem_mem hjl))
  rw [List.take_length] at h3
  exact h3
theorem find_none {ss : List ByteArray} (h : namedB ss = true) : findI ss ⟨#[]⟩ = -1 := by
  have h3 := Lib.idxOfS_miss ss ss.length ⟨#[]⟩ (fun j hj e => by
    have h1 := (named_two h hj).1
    have : Lt.nm ss j = ⟨#[]⟩ := e
    rw [this] at h1
    revert h1
    decide)
  rw [List.take_length] at h3
  exact h3

section
variable {w W : World} {p : Nat} {A B : Option Addr} {c d : Nat} {ns : List ByteArray} {us : List Nat}
theorem at_find (hX : At w W p A B c d ns us) (s : ByteArray) {r : Int} (hr : findI ns s = r) : Calls Tryd.prog 20 #[.agg #[.slice A ns.length c, .slice B us.length d], .string s] W fun e w' => e = .returned (.int .i64 r) ∧ Hid (At w w' p A B c d ns us) :=
  (find_any A B ns c us.length d s W hX.lat.names hX.lat.nlen).mono fun e w' ⟨h1, h2⟩ => ⟨by rw [h1, hr], by subst h2; exact hX.later (later_alloc _ _)⟩
theorem At.name {b off : Nat} (hX : At w W p (some ⟨b, off, none⟩) B c d ns us) {k : Nat} (hk : k < ns.length) : W.cell? ⟨b, off + k, none⟩ = some (.string (Lt.nm ns k)) := by
  obtain ⟨b', off', e, _, h⟩ := hX.lat.names (by intro e; subst e; simp at hk)
  cases e
  exact h k hk
end

set_option maxRecDepth 100000 in
set_option maxHeartbeats 4000000 in
theorem latNames_any (x : ByteArray) (A B : Option Addr) (ns : List ByteArray) (us : List Nat) (c d : Nat) (a1 : Int) (w : World) (hE : Env w) (hL : LatAt w A B c ns us) (hs : x.size ≤ 9223372036854775807) (h1 : 0 ≤ a1 ∧ a1 < 256) :
    Calls Tryd.prog 8 #[.string x, .agg #[.slice A ns.length c, .slice B us.length d], .int .u8 a1] w fun e w' => e = .returned (.bool true) ∧ Below w.heap.size w w' := by
  have hX := Lib.hid (At.new (d := d) hE hL)
  have hnl := hL.nlen
  clear hE hL
  go_enter Tryd.func8, Tryd.ntmps8
  go_wp2_with fail
  refine (at_examples hX.out).mono ?_
  rintro e w1 ⟨rfl, hY⟩
  clear hX
  by_cases hz : (1 : Int) ≤ (x.size : Int)
  case neg =>
    have hF : Hid (false = fitsB x 0) := by
      show false = fitsB x 0
      unfold fitsB
      rw [decide_eq_false hz]
      simp
    go_wp2_with fail
    go_loop [8, 9] (fun r i => ∃ k : Nat, k ≤ x.size ∧ i = .int .i64 k ∧ r = .bool (fitsB x k)) (fun _ i => x.size - (intOf i).toNat)
    case atStart => exact ⟨0, Nat.zero_le _, rfl, by rw [← hF.out]⟩
    case round =>
      obtain ⟨k, hk, rfl, rfl⟩ := hrel
      by_cases hlt : k < x.size
      · exact absurd hz (by omega)
      · obtain rfl : k = x.size := by omega
        rw [fits_name]
        clear hlt hk hz hF
        go_wp2_with fail
        refine (name_any x w1 hs).mono ?_
        rintro e w' ⟨rfl, rfl⟩
        generalize nameB x = nb
        have q1 := hY.out.box.1
        have q2 := hY.out.box.2.1
        cases nb
        all_goals
          go_wp2_with fail
          clear q1 q2
          cases hR : rightB ns us with
          | false =>
            refine (at_right hY.out hR).mono ?_
            rintro e w2 ⟨rfl, hX⟩
            clear hY
            go_wp2_with fail
            go_ret
            exact ⟨rfl, hX.out.below⟩
          | true =>
            refine (at_right hY.out hR).mono ?_
            rintro e w2 ⟨rfl, hX⟩
            clear hY
            obtain ⟨r1, r2, r3, r4, r5, r6, r7⟩ := right_parts hR
            obtain ⟨k, ek, hk⟩ := modN a1 r1
            obtain ⟨b, off, rfl, hb, hc⟩ := hX.out.lat.names (by intro e; subst e; simp at r1)
            have hmk := hX.out.lat.smax k
            have F1 := Lib.hid (find_own r4 hk)
            have F2 := Lib.hid (find_none r4)
            have F3 := Lib.hid (named_two r4 hk).1
            have ek := Lib.hid ek
            have hR := Lib.hid hR
            have q1 := hX.out.box.1
            have q2 := hX.out.box.2.1
            clear r2 r3 r4 r5 r6 r7 hb hc
            go_wp2_with fail
            rw [ek.out]
            have kk1 : (0 : Int) ≤ (k : Int) := Int.natCast_nonneg k
            have kk2 : (k : Int) < (ns.length : Int) := by omega
            clear ek h1
            have hO := hX
            clear hX q1 q2
            have hX := Lib.hid hO.out.drew
            clear hO
            have q1 := hX.out.box.1
            have q2 := hX.out.box.2.1
            have q3 := hX.out.name hk
            go_region_held3 (fun w' => w'.cell? ⟨w.heap.size, 0, none⟩ = some (.slice (some ⟨b, off, none⟩) ns.length c) ∧ w'.cell? ⟨w.heap.size, 1, none⟩ = some (.slice B us.length d) ∧ w'.cell? ⟨b, off + k, none⟩ = some (.string (Lt.nm ns k))) (exact ⟨q1, q2, q3⟩) (first | (go_at_call 20; have hO := hX; clear hX q1 q2 q3; refine (at_find hO.out _ rfl).mono ?_; clear hO; rintro e w9 ⟨he, hX⟩; (first | rw [F1.out] at he | rw [F2.out] at he); subst he; have q1 := hX.out.box.1; have q2 := hX.out.box.2.1; have q3 := hX.out.name hk) | (go_at_call 18; refine (name_any _ _ hmk).mono ?_; rintro e w9 ⟨he, rfl⟩; rw [F3.out] at he; subst he))
            all_goals
              go_wp2
              go_ret
              exact ⟨rfl, hX.out.below⟩
  case pos =>
    have hF : Hid (decide ((x.size : Int) ≤ 16) = fitsB x 0) := by
      show _ = fitsB x 0
      unfold fitsB
      rw [decide_eq_true hz]
      simp
    go_wp2_with fail
    rw [hF.out]
    clear hF
    go_loop [8, 9] (fun r i => ∃ k : Nat, k ≤ x.size ∧ i = .int .i64 k ∧ r = .bool (fitsB x k)) (fun _ i => x.size - (intOf i).toNat)
    case atStart => exact ⟨0, Nat.zero_le _, rfl, rfl⟩
    case round =>
      obtain ⟨k, hk, rfl, rfl⟩ := hrel
      by_cases hlt : k < x.size
      · have hN : Hid (fitsB x (k + 1) = (fitsB x k && fitAt x k)) := fits_succ x k
        have hA : Hid (fitAt x k = (letterI (x[k].toNat : Int) || (decide ((0 : Int) < (k : Int)) && digitI (x[k].toNat : Int)))) := by
          show fitAt x k = _
          unfold fitAt
          rw [get_byte x k hlt]
        cases hfk : fitsB x k
        · rw [hfk] at hN
          clear hfk
          go_wp2
          all_goals go_round
          all_goals first | (case rel => exact ⟨k + 1, by omega, by go_num, by rw [hN.out]; rfl⟩) | (case measure => simp [intOf]; omega)
        · rw [hfk] at hN
          clear hfk
          go_wp2
          all_goals go_round
          all_goals first | (case rel => (refine ⟨k + 1, by omega, by go_num, ?_⟩; rw [hN.out, hA.out, Bool.true_and]; congr 1; rw [Bool.eq_iff_iff]; simp [letterI, digitI]; omega)) | (case measure => simp [intOf]; omega)
      · obtain rfl : k = x.size := by omega
        rw [fits_name]
        clear hlt hk hz
        go_wp2_with fail
        refine (name_any x w1 hs).mono ?_
        rintro e w' ⟨rfl, rfl⟩
        generalize nameB x = nb
        have q1 := hY.out.box.1
        have q2 := hY.out.box.2.1
        cases nb
        all_goals
          go_wp2_with fail
          clear q1 q2
          cases hR : rightB ns us with
          | false =>
            refine (at_right hY.out hR).mono ?_
            rintro e w2 ⟨rfl, hX⟩
            clear hY
            go_wp2_with fail
            go_ret
            exact ⟨rfl, hX.out.below⟩
          | true =>
            refine (at_right hY.out hR).mono ?_
            rintro e w2 ⟨rfl, hX⟩
            clear hY
            obtain ⟨r1, r2, r3, r4, r5, r6, r7⟩ := right_parts hR
            obtain ⟨k, ek, hk⟩ := modN a1 r1
            obtain ⟨b, off, rfl, hb, hc⟩ := hX.out.lat.names (by intro e; subst e; simp at r1)
            have hmk := hX.out.lat.smax k
            have F1 := Lib.hid (find_own r4 hk)
            have F2 := Lib.hid (find_none r4)
            have F3 := Lib.hid (named_two r4 hk).1
            have ek := Lib.hid ek
            have hR := Lib.hid hR
            have q1 := hX.out.box.1
            have q2 := hX.out.box.2.1
            clear r2 r3 r4 r5 r6 r7 hb hc
            go_wp2_with fail
            rw [ek.out]
            have kk1 : (0 : Int) ≤ (k : Int) := Int.natCast_nonneg k
            have kk2 : (k : Int) < (ns.length : Int) := by omega
            clear ek h1
            have hO := hX
            clear hX q1 q2
            have hX := Lib.hid hO.out.drew
            clear hO
            have q1 := hX.out.box.1
            have q2 := hX.out.box.2.1
            have q3 := hX.out.name hk
            go_region_held3 (fun w' => w'.cell? ⟨w.heap.size, 0, none⟩ = some (.slice (some ⟨b, off, none⟩) ns.length c) ∧ w'.cell? ⟨w.heap.size, 1, none⟩ = some (.slice B us.length d) ∧ w'.cell? ⟨b, off + k, none⟩ = some (.string (Lt.nm ns k))) (exact ⟨q1, q2, q3⟩) (first | (go_at_call 20; have hO := hX; clear hX q1 q2 q3; refine (at_find hO.out _ rfl).mono ?_; clear hO; rintro e w9 ⟨he, hX⟩; (first | rw [F1.out] at he | rw [F2.out] at he); subst he; have q1 := hX.out.box.1; have q2 := hX.out.box.2.1; have q3 := hX.out.name hk) | (go_at_call 18; refine (name_any _ _ hmk).mono ?_; rintro e w9 ⟨he, rfl⟩; rw [F3.out] at he; subst he))
            all_goals
              go_wp2
              go_ret
              exact ⟨rfl, hX.out.below⟩
end Go.Proofs.YtjeelebppfhmlaaDoor
