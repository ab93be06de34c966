/-
  lat.least: the first place of a set whose row has all of the set; -1 if there is none. Conditions: words of 64 bits; the set's places are rows.
-/
import Derived.Test.YtlhfdedjboanfaaDoorLtIt
import Derived.Test.YtlhfdedjboanfaaDoorLtRound
namespace Go.Proofs.YtlhfdedjboanfaaDoor.L
open Go.RowKit Go.Shelf Go.Lt
attribute [local go_sem] Oper.semAt_some

theorem cell_of_box {W : World} {B : Nat} {v : Value} {t : TypeId} (h : W.heap[B]? = some (.cells #[v] t (0, 0))) : W.cell? ⟨B, 0, none⟩ = some v ∧ W.frozen? ⟨B, 0, none⟩ = false := by
  constructor <;> simp [World.cell?, World.frozen?, h]

theorem _root_.Go.Boxed.turn {X Y : World} {row : Option Nat} {B : Nat} {t : TypeId} {v : Value} (h : Boxed X B t v) (hg : X.grownBy Y row) (hr : ∀ r, row = some r → ∃ o : Obj, X.heap[r]? = some o ∧ o.isCells = false) : Boxed Y B t v :=
  boxed_own B t (fun (_ : Unit) => v) () X Y row h hg hr

theorem keeps_drewN (W : World) (k : Nat) : KeepsOthers W (W.drewN k) := ⟨Nat.le_refl _, fun _ _ h _ => h⟩
theorem belowN {B : Nat} {X W : World} (h : Below B X W) (k : Nat) : Below B X (W.drewN k) := ⟨h.os, h.tape, h.output, h.size, h.block⟩
theorem _root_.Go.Boxed.drewN {W : World} {B : Nat} {t : TypeId} {v : Value} (h : Boxed W B t v) (k : Nat) : Boxed (W.drewN k) B t v := h
theorem least_none {us : List Nat} {set : Nat} {ys : List (PAt set)} (he : ys.map (·.1) = places set) (h : ∀ y ∈ ys, leastP us set y.1 = false) : least us set = -1 := by
  have h2 : (places set).find? (leastP us set) = none := by
    rw [List.find?_eq_none]
    intro a ha
    rw [← he, List.mem_map] at ha
    obtain ⟨y, hy, rfl⟩ := ha
    simp [h y hy]
  unfold least
  rw [h2]
theorem least_some {us : List Nat} {set : Nat} {p : List (PAt set)} {x : PAt set} (he : (p ++ [x]).map (·.1) <+: places set) (h : ∀ y ∈ p, leastP us set y.1 = false) (hx : leastP us set x.1 = true) : least us set = ((x.1 : Nat) : Int) := by
  obtain ⟨r, hr⟩ := he
  have h2 : (places set).find? (leastP us set) = some x.1 := by
    rw [← hr, List.map_append, List.find?_append, List.find?_append]
    have h3 : (p.map (·.1)).find? (leastP us set) = none := by
      rw [List.find?_eq_none]
      intro a ha
      rw [List.mem_map] at ha
      obtain ⟨y, hy, rfl⟩ := ha
      simp [h y hy]
    rw [h3]
    simp [hx]
  unfold least
  rw [h2]

set_option maxRecDepth 100000 in
set_option maxHeartbeats 2000000 in
theorem least_any (A : Option Addr) (us : List Nat) (c set : Nat) (w : World) (hE : Env w) (hU : Words w w.heap.size A us) (h64 : W64 us) (hset : set < 18446744073709551616) (hl : us.length ≤ 64) (hin : ∀ b, set.testBit b = true → b < us.length) :
    Calls Tryd.prog 54 #[.slice A us.length c, .int .u64 set] w fun e w' => e = .returned (.int .i64 (least us set)) ∧ Below w.heap.size w w' := by
  refine (callsIn_wide (n := 6)).1 ?_
  refine callsIn_of_wp_marks Tryd.func54 rfl trivial ?_ rfl
  simp only [Tryd.ntmps54, List.size_toArray, List.length_cons, List.length_nil, Nat.reduceAdd, Nat.reduceSub, Array.replicate_succ, Array.replicate_zero, List.push_toArray, List.append_toArray, List.nil_append, List.cons_append]
  gi_wp2_with (refine ⟨trivial, ?_⟩; gi_at_call 75; refine (callsIn_wide.2 (places_any set _)).mono ?_; rintro e w' ⟨rfl, rfl⟩)
  generalize hn0 : w.heap.size = n0 at *
  obtain ⟨W4, hW4⟩ : ∃ W4, (((w.alloc (.cells #[.slice A us.length c] 23)).alloc (.cells #[.int .u64 set] 72)).alloc (.cells #[.int .i64 0] 3)).alloc (.cells #[.int .u64 set] 72) = W4 := ⟨_, rfl⟩
  have hB4 : Below n0 w W4 := by
    subst hn0
    rw [← hW4]
    exact ((((Below.refl _ w).alloc (Nat.le_refl _) _).alloc (by simp) _).alloc (by simp; omega) _).alloc (by simp; omega) _
  have hsz : W4.heap.size = n0 + 4 := by rw [← hW4, ← hn0]; simp
  have b0 : Boxed W4 n0 23 (.slice A us.length c) := by
    rw [← hW4, ← hn0]; exact (((Boxed.new w _ _).alloc _).alloc _).alloc _
  have b1 : Boxed W4 (n0 + 1) 72 (.int .u64 set) := by
    rw [← hW4, ← hn0]
    have := Boxed.new (w.alloc (.cells #[.slice A us.length c] 23)) 72 (.int .u64 set)
    rw [World.size_alloc] at this
    exact (this.alloc _).alloc _
  have b2 : Boxed W4 (n0 + 2) 3 (.int .i64 0) := by
    rw [← hW4, ← hn0]
    have := Boxed.new ((w.alloc (.cells #[.slice A us.length c] 23)).alloc (.cells #[.int .u64 set] 72)) 3 (.int .i64 0)
    simp only [World.size_alloc] at this
    exact this.alloc _
  have b3 : Boxed W4 (n0 + 3) 72 (.int .u64 set) := by
    rw [← hW4, ← hn0]
    have := Boxed.new (((w.alloc (.cells #[.slice A us.length c] 23)).alloc (.cells #[.int .u64 set] 72)).alloc (.cells #[.int .i64 0] 3)) 72 (.int .u64 set)
    simp only [World.size_alloc] at this
    exact this
  have h4 : 1 ≤ n0 := by rw [← hn0]; exact hE.four
  have hE4 : Env W4 := hE.below h4 hB4
  have hle : n0 ≤ w.heap.size := by omega
  have HN : Hid (w.heap.size = n0) := hn0
  rw [hW4]
  clear hW4 hn0
  refine wpIn_rangeFunc_ownF rfl (by omega) (gf := 83) (lb := #[.pointer (some ⟨n0 + 1 + 1 + 1, 0, none⟩)]) rfl trivial (enters_of Tryd.func83 (by kernel_rfl) rfl)
    (it_stops 5 (n0 + 3) n0 (by omega) set hset W4 (by omega) b3.cell hE4 h4) belowK_t (belowK_b (by omega)) (Below.refl _ _) (fun _ => rfl)
    (fun pre W => ((Boxed W n0 23 (.slice A us.length c) ∧ Boxed W (n0 + 1) 72 (.int .u64 set) ∧ Boxed W (n0 + 2) 3 (.int .i64 0)) ∧ Hid (∀ y ∈ pre, leastP us set y.1 = false)) ∧ Below n0 w W)
    (fun c pre W => (c = .ret ∧ ∃ p x, pre = p ++ [x] ∧ Hid (∀ y ∈ p, leastP us set y.1 = false) ∧ leastP us set x.1 = true ∧ Boxed W (n0 + 2) 3 (.int .i64 ((x.1 : Nat) : Int))) ∧ Below n0 w W)
    (OwnFrom.and (Own.from (fun s X Y row hs hg hr => ⟨⟨hs.1.1.turn hg hr, hs.1.2.1.turn hg hr, hs.1.2.2.turn hg hr⟩, hs.2⟩) _) (ownFrom_below (by omega) (by omega)))
    (fun c => OwnFrom.and (Own.from (fun s X Y row hs hg hr => by
      obtain ⟨h1, p, x, h2, h3, h5, h6⟩ := hs
      exact ⟨h1, p, x, h2, h3, h5, h6.turn hg hr⟩) _) (ownFrom_below (by omega) (by omega)))
    ⟨⟨⟨b0, b1, b2⟩, fun y hy => by cases hy⟩, hB4⟩
    (fun x => { tmps := #[.slice A us.length c, .int .u64 set, .pointer (some ⟨n0, 0, none⟩), .pointer (some ⟨n0 + 1, 0, none⟩), .pointer (some ⟨n0 + 1 + 1, 0, none⟩), .int .i64 ((x.1 : Nat) : Int), .int .u64 set, .func (.func 83) #[] #[.pointer (some ⟨n0 + 1 + 1 + 1, 0, none⟩)], .int .i64 ((x.1 : Nat) : Int), undef, undef, undef, undef, undef, undef, undef, undef], defers := [] }) ?assign ?body ?done ?stop
  case assign =>
    intro l x W K hK
    gi_wp2
    exact hK
  case body =>
    rintro l pre ⟨x, hx⟩ W ⟨⟨⟨c0, c1, c2⟩, hp⟩, hB⟩ _
    have hlt := hin x hx
    obtain ⟨b, off, rfl, hb, hc⟩ := hU (by intro e; subst e; simp at hlt)
    have hck := (hB.cell (p := ⟨b, off + x, none⟩) hb).trans (hc x hlt)
    have v0 := c0.cell
    have v1 := c1.cell
    have v2 := c2.cell
    have f2 := c2.frozen
    have hr := h64 x
    have hbits := u64_andNot_nat set (row us x) hset hr
    clear hc
    by_cases hs : leastP us set x = true
    · have hz : (bits BinOp.andNot IntKind.u64 (set : Nat) (row us x : Nat) == 0) = true := by
        rw [hbits]; unfold leastP sub at hs; have := beq_iff_eq.1 hs; rw [beq_iff_eq]; omega
      have HS := Lib.hid hs
      clear hbits hs
      gi_wp2
      refine wpIn_round_quiet (by kernel_rfl) (by kernel_rfl) (by kernel_rfl) ?_
      repeat (gi_big_quiet_step (fail))
      refine wpQuietIn_nil ?_
      rintro _ ⟨nq, rfl⟩
      gi_wp2
      exact ⟨(keeps_drewN W nq).trans (KeepsOthers.setCell _ _ _), ⟨rfl, pre, ⟨x, hx⟩, rfl, hp, HS.out, (c2.drewN nq).set _⟩, (belowN hB nq).setCell (p := ⟨n0 + 1 + 1, 0, none⟩) (by simp; omega) _⟩
    · have hs : leastP us set x = false := by simpa using hs
      have hz : (bits BinOp.andNot IntKind.u64 (set : Nat) (row us x : Nat) == 0) = false := by
        rw [hbits]; unfold leastP sub at hs; have := beq_eq_false_iff_ne.1 hs; rw [beq_eq_false_iff_ne]; omega
      have hp2 : Hid (∀ y ∈ pre ++ [(⟨x, hx⟩ : PAt set)], leastP us set y.1 = false) := fun y hy => by
        rcases List.mem_append.1 hy with h | h
        · exact hp.out y h
        · obtain rfl := List.mem_singleton.1 h
          exact hs
      clear hbits hs
      gi_wp2
      refine wpIn_round_quiet (by kernel_rfl) (by kernel_rfl) (by kernel_rfl) ?_
      repeat (gi_big_quiet_step (fail))
      refine wpQuietIn_nil ?_
      rintro _ ⟨nq, rfl⟩
      gi_wp2
      exact ⟨keeps_drewN _ _, belowN (Below.refl _ _) _, ⟨⟨c0, c1, c2⟩, hp2⟩, belowN hB _⟩
  case done =>
    rintro D ys W hD hys ⟨⟨⟨_, _, c2⟩, hp⟩, hB⟩ hK
    have v2 := c2.cell
    have f2 := c2.frozen
    gi_wp2
    have hK2 := (KeepsOthers.setCell W ⟨n0 + 1 + 1, 0, none⟩ (.int .i64 (-1))).same D _ hK rfl
    have hr := (c2.set (.int .i64 (-1))).turn (grownBy_putObj' _ D (.deferred none)) (fun r e => by cases e; exact ⟨_, hK2, rfl⟩)
    have hr2 : ((W.setCell ⟨n0 + 1 + 1, 0, none⟩ (.int .i64 (-1))).putObj D (.deferred none)).cell? ⟨n0 + 1 + 1, 0, none⟩ = some (.int .i64 (-1)) := hr.cell
    refine ⟨by simp, .inl ⟨_, _, rfl, run_takeDeferred hK2, ?_⟩⟩
    refine ⟨.int .i64 (-1), ?_, ret_int (least_none hys hp.out).symm, ?_⟩
    · simp [results, Tryd.f54, go_sem, hr2]
    · rw [HN.out]
      exact (hB.setCell (p := ⟨n0 + 1 + 1, 0, none⟩) (by simp; omega) _).trans (belowK_b (w := W4) (by omega) _ D _ _ hD hK2 rfl rfl)
  case stop =>
    rintro D cc pre W hD hpre ⟨⟨rfl, p, x, rfl, hp, hx, c2⟩, hB⟩ hK
    have v2 := c2.cell
    gi_wp2
    have hr := c2.turn (grownBy_putObj' _ D (.deferred none)) (fun r e => by cases e; exact ⟨_, hK, rfl⟩)
    have hr2 : (W.putObj D (.deferred none)).cell? ⟨n0 + 1 + 1, 0, none⟩ = some (.int .i64 ((x.1 : Nat) : Int)) := hr.cell
    refine ⟨by simp, .inl ⟨_, _, rfl, run_takeDeferred hK, ?_⟩⟩
    refine ⟨.int .i64 ((x.1 : Nat) : Int), ?_, ret_int (least_some hpre hp.out hx).symm, ?_⟩
    · simp [results, Tryd.f54, go_sem, hr2]
    · rw [HN.out]
      exact hB.trans (belowK_b (w := W4) (by omega) _ D _ _ hD hK rfl rfl)
end Go.Proofs.YtlhfdedjboanfaaDoor.L
