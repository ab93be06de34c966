/-
  The walks of the statements' refLat and same. Conditions: the lattices can be read; for same: both are the same lattice.
-/
import Derived.Test.YtieamjpfmjkchaaDoorLtRf9
namespace Go.Proofs.YtieamjpfmjkchaaDoor
open Go.RowKit Go.Shelf Go.Lt

theorem reflat_any (A B : Option Addr) (n m c d : Nat) (w : World) :
    Calls Tryd.prog 11 #[.agg #[.slice A n c, .slice B m d]] w fun e w' => e = .returned (.agg #[.slice A n c, .slice B m d]) ∧ Below w.heap.size w w' := by
  have hb := (later_alloc w (.cells #[.slice A n c, .slice B m d] 25)).alloc (o := .cells #[.slice A n c, .slice B m d] 27) (by simp)
  have x := Box2.new (w.alloc (.cells #[.slice A n c, .slice B m d] 25)) (.slice A n c) (.slice B m d) 27
  have x0 := x.1
  have x1 := x.2.1
  rw [World.size_alloc] at x0 x1
  replace hb := Lib.hid hb
  replace x0 := Lib.hid x0
  replace x1 := Lib.hid x1
  clear x
  go_enter Tryd.func11, Tryd.ntmps11
  go_wp2_with fail
  refine bodyPost_ret (v := .agg #[.slice A n c, .slice B m d]) ?_ rfl ?_
  · have x0 := x0.out
    have x1 := x1.out
    generalize ((w.alloc (.cells #[.slice A n c, .slice B m d] 25)).alloc (.cells #[.slice A n c, .slice B m d] 27)) = W9 at x0 x1 ⊢
    simp [results, Tryd.f11, go_sem, x0, x1]
  · exact ⟨rfl, hb.out⟩

set_option maxRecDepth 100000 in
set_option maxHeartbeats 1000000 in
theorem same_any (A B A2 B2 : Option Addr) (ns : List ByteArray) (us : List Nat) (c d c2 d2 : Nat) (w : World) (hL : LatAt w A B c ns us) (hL2 : LatAt w A2 B2 c2 ns us) :
    Calls Tryd.prog 14 #[.agg #[.slice A ns.length c, .slice B us.length d], .agg #[.slice A2 ns.length c2, .slice B2 us.length d2]] w fun e w' => e = .returned (.bool true) ∧ Below w.heap.size w w' := by
  have h0 := later_alloc w (.cells #[.slice A ns.length c, .slice B us.length d] 25)
  have h1 := later_alloc (w.alloc (.cells #[.slice A ns.length c, .slice B us.length d] 25)) (.cells #[.slice A2 ns.length c2, .slice B2 us.length d2] 27)
  have x1 := (Box2.new w (.slice A ns.length c) (.slice B us.length d) 25).later h1
  have x2 := Box2.new (w.alloc (.cells #[.slice A ns.length c, .slice B us.length d] 25)) (.slice A2 ns.length c2) (.slice B2 us.length d2) 27
  rw [World.size_alloc] at x2
  have hb := h0.trans (h1.mono h0.size)
  have hT : Hid (∀ W, Below w.heap.size w W → LatAt W A B c ns us ∧ LatAt W A2 B2 c2 ns us) := fun W h => ⟨hL.later h, hL2.later h⟩
  have hnl := hL.nlen
  have hul := hL.ulen
  replace x1 := Lib.hid x1
  replace x2 := Lib.hid x2
  replace hb := Lib.hid hb
  clear hL hL2 h0 h1
  go_enter Tryd.func14, Tryd.ntmps14
  go_wp2_with fail
  go_loopw [5] (fun i wr => ∃ k : Nat, k ≤ ns.length ∧ i = .int .i64 k ∧ Hid (Box2 wr w.heap.size (.slice A ns.length c) (.slice B us.length d)) ∧ Hid (Box2 wr (w.heap.size + 1) (.slice A2 ns.length c2) (.slice B2 us.length d2)) ∧ Hid (Below w.heap.size w wr)) (fun i _ => ns.length - (intOf i).toNat)
  case atStart => exact ⟨0, Nat.zero_le _, rfl, x1, x2, hb⟩
  case round =>
    clear x1 x2 hb
    obtain ⟨k, hk, rfl, x1, x2, hb⟩ := hrel
    have q1 := x1.out.1
    have q2 := x1.out.2.1
    have q3 := x2.out.1
    have q4 := x2.out.2.1
    by_cases hlt : k < ns.length
    · obtain ⟨l1, l2⟩ := hT.out wr hb.out
      obtain ⟨b, off, rfl, hbb, hc⟩ := l1.names (by intro e; subst e; simp at hlt)
      obtain ⟨b2, off2, rfl, hbb2, hc2⟩ := l2.names (by intro e; subst e; simp at hlt)
      have g1 := hc k hlt
      have g2 := hc2 k hlt
      clear hc hc2 l1 l2
      generalize Lt.nm ns k = X0 at g1 g2
      go_wp2_with fail
      go_quiet (fail)
      all_goals go_wp2
      all_goals go_roundw
      case rel => exact ⟨k + 1, by omega, by go_num, x1, x2, belowN hb.out _⟩
      case measure => simp [intOf]; omega
    · go_wp2_with fail
      go_loopw [6] (fun i wr => ∃ k : Nat, k ≤ us.length ∧ i = .int .i64 k ∧ Hid (Box2 wr w.heap.size (.slice A ns.length c) (.slice B us.length d)) ∧ Hid (Box2 wr (w.heap.size + 1) (.slice A2 ns.length c2) (.slice B2 us.length d2)) ∧ Hid (Below w.heap.size w wr)) (fun i _ => us.length - (intOf i).toNat)
      case atStart => exact ⟨0, Nat.zero_le _, rfl, x1, x2, hb⟩
      case round =>
        clear x1 x2 hb q1 q2 q3 q4
        obtain ⟨k, hk, rfl, x1, x2, hb⟩ := hrel
        have q1 := x1.out.1
        have q2 := x1.out.2.1
        have q3 := x2.out.1
        have q4 := x2.out.2.1
        by_cases hlt : k < us.length
        · obtain ⟨l1, l2⟩ := hT.out wr hb.out
          obtain ⟨b, off, rfl, hbb, hc⟩ := l1.words (by intro e; subst e; simp at hlt)
          obtain ⟨b2, off2, rfl, hbb2, hc2⟩ := l2.words (by intro e; subst e; simp at hlt)
          have g1 := hc k hlt
          have g2 := hc2 k hlt
          clear hc hc2 l1 l2
          generalize Lt.row us k = X0 at g1 g2
          go_wp2_with fail
          go_quiet (fail)
          all_goals go_wp2
          all_goals go_roundw
          case rel => exact ⟨k + 1, by omega, by go_num, x1, x2, belowN hb.out _⟩
          case measure => simp [intOf]; omega
        · go_wp2_with fail
          go_ret
          exact ⟨rfl, hb.out⟩
end Go.Proofs.YtieamjpfmjkchaaDoor
