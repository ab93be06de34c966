/-
  What is known of a lattice while a statement is asked of it, and what each call answers then. Conditions: the library's variables lie as laid; the lattice can be read.
-/
import Derived.Test.YtieamjpfmjkchaaDoorLtEx
import Derived.Test.YtieamjpfmjkchaaDoorLtOrder
namespace Go.Proofs.YtieamjpfmjkchaaDoor
open Go.RowKit Go.Shelf Go.Lt

structure At (w W : World) (p : Nat) (A B : Option Addr) (c d : Nat) (ns : List ByteArray) (us : List Nat) : Prop where
  below : Below w.heap.size w W
  env : Env W
  box : Box2 W p (.slice A ns.length c) (.slice B us.length d)
  lat : LatAt W A B c ns us
variable {w W : World} {p : Nat} {A B : Option Addr} {c d : Nat} {ns : List ByteArray} {us : List Nat}
theorem At.later {W' : World} (h : At w W p A B c d ns us) (hb : Below W.heap.size W W') : At w W' p A B c d ns us :=
  ⟨h.below.trans (hb.mono h.below.size), h.env.later hb, h.box.later hb, h.lat.later hb⟩
theorem At.drew (h : At w W p A B c d ns us) : At w W.drew p A B c d ns us := h.later (Below.refl _ _).drew
theorem At.new (hE : Env w) (hL : LatAt w A B c ns us) : At w (w.alloc (.cells #[.slice A ns.length c, .slice B us.length d] 25)) w.heap.size A B c d ns us :=
  ⟨later_alloc _ _, hE.later (later_alloc _ _), Box2.new w _ _ _, hL.later (later_alloc _ _)⟩

theorem at_examples (hX : At w W p A B c d ns us) : Calls Tryd.prog 10 #[] W fun e w' => e = .returned (.bool true) ∧ Hid (At w w' p A B c d ns us) :=
  (examples_any W hX.env).mono fun _ _ ⟨h1, h2⟩ => ⟨h1, hX.later h2⟩
theorem at_right (hX : At w W p A B c d ns us) {r : Bool} (hr : rightB ns us = r) : Calls Tryd.prog 15 #[.agg #[.slice A ns.length c, .slice B us.length d]] W fun e w' => e = .returned (.bool r) ∧ Hid (At w w' p A B c d ns us) :=
  (right_any A B ns us c d W hX.env hX.lat).mono fun _ _ ⟨h1, h2⟩ => ⟨by rw [h1, hr], hX.later h2⟩
theorem at_leq (hX : At w W p A B c d ns us) (a b : Int) {r : Bool} (hr : leqB ns.length us a b = r) : Calls Tryd.prog 17 #[.agg #[.slice A ns.length c, .slice B us.length d], .int .i64 a, .int .i64 b] W fun e w' => e = .returned (.bool r) ∧ Hid (At w w' p A B c d ns us) :=
  (leq_any A B us ns.length c d a b W hX.lat.words hX.lat.w64 hX.lat.ulen).mono fun _ _ ⟨h1, h2⟩ => ⟨by rw [h1, hr], hX.later h2⟩
theorem at_join (hX : At w W p A B c d ns us) (a b : Int) {r : Int} (hr : joinI ns us a b = r) : Calls Tryd.prog 23 #[.agg #[.slice A ns.length c, .slice B us.length d], .int .i64 a, .int .i64 b] W fun e w' => e = .returned (.int .i64 r) ∧ Hid (At w w' p A B c d ns us) :=
  (join_any A B ns us c d a b W hX.env hX.lat).mono fun _ _ ⟨h1, h2⟩ => ⟨by rw [h1, hr], hX.later h2⟩
theorem at_meet (hX : At w W p A B c d ns us) (a b : Int) {r : Int} (hr : meetI ns us a b = r) : Calls Tryd.prog 25 #[.agg #[.slice A ns.length c, .slice B us.length d], .int .i64 a, .int .i64 b] W fun e w' => e = .returned (.int .i64 r) ∧ Hid (At w w' p A B c d ns us) :=
  (meet_any A B ns us c d a b W hX.env hX.lat).mono fun _ _ ⟨h1, h2⟩ => ⟨by rw [h1, hr], hX.later h2⟩
theorem at_bottom (hX : At w W p A B c d ns us) {r : Int} (hr : bottomI ns us = r) : Calls Tryd.prog 27 #[.agg #[.slice A ns.length c, .slice B us.length d]] W fun e w' => e = .returned (.int .i64 r) ∧ Hid (At w w' p A B c d ns us) :=
  (bottom_any A B ns us c d W hX.env hX.lat).mono fun _ _ ⟨h1, h2⟩ => ⟨by rw [h1, hr], hX.later h2⟩
theorem at_top (hX : At w W p A B c d ns us) {r : Int} (hr : topI ns us = r) : Calls Tryd.prog 29 #[.agg #[.slice A ns.length c, .slice B us.length d]] W fun e w' => e = .returned (.int .i64 r) ∧ Hid (At w w' p A B c d ns us) :=
  (top_any A B ns us c d W hX.env hX.lat).mono fun _ _ ⟨h1, h2⟩ => ⟨by rw [h1, hr], hX.later h2⟩
theorem at_no (hX : At w W p A B c d ns us) (hr : rightB ns us = false) : Calls Tryd.prog 31 #[.agg #[.slice A ns.length c, .slice B us.length d]] W fun e w' => e = .returned (.string ⟨#[]⟩) ∧ Hid (At w w' p A B c d ns us) :=
  (print_no A B ns us c d W hX.env hX.lat hr).mono fun _ _ ⟨h1, h2⟩ => ⟨h1, hX.later h2⟩

theorem no_join {a b : Int} (h : rightB ns us = false) : joinI ns us a b = -1 := by unfold joinI; simp [h]
theorem no_meet {a b : Int} (h : rightB ns us = false) : meetI ns us a b = -1 := by unfold meetI; simp [h]
theorem no_bottom (h : rightB ns us = false) : bottomI ns us = -1 := by unfold bottomI; simp [h]
theorem no_top (h : rightB ns us = false) : topI ns us = -1 := by unfold topI; simp [h]
theorem modN (a : Int) {n : Nat} (hn : 1 ≤ n) : ∃ x : Nat, a % (n : Int) = (x : Int) ∧ x < n := by
  have h1 := Int.emod_nonneg a (b := (n : Int)) (by omega)
  have h2 := Int.emod_lt_of_pos a (b := (n : Int)) (by omega)
  exact ⟨(a % (n : Int)).toNat, by omega, by omega⟩
theorem Told.modN {J M : Nat → Nat → Nat} {z t : Nat} (h : Told ns us J M z t) (a : Int) : ∃ x : Nat, a % (ns.length : Int) = (x : Int) ∧ x < us.length := by
  have := h.eqn
  have := h.pos
  obtain ⟨x, h1, h2⟩ := Go.Proofs.YtieamjpfmjkchaaDoor.modN a (n := ns.length) (by omega)
  exact ⟨x, h1, by omega⟩
theorem Told.le {J M : Nat → Nat → Nat} {z t : Nat} (h : Told ns us J M z t) {a b : Nat} {r : Bool} (hr : le us a b = r) (ha : a < us.length) (hb : b < us.length) : leqB ns.length us (a : Int) (b : Int) = r := by rw [h.leq a b ha hb, hr]
theorem far_no {a : Int} : leqB ns.length us a (ns.length : Int) = false := by
  unfold leqB pointB; simp
theorem low_no {b : Int} : leqB ns.length us (-1) b = false := by
  unfold leqB pointB; simp
theorem Told.z_lt {J M : Nat → Nat → Nat} {z t : Nat} (h : Told ns us J M z t) : z < us.length := le_left (h.isZ 0 h.pos)
theorem Told.t_lt {J M : Nat → Nat → Nat} {z t : Nat} (h : Told ns us J M z t) : t < us.length := (h.lat.ord.inn _ _ (h.isT 0 h.pos)).2
theorem le_tr {J M : Nat → Nat → Nat} {z t : Nat} (h : Told ns us J M z t) {a b : Nat} (e : le us a b = true) : le (turnedL us) b a = true := by
  rw [le_turned us _ _ h.lat.ord.inn]; exact e
theorem le_rt {J M : Nat → Nat → Nat} {z t : Nat} (h : Told ns us J M z t) {a b : Nat} (e : le (turnedL us) b a = true) : le us a b = true := by
  rw [le_turned us _ _ h.lat.ord.inn] at e; exact e
end Go.Proofs.YtieamjpfmjkchaaDoor
