/-
  LatTells's walk: true of whatever lattice, points, name and text of at most 2^32 bytes. Conditions: the library's variables lie as laid; the lattice can be read.
-/
import Derived.Test.YtieamjpfmjkchaaDoorLtRfA
import Derived.Deep.RegionHeld3
import Derived.Deep.DrawnRows
namespace Go.Proofs.YtieamjpfmjkchaaDoor
open Go.RowKit Go.Shelf Go.Lt
attribute [local go_sem ↓] Go.wp_at_zero Go.wp_at_succ

def resN (s : ByteArray) : List ByteArray := if parseErr s = 0 then pnames s else []
def resU (s : ByteArray) : List Nat := if parseErr s = 0 then prows s else []
theorem LatAt.nil (W : World) : LatAt W none none 0 [] [] :=
  ⟨Strs.nil _ _ _, Words.nil _ _ _, W64.of (by simp), fun j => by show (ByteArray.empty).size ≤ 9223372036854775807; decide, by decide, by decide, by decide, by decide⟩
def LatRes (s : ByteArray) (w : World) (e : Ending) (w' : World) : Prop :=
  Below w.heap.size w w' ∧ ∃ A B c d, e = .returned (.tuple #[.agg #[.slice A (resN s).length c, .slice B (resU s).length d], .int .i64 (parseErr s : Nat)]) ∧ LatAt w' A B c (resN s) (resU s)
theorem parse_res (s : ByteArray) (w : World) (hE : Env w) (hs : s.size < 4294967281) : Calls Tryd.prog 12 #[.string s] w (LatRes s w) :=
  (parse_any s w hE hs).mono fun e w' ⟨h1, h2⟩ => by
    refine ⟨h1, ?_⟩
    rcases h2 with ⟨h3, A, B, h4, h5⟩ | ⟨h3, h4⟩
    · refine ⟨A, B, (pnames s).length, (prows s).length, ?_, ?_⟩
      · unfold resN resU; rw [if_pos h3, if_pos h3, h3]; exact h4
      · unfold resN resU; rw [if_pos h3, if_pos h3]; exact h5
    · refine ⟨none, none, 0, 0, ?_, ?_⟩
      · unfold resN resU; rw [if_neg h3, if_neg h3]; exact h4
      · unfold resN resU; rw [if_neg h3, if_neg h3]; exact LatAt.nil _
theorem refparse_res (s : ByteArray) (w : World) (hE : Env w) (hs : s.size < 4294967281) : Calls Tryd.prog 13 #[.string s] w (LatRes s w) :=
  (refparse_any s w hE hs).mono fun e w' ⟨h1, h2⟩ => by
    refine ⟨h1, ?_⟩
    rcases h2 with ⟨h3, A, B, c, d, h4, h5⟩ | ⟨h3, h4⟩
    · refine ⟨A, B, c, d, ?_, ?_⟩
      · unfold resN resU; rw [if_pos h3, if_pos h3, h3]; exact h4
      · unfold resN resU; rw [if_pos h3, if_pos h3]; exact h5
    · refine ⟨none, none, 0, 0, ?_, ?_⟩
      · unfold resN resU; rw [if_neg h3, if_neg h3]; exact h4
      · unfold resN resU; rw [if_neg h3, if_neg h3]; exact LatAt.nil _

def prV (ns : List ByteArray) (us : List Nat) : ByteArray := if rightB ns us then ⟨(printL ns us).toArray⟩ else ⟨#[]⟩

/-- what is known while the two are held against each other -/
structure Tl (w W : World) (p p2 p3 p4 : Nat) (A B xA xB yA yB : Option Addr) (c d xc xd yc yd : Nat) (ns xn : List ByteArray) (us xu : List Nat) : Prop where
  below : Below w.heap.size w W
  env : Env W
  b1 : Box2 W p (.slice A ns.length c) (.slice B us.length d)
  b2 : Box2 W p2 (.slice A ns.length c) (.slice B us.length d)
  b3 : Box2 W p3 (.slice xA xn.length xc) (.slice xB xu.length xd)
  b4 : Box2 W p4 (.slice yA xn.length yc) (.slice yB xu.length yd)
  lat : LatAt W A B c ns us
  lx : LatAt W xA xB xc xn xu
  ly : LatAt W yA yB yc xn xu
section
variable {w W : World} {p p2 p3 p4 : Nat} {A B xA xB yA yB : Option Addr} {c d xc xd yc yd : Nat} {ns xn : List ByteArray} {us xu : List Nat}
theorem Tl.later {W' : World} (h : Tl w W p p2 p3 p4 A B xA xB yA yB c d xc xd yc yd ns xn us xu) (hb : Below W.heap.size W W') : Tl w W' p p2 p3 p4 A B xA xB yA yB c d xc xd yc yd ns xn us xu :=
  ⟨h.below.trans (hb.mono h.below.size), h.env.later hb, h.b1.later hb, h.b2.later hb, h.b3.later hb, h.b4.later hb, h.lat.later hb, h.lx.later hb, h.ly.later hb⟩
theorem Tl.drew (h : Tl w W p p2 p3 p4 A B xA xB yA yB c d xc xd yc yd ns xn us xu) : Tl w W.drew p p2 p3 p4 A B xA xB yA yB c d xc xd yc yd ns xn us xu := h.later (Below.refl _ _).drew
theorem Tl.cells (h : Tl w W p p2 p3 p4 A B xA xB yA yB c d xc xd yc yd ns xn us xu) :
    W.cell? ⟨p, 0, none⟩ = some (.slice A ns.length c) ∧ W.cell? ⟨p, 1, none⟩ = some (.slice B us.length d) ∧ W.cell? ⟨p2, 0, none⟩ = some (.slice A ns.length c) ∧ W.cell? ⟨p2, 1, none⟩ = some (.slice B us.length d) ∧ W.cell? ⟨p3, 0, none⟩ = some (.slice xA xn.length xc) ∧ W.cell? ⟨p3, 1, none⟩ = some (.slice xB xu.length xd) ∧ W.cell? ⟨p4, 0, none⟩ = some (.slice yA xn.length yc) ∧ W.cell? ⟨p4, 1, none⟩ = some (.slice yB xu.length yd) :=
  ⟨h.b1.1, h.b1.2.1, h.b2.1, h.b2.2.1, h.b3.1, h.b3.2.1, h.b4.1, h.b4.2.1⟩
end
section
variable {w W : World} {p p2 p3 p4 : Nat} {A B xA xB yA yB : Option Addr} {c d xc xd yc yd : Nat} {ns xn : List ByteArray} {us xu : List Nat}
theorem tl_same (hX : Tl w W p p2 p3 p4 A B xA xB yA yB c d xc xd yc yd ns xn us xu) : Calls Tryd.prog 14 #[.agg #[.slice xA xn.length xc, .slice xB xu.length xd], .agg #[.slice yA xn.length yc, .slice yB xu.length yd]] W fun e w' => e = .returned (.bool true) ∧ Hid (Tl w w' p p2 p3 p4 A B xA xB yA yB c d xc xd yc yd ns xn us xu) :=
  (same_any xA xB yA yB xn xu xc xd yc yd W hX.lx hX.ly).mono fun _ _ ⟨h1, h2⟩ => ⟨h1, hX.later h2⟩
theorem tl_right (hX : Tl w W p p2 p3 p4 A B xA xB yA yB c d xc xd yc yd ns xn us xu) {r : Bool} (hr : rightB ns us = r) : Calls Tryd.prog 15 #[.agg #[.slice A ns.length c, .slice B us.length d]] W fun e w' => e = .returned (.bool r) ∧ Hid (Tl w w' p p2 p3 p4 A B xA xB yA yB c d xc xd yc yd ns xn us xu) :=
  (right_any A B ns us c d W hX.env hX.lat).mono fun _ _ ⟨h1, h2⟩ => ⟨by rw [h1, hr], hX.later h2⟩
theorem tl_leq (hX : Tl w W p p2 p3 p4 A B xA xB yA yB c d xc xd yc yd ns xn us xu) (a b : Int) {r : Bool} (hr : leqB ns.length us a b = r) : Calls Tryd.prog 17 #[.agg #[.slice A ns.length c, .slice B us.length d], .int .i64 a, .int .i64 b] W fun e w' => e = .returned (.bool r) ∧ Hid (Tl w w' p p2 p3 p4 A B xA xB yA yB c d xc xd yc yd ns xn us xu) :=
  (leq_any A B us ns.length c d a b W hX.lat.words hX.lat.w64 hX.lat.ulen).mono fun _ _ ⟨h1, h2⟩ => ⟨by rw [h1, hr], hX.later h2⟩
theorem tl_name (hX : Tl w W p p2 p3 p4 A B xA xB yA yB c d xc xd yc yd ns xn us xu) (s : ByteArray) (hs : s.size ≤ 9223372036854775807) {r : Bool} (hr : nameB s = r) : Calls Tryd.prog 19 #[.string s] W fun e w' => e = .returned (.bool r) ∧ Hid (Tl w w' p p2 p3 p4 A B xA xB yA yB c d xc xd yc yd ns xn us xu) :=
  (name_any s W hs).mono fun _ _ ⟨h1, h2⟩ => ⟨by rw [h1, hr], by rw [← h2]; exact hX⟩
theorem tl_find (hX : Tl w W p p2 p3 p4 A B xA xB yA yB c d xc xd yc yd ns xn us xu) (s : ByteArray) {r : Int} (hr : findI ns s = r) : Calls Tryd.prog 21 #[.agg #[.slice A ns.length c, .slice B us.length d], .string s] W fun e w' => e = .returned (.int .i64 r) ∧ Hid (Tl w w' p p2 p3 p4 A B xA xB yA yB c d xc xd yc yd ns xn us xu) :=
  (find_any A B ns c us.length d s W hX.lat.names hX.lat.nlen).mono fun _ _ ⟨h1, h2⟩ => ⟨by rw [h1, hr], hX.later (h2 ▸ later_alloc _ _)⟩
theorem tl_join (hX : Tl w W p p2 p3 p4 A B xA xB yA yB c d xc xd yc yd ns xn us xu) (a b : Int) {r : Int} (hr : joinI ns us a b = r) : Calls Tryd.prog 23 #[.agg #[.slice A ns.length c, .slice B us.length d], .int .i64 a, .int .i64 b] W fun e w' => e = .returned (.int .i64 r) ∧ Hid (Tl w w' p p2 p3 p4 A B xA xB yA yB c d xc xd yc yd ns xn us xu) :=
  (join_any A B ns us c d a b W hX.env hX.lat).mono fun _ _ ⟨h1, h2⟩ => ⟨by rw [h1, hr], hX.later h2⟩
theorem tl_meet (hX : Tl w W p p2 p3 p4 A B xA xB yA yB c d xc xd yc yd ns xn us xu) (a b : Int) {r : Int} (hr : meetI ns us a b = r) : Calls Tryd.prog 25 #[.agg #[.slice A ns.length c, .slice B us.length d], .int .i64 a, .int .i64 b] W fun e w' => e = .returned (.int .i64 r) ∧ Hid (Tl w w' p p2 p3 p4 A B xA xB yA yB c d xc xd yc yd ns xn us xu) :=
  (meet_any A B ns us c d a b W hX.env hX.lat).mono fun _ _ ⟨h1, h2⟩ => ⟨by rw [h1, hr], hX.later h2⟩
theorem tl_bottom (hX : Tl w W p p2 p3 p4 A B xA xB yA yB c d xc xd yc yd ns xn us xu) {r : Int} (hr : bottomI ns us = r) : Calls Tryd.prog 27 #[.agg #[.slice A ns.length c, .slice B us.length d]] W fun e w' => e = .returned (.int .i64 r) ∧ Hid (Tl w w' p p2 p3 p4 A B xA xB yA yB c d xc xd yc yd ns xn us xu) :=
  (bottom_any A B ns us c d W hX.env hX.lat).mono fun _ _ ⟨h1, h2⟩ => ⟨by rw [h1, hr], hX.later h2⟩
theorem tl_top (hX : Tl w W p p2 p3 p4 A B xA xB yA yB c d xc xd yc yd ns xn us xu) {r : Int} (hr : topI ns us = r) : Calls Tryd.prog 29 #[.agg #[.slice A ns.length c, .slice B us.length d]] W fun e w' => e = .returned (.int .i64 r) ∧ Hid (Tl w w' p p2 p3 p4 A B xA xB yA yB c d xc xd yc yd ns xn us xu) :=
  (top_any A B ns us c d W hX.env hX.lat).mono fun _ _ ⟨h1, h2⟩ => ⟨by rw [h1, hr], hX.later h2⟩
theorem tl_print (hX : Tl w W p p2 p3 p4 A B xA xB yA yB c d xc xd yc yd ns xn us xu) {r : ByteArray} (hr : prV ns us = r) : Calls Tryd.prog 31 #[.agg #[.slice A ns.length c, .slice B us.length d]] W fun e w' => e = .returned (.string r) ∧ Hid (Tl w w' p p2 p3 p4 A B xA xB yA yB c d xc xd yc yd ns xn us xu) := by
  subst hr
  cases hR : rightB ns us with
  | true => exact (print_any A B ns us c d W hX.env hX.lat hR).mono fun _ _ ⟨h1, h2⟩ => ⟨by rw [h1]; unfold prV; rw [hR]; rfl, hX.later h2⟩
  | false => exact (print_no A B ns us c d W hX.env hX.lat hR).mono fun _ _ ⟨h1, h2⟩ => ⟨by rw [h1]; unfold prV; rw [hR]; rfl, hX.later h2⟩
theorem tl_rright (hX : Tl w W p p2 p3 p4 A B xA xB yA yB c d xc xd yc yd ns xn us xu) {r : Bool} (hr : rightB ns us = r) : Calls Tryd.prog 16 #[.agg #[.slice A ns.length c, .slice B us.length d]] W fun e w' => e = .returned (.bool r) ∧ Hid (Tl w w' p p2 p3 p4 A B xA xB yA yB c d xc xd yc yd ns xn us xu) :=
  (refright_any A B ns us c d W hX.env hX.lat).mono fun _ _ ⟨h1, h2⟩ => ⟨by rw [h1, hr], hX.later h2⟩
theorem tl_rleq (hX : Tl w W p p2 p3 p4 A B xA xB yA yB c d xc xd yc yd ns xn us xu) (a b : Int) {r : Bool} (hr : leqB ns.length us a b = r) : Calls Tryd.prog 18 #[.agg #[.slice A ns.length c, .slice B us.length d], .int .i64 a, .int .i64 b] W fun e w' => e = .returned (.bool r) ∧ Hid (Tl w w' p p2 p3 p4 A B xA xB yA yB c d xc xd yc yd ns xn us xu) :=
  (refleq_any A B us ns.length c d a b W hX.lat.words hX.lat.w64 hX.lat.ulen).mono fun _ _ ⟨h1, h2⟩ => ⟨by rw [h1, hr], hX.later h2⟩
theorem tl_rname (hX : Tl w W p p2 p3 p4 A B xA xB yA yB c d xc xd yc yd ns xn us xu) (s : ByteArray) (hs : s.size ≤ 9223372036854775807) {r : Bool} (hr : nameB s = r) : Calls Tryd.prog 20 #[.string s] W fun e w' => e = .returned (.bool r) ∧ Hid (Tl w w' p p2 p3 p4 A B xA xB yA yB c d xc xd yc yd ns xn us xu) :=
  (refname_any s W hs).mono fun _ _ ⟨h1, h2⟩ => ⟨by rw [h1, hr], by rw [h2]; exact hX⟩
theorem tl_rfind (hX : Tl w W p p2 p3 p4 A B xA xB yA yB c d xc xd yc yd ns xn us xu) (s : ByteArray) {r : Int} (hr : findI ns s = r) : Calls Tryd.prog 22 #[.agg #[.slice A ns.length c, .slice B us.length d], .string s] W fun e w' => e = .returned (.int .i64 r) ∧ Hid (Tl w w' p p2 p3 p4 A B xA xB yA yB c d xc xd yc yd ns xn us xu) :=
  (reffind_any A B ns c us.length d s W hX.lat.names hX.lat.nlen).mono fun _ _ ⟨h1, h2⟩ => ⟨by rw [h1, hr], hX.later h2⟩
theorem tl_rjoin (hX : Tl w W p p2 p3 p4 A B xA xB yA yB c d xc xd yc yd ns xn us xu) (a b : Int) {r : Int} (hr : joinI ns us a b = r) : Calls Tryd.prog 24 #[.agg #[.slice A ns.length c, .slice B us.length d], .int .i64 a, .int .i64 b] W fun e w' => e = .returned (.int .i64 r) ∧ Hid (Tl w w' p p2 p3 p4 A B xA xB yA yB c d xc xd yc yd ns xn us xu) :=
  (refJoin_any A B ns us c d a b W hX.env hX.lat).mono fun _ _ ⟨h1, h2⟩ => ⟨by rw [h1, hr], hX.later h2⟩
theorem tl_rmeet (hX : Tl w W p p2 p3 p4 A B xA xB yA yB c d xc xd yc yd ns xn us xu) (a b : Int) {r : Int} (hr : meetI ns us a b = r) : Calls Tryd.prog 26 #[.agg #[.slice A ns.length c, .slice B us.length d], .int .i64 a, .int .i64 b] W fun e w' => e = .returned (.int .i64 r) ∧ Hid (Tl w w' p p2 p3 p4 A B xA xB yA yB c d xc xd yc yd ns xn us xu) :=
  (refMeet_any A B ns us c d a b W hX.env hX.lat).mono fun _ _ ⟨h1, h2⟩ => ⟨by rw [h1, hr], hX.later h2⟩
theorem tl_rbottom (hX : Tl w W p p2 p3 p4 A B xA xB yA yB c d xc xd yc yd ns xn us xu) {r : Int} (hr : bottomI ns us = r) : Calls Tryd.prog 28 #[.agg #[.slice A ns.length c, .slice B us.length d]] W fun e w' => e = .returned (.int .i64 r) ∧ Hid (Tl w w' p p2 p3 p4 A B xA xB yA yB c d xc xd yc yd ns xn us xu) :=
  (refBottom_any A B ns us c d W hX.env hX.lat).mono fun _ _ ⟨h1, h2⟩ => ⟨by rw [h1, hr], hX.later h2⟩
theorem tl_rtop (hX : Tl w W p p2 p3 p4 A B xA xB yA yB c d xc xd yc yd ns xn us xu) {r : Int} (hr : topI ns us = r) : Calls Tryd.prog 30 #[.agg #[.slice A ns.length c, .slice B us.length d]] W fun e w' => e = .returned (.int .i64 r) ∧ Hid (Tl w w' p p2 p3 p4 A B xA xB yA yB c d xc xd yc yd ns xn us xu) :=
  (refTop_any A B ns us c d W hX.env hX.lat).mono fun _ _ ⟨h1, h2⟩ => ⟨by rw [h1, hr], hX.later h2⟩
theorem tl_rprint (hX : Tl w W p p2 p3 p4 A B xA xB yA yB c d xc xd yc yd ns xn us xu) {r : ByteArray} (hr : prV ns us = r) : Calls Tryd.prog 32 #[.agg #[.slice A ns.length c, .slice B us.length d]] W fun e w' => e = .returned (.string r) ∧ Hid (Tl w w' p p2 p3 p4 A B xA xB yA yB c d xc xd yc yd ns xn us xu) := by
  subst hr
  cases hR : rightB ns us with
  | true => exact (refprint_any A B ns us c d W hX.env hX.lat hR).mono fun _ _ ⟨h1, h2⟩ => ⟨by rw [h1]; unfold prV; rw [hR]; rfl, hX.later h2⟩
  | false => exact (refprint_no A B ns us c d W hX.env hX.lat hR).mono fun _ _ ⟨h1, h2⟩ => ⟨by rw [h1]; unfold prV; rw [hR]; rfl, hX.later h2⟩
end

theorem Strs.take {W : World} {B : Nat} {A : Option Addr} {ss : List ByteArray} (h : Strs W B A ss) (k : Nat) : Strs W B A (ss.take k) := fun hn => by
  obtain ⟨b, off, hA, hb, hc⟩ := h (by rintro rfl; simp at hn)
  refine ⟨b, off, hA, hb, fun j hj => ?_⟩
  rw [List.length_take] at hj
  have e : Lt.nm (ss.take k) j = Lt.nm ss j := by
    unfold Lt.nm
    rw [List.getD_eq_getElem?_getD, List.getD_eq_getElem?_getD, List.getElem?_take_of_lt (by omega)]
  rw [e]
  exact hc j (by omega)
theorem Words.take {W : World} {B : Nat} {A : Option Addr} {us : List Nat} (h : Words W B A us) (k : Nat) : Words W B A (us.take k) := fun hn => by
  obtain ⟨b, off, hA, hb, hc⟩ := h (by rintro rfl; simp at hn)
  refine ⟨b, off, hA, hb, fun j hj => ?_⟩
  rw [List.length_take] at hj
  have e : Lt.row (us.take k) j = Lt.row us j := by
    unfold Lt.row
    rw [List.getD_eq_getElem?_getD, List.getD_eq_getElem?_getD, List.getElem?_take_of_lt (by omega)]
  rw [e]
  exact hc j (by omega)
theorem LatAt.take {W : World} {A B : Option Addr} {c : Nat} {ns : List ByteArray} {us : List Nat} (h : LatAt W A B c ns us) (k : Nat) : LatAt W A B c (ns.take k) (us.take k) := by
  refine ⟨h.names.take k, h.words.take k, fun j => ?_, fun j => ?_, ?_, ?_, h.ccap, ?_⟩
  · have := h.w64 j
    unfold Lt.row at this ⊢
    rw [List.getD_eq_getElem?_getD] at this ⊢
    by_cases hj : j < k
    · rw [List.getElem?_take_of_lt hj]; exact this
    · rw [List.getElem?_eq_none (by rw [List.length_take]; omega)]; decide
  · have := h.smax j
    unfold Lt.nm at this ⊢
    rw [List.getD_eq_getElem?_getD] at this ⊢
    by_cases hj : j < k
    · rw [List.getElem?_take_of_lt hj]; exact this
    · rw [List.getElem?_eq_none (by rw [List.length_take]; omega)]; decide
  · have := h.nlen; rw [List.length_take]; omega
  · have := h.ncap; rw [List.length_take]; omega
  · have := h.ulen; rw [List.length_take]; omega
theorem lat_cells {W : World} {C : Nat} {A B u v : Value} {x y : Nat} {A' B' : Option Addr} {c : Nat} {ns : List ByteArray} {us : List Nat} (h : LatAt W A' B' c ns us) (h0 : W.cell? ⟨C, 0, none⟩ = some A) (h1 : W.cell? ⟨C, 1, none⟩ = some B)
    (ha : ∀ z, A ≠ .string z) (ha' : ∀ k z, A ≠ .int k z) (hb : ∀ z, B ≠ .string z) (hb' : ∀ k z, B ≠ .int k z) (_ : x = y) : LatAt ((W.setCell ⟨C, 0, none⟩ u).setCell ⟨C, 1, none⟩ v) A' B' c ns us := by
  have hsz : ((W.setCell ⟨C, 0, none⟩ u).setCell ⟨C, 1, none⟩ v).heap.size = W.heap.size := by simp
  refine { h with names := fun hn => ?_, words := fun hn => ?_ }
  · obtain ⟨b, off, hA, hbb, hc⟩ := h.names hn
    exact ⟨b, off, hA, by rw [hsz]; exact hbb, fun j hj => cell_store h0 h1 (hc j hj) (fun e => ha _ e.symm) (fun e => hb _ e.symm)⟩
  · obtain ⟨b, off, hA, hbb, hc⟩ := h.words hn
    exact ⟨b, off, hA, by rw [hsz]; exact hbb, fun j hj => cell_store h0 h1 (hc j hj) (fun e => ha' _ _ e.symm) (fun e => hb' _ _ e.symm)⟩
theorem at_cut {w W : World} {A B : Option Addr} {c d : Nat} {ns : List ByteArray} {us : List Nat} (hX : At w W w.heap.size A B c d ns us) (h4 : 4 ≤ w.heap.size) (n m : Nat) (hn : n = (ns.take 66).length) (hm : m = (us.take 66).length) :
    At w ((W.setCell ⟨w.heap.size, 0, none⟩ (.slice A n c)).setCell ⟨w.heap.size, 1, none⟩ (.slice B m d)) w.heap.size A B c d (ns.take 66) (us.take 66) := by
  subst hn hm
  obtain ⟨x0, x1⟩ := store_two (.slice A (ns.take 66).length c) (.slice B (us.take 66).length d) hX.box.1 hX.box.2.1
  refine ⟨(hX.below.setCell (p := ⟨w.heap.size, 0, none⟩) (Nat.le_refl _) _).setCell (p := ⟨w.heap.size, 1, none⟩) (Nat.le_refl _) _, ?_, ⟨x0, x1, ?_⟩, ?_⟩
  · have hb : Below w.heap.size W ((W.setCell ⟨w.heap.size, 0, none⟩ (.slice A (ns.take 66).length c)).setCell ⟨w.heap.size, 1, none⟩ (.slice B (us.take 66).length d)) := ((Below.refl _ W).setCell (p := ⟨w.heap.size, 0, none⟩) (Nat.le_refl _) _).setCell (p := ⟨w.heap.size, 1, none⟩) (Nat.le_refl _) _
    exact hX.env.below h4 hb
  · have := hX.box.2.2
    simpa using this
  · exact lat_cells (hX.lat.take 66) hX.box.1 hX.box.2.1 (fun _ e => by cases e) (fun _ _ e => by cases e) (fun _ e => by cases e) (fun _ _ e => by cases e) (rfl : (0 : Nat) = 0)

set_option maxRecDepth 100000 in
set_option maxHeartbeats 4000000 in
theorem latTells_any (A B : Option Addr) (ns : List ByteArray) (us : List Nat) (c d : Nat) (a b : Int) (name text : ByteArray) (w : World) (hE : Env w) (hL : LatAt w A B c ns us) (hd : us.length ≤ d) (hn : name.size ≤ 9223372036854775807) (ht : text.size < 4294967281) :
    Calls Tryd.prog 3 #[.agg #[.slice A ns.length c, .slice B us.length d], .int .i64 a, .int .i64 b, .string name, .string text] w fun e w' => e = .returned (.bool true) ∧ Below w.heap.size w w' := by
  have hX := Lib.hid (At.new (d := d) hE hL)
  have hfz : Hid (∀ w1, Below (w.alloc (.cells #[.slice A ns.length c, .slice B us.length d] 25)).heap.size (w.alloc (.cells #[.slice A ns.length c, .slice B us.length d] 25)) w1 → w1.frozen? ⟨w.heap.size, 0, none⟩ = false ∧ w1.frozen? ⟨w.heap.size, 1, none⟩ = false) := fun w1 h =>
    ⟨(h.frozen (p := ⟨w.heap.size, 0, none⟩) (by simp)).trans (frozen_of_row (World.alloc_heap_new w _) 0), (h.frozen (p := ⟨w.heap.size, 1, none⟩) (by simp)).trans (frozen_of_row (World.alloc_heap_new w _) 1)⟩
  have hnl := hL.nlen
  have hul := hL.ulen
  have hnc := hL.ncap
  have hcc := hL.ccap
  have h4 := hE.four
  have hk : Hid (Calls Tryd.prog 10 #[] (w.alloc (.cells #[.slice A ns.length c, .slice B us.length d] 25)) fun e w1 => e = .returned (.bool true) ∧ Hid (At w w1 w.heap.size A B c d ns us) ∧ w1.frozen? ⟨w.heap.size, 0, none⟩ = false ∧ w1.frozen? ⟨w.heap.size, 1, none⟩ = false) :=
    (examples_any _ hX.out.env).mono fun e w1 ⟨h1, h2⟩ => ⟨h1, hX.out.later h2, hfz.out w1 h2⟩
  clear hE hL hX hfz
  go_enter Tryd.func3, Tryd.ntmps3
  go_wp2_with fail
  refine hk.out.mono ?_
  rintro e w1 ⟨rfl, hY, f1, f2⟩
  have q1 := hY.out.box.1
  have q2 := hY.out.box.2.1
  clear hk
  have m1 : (min (ns.length : Int) 66).toNat = (ns.take 66).length := by rw [List.length_take]; omega
  have m2 : (min (us.length : Int) 66).toNat = (us.take 66).length := by rw [List.length_take]; omega
  have g1 : 0 ≤ min (ns.length : Int) 66 := by omega
  have g2 : min (ns.length : Int) 66 ≤ c := by omega
  have g3 : 0 ≤ min (us.length : Int) 66 := by omega
  have g4 : min (us.length : Int) 66 ≤ d := by omega
  have hZ := Lib.hid (at_cut hY.out h4 (min (ns.length : Int) 66).toNat (min (us.length : Int) 66).toNat m1 m2)
  replace m1 := Lib.hid m1
  replace m2 := Lib.hid m2
  clear hY
  go_wp2_with fail
  rw [m1.out, m2.out] at hZ ⊢
  generalize (w1.setCell ⟨w.heap.size, 0, none⟩ (.slice A (ns.take 66).length c)).setCell ⟨w.heap.size, 1, none⟩ (.slice B (us.take 66).length d) = W1 at hZ ⊢
  generalize hns2 : ns.take 66 = ns2 at hZ ⊢
  generalize hus2 : us.take 66 = us2 at hZ ⊢
  replace hns2 := Lib.hid hns2
  replace hus2 := Lib.hid hus2
  clear q1 q2 f1 f2 g1 g2 g3 g4 m1 m2
  refine (reflat_any A B ns2.length us2.length c d W1).mono ?_
  rintro e w2 ⟨rfl, hb2⟩
  have hA2 := Lib.hid (hZ.out.later hb2)
  clear hZ hb2
  go_wp2_with fail
  have hA3 := Lib.hid (hA2.out.later (later_alloc w2 (.cells #[.slice A ns2.length c, .slice B us2.length d] 27)))
  have hB2 := Lib.hid (Box2.new w2 (.slice A ns2.length c) (.slice B us2.length d) 27)
  generalize w2.alloc (.cells #[.slice A ns2.length c, .slice B us2.length d] 27) = W2 at hA3 hB2 ⊢
  generalize w2.heap.size = p2 at hB2 ⊢
  clear hA2
  refine (parse_res text W2 hA3.out.env ht).mono ?_
  rintro e w3 ⟨hb3, xA, xB, xc, xd, rfl, lx⟩
  have hA4 := Lib.hid (hA3.out.later hb3)
  replace hB2 := Lib.hid (hB2.out.later hb3)
  replace lx := Lib.hid lx
  clear hA3 hb3
  go_wp2_with fail
  have hl3 := later_alloc w3 (.cells #[.slice xA (resN text).length xc, .slice xB (resU text).length xd] 25)
  have hA5 := Lib.hid (hA4.out.later hl3)
  have hB3 := Lib.hid (Box2.new w3 (.slice xA (resN text).length xc) (.slice xB (resU text).length xd) 25)
  replace hB2 := Lib.hid (hB2.out.later hl3)
  replace lx := Lib.hid (lx.out.later hl3)
  clear hl3 hA4
  generalize w3.alloc (.cells #[.slice xA (resN text).length xc, .slice xB (resU text).length xd] 25) = W3 at hA5 hB3 hB2 lx ⊢
  generalize w3.heap.size = p3 at hB3 ⊢
  refine (refparse_res text W3 hA5.out.env ht).mono ?_
  rintro e w4 ⟨hb4, yA, yB, yc, yd, rfl, ly⟩
  have hl4 := later_alloc w4 (.cells #[.slice yA (resN text).length yc, .slice yB (resU text).length yd] 27)
  have hB4 := Lib.hid (Box2.new w4 (.slice yA (resN text).length yc) (.slice yB (resU text).length yd) 27)
  have hX := Lib.hid ((Tl.mk ((hA5.out.later hb4).later hl4).below ((hA5.out.later hb4).later hl4).env ((hA5.out.later hb4).later hl4).box ((hB2.out.later hb4).later hl4) ((hB3.out.later hb4).later hl4) hB4.out ((hA5.out.later hb4).later hl4).lat ((lx.out.later hb4).later hl4) (ly.later hl4) : Tl w (w4.alloc (.cells #[.slice yA (resN text).length yc, .slice yB (resU text).length yd] 27)) w.heap.size p2 p3 w4.heap.size A B xA xB yA yB c d xc xd yc yd ns2 (resN text) us2 (resU text)).drew)
  clear hA5 hb4 hl4 hB2 hB3 hB4 lx ly
  generalize hxn : resN text = xn at hX ⊢
  generalize hxu : resU text = xu at hX ⊢
  generalize hNe : parseErr text = N
  replace hxn := Lib.hid hxn
  replace hxu := Lib.hid hxu
  replace hNe := Lib.hid hNe
  obtain ⟨R, hR⟩ : ∃ R, rightB ns2 us2 = R := ⟨_, rfl⟩
  obtain ⟨L, hLq⟩ : ∃ L, leqB ns2.length us2 a b = L := ⟨_, rfl⟩
  obtain ⟨M0, hN⟩ : ∃ M0, nameB name = M0 := ⟨_, rfl⟩
  obtain ⟨F, hF⟩ : ∃ F, findI ns2 name = F := ⟨_, rfl⟩
  obtain ⟨J, hJ⟩ : ∃ J, joinI ns2 us2 a b = J := ⟨_, rfl⟩
  obtain ⟨M, hM⟩ : ∃ M, meetI ns2 us2 a b = M := ⟨_, rfl⟩
  obtain ⟨Bo, hBo⟩ : ∃ Bo, bottomI ns2 us2 = Bo := ⟨_, rfl⟩
  obtain ⟨To, hTo⟩ : ∃ To, topI ns2 us2 = To := ⟨_, rfl⟩
  obtain ⟨Pr, hPr⟩ : ∃ Pr, prV ns2 us2 = Pr := ⟨_, rfl⟩
  replace hR := Lib.hid hR
  replace hLq := Lib.hid hLq
  replace hN := Lib.hid hN
  replace hF := Lib.hid hF
  replace hJ := Lib.hid hJ
  replace hM := Lib.hid hM
  replace hBo := Lib.hid hBo
  replace hTo := Lib.hid hTo
  replace hPr := Lib.hid hPr
  go_wp2_with fail
  generalize w4.alloc (.cells #[.slice yA xn.length yc, .slice yB xu.length yd] 27) = W4 at hX ⊢
  generalize w4.heap.size = p4 at hX ⊢
  have q1 := hX.out.cells.1; have q2 := hX.out.cells.2.1; have q3 := hX.out.cells.2.2.1; have q4 := hX.out.cells.2.2.2.1; have q5 := hX.out.cells.2.2.2.2.1; have q6 := hX.out.cells.2.2.2.2.2.1; have q7 := hX.out.cells.2.2.2.2.2.2.1; have q8 := hX.out.cells.2.2.2.2.2.2.2
  go_region_held3 (fun w' => w'.cell? ⟨w.heap.size, 0, none⟩ = some (.slice A ns2.length c) ∧ w'.cell? ⟨w.heap.size, 1, none⟩ = some (.slice B us2.length d) ∧ w'.cell? ⟨p2, 0, none⟩ = some (.slice A ns2.length c) ∧ w'.cell? ⟨p2, 1, none⟩ = some (.slice B us2.length d) ∧ w'.cell? ⟨p3, 0, none⟩ = some (.slice xA xn.length xc) ∧ w'.cell? ⟨p3, 1, none⟩ = some (.slice xB xu.length xd) ∧ w'.cell? ⟨p4, 0, none⟩ = some (.slice yA xn.length yc) ∧ w'.cell? ⟨p4, 1, none⟩ = some (.slice yB xu.length yd)) (exact ⟨q1, q2, q3, q4, q5, q6, q7, q8⟩) (first | (go_at_call 14; have hO := hX; clear hX q1 q2 q3 q4 q5 q6 q7 q8; refine (tl_same hO.out ).mono ?_; clear hO; rintro e w9 ⟨rfl, hX⟩; have q1 := hX.out.cells.1; have q2 := hX.out.cells.2.1; have q3 := hX.out.cells.2.2.1; have q4 := hX.out.cells.2.2.2.1; have q5 := hX.out.cells.2.2.2.2.1; have q6 := hX.out.cells.2.2.2.2.2.1; have q7 := hX.out.cells.2.2.2.2.2.2.1; have q8 := hX.out.cells.2.2.2.2.2.2.2) | (go_at_call 15; have hO := hX; clear hX q1 q2 q3 q4 q5 q6 q7 q8; refine (tl_right hO.out hR.out).mono ?_; clear hO; rintro e w9 ⟨rfl, hX⟩; have q1 := hX.out.cells.1; have q2 := hX.out.cells.2.1; have q3 := hX.out.cells.2.2.1; have q4 := hX.out.cells.2.2.2.1; have q5 := hX.out.cells.2.2.2.2.1; have q6 := hX.out.cells.2.2.2.2.2.1; have q7 := hX.out.cells.2.2.2.2.2.2.1; have q8 := hX.out.cells.2.2.2.2.2.2.2) | (go_at_call 16; have hO := hX; clear hX q1 q2 q3 q4 q5 q6 q7 q8; refine (tl_rright hO.out hR.out).mono ?_; clear hO; rintro e w9 ⟨rfl, hX⟩; have q1 := hX.out.cells.1; have q2 := hX.out.cells.2.1; have q3 := hX.out.cells.2.2.1; have q4 := hX.out.cells.2.2.2.1; have q5 := hX.out.cells.2.2.2.2.1; have q6 := hX.out.cells.2.2.2.2.2.1; have q7 := hX.out.cells.2.2.2.2.2.2.1; have q8 := hX.out.cells.2.2.2.2.2.2.2) | (go_at_call 17; have hO := hX; clear hX q1 q2 q3 q4 q5 q6 q7 q8; refine (tl_leq hO.out a b hLq.out).mono ?_; clear hO; rintro e w9 ⟨rfl, hX⟩; have q1 := hX.out.cells.1; have q2 := hX.out.cells.2.1; have q3 := hX.out.cells.2.2.1; have q4 := hX.out.cells.2.2.2.1; have q5 := hX.out.cells.2.2.2.2.1; have q6 := hX.out.cells.2.2.2.2.2.1; have q7 := hX.out.cells.2.2.2.2.2.2.1; have q8 := hX.out.cells.2.2.2.2.2.2.2) | (go_at_call 18; have hO := hX; clear hX q1 q2 q3 q4 q5 q6 q7 q8; refine (tl_rleq hO.out a b hLq.out).mono ?_; clear hO; rintro e w9 ⟨rfl, hX⟩; have q1 := hX.out.cells.1; have q2 := hX.out.cells.2.1; have q3 := hX.out.cells.2.2.1; have q4 := hX.out.cells.2.2.2.1; have q5 := hX.out.cells.2.2.2.2.1; have q6 := hX.out.cells.2.2.2.2.2.1; have q7 := hX.out.cells.2.2.2.2.2.2.1; have q8 := hX.out.cells.2.2.2.2.2.2.2) | (go_at_call 19; have hO := hX; clear hX q1 q2 q3 q4 q5 q6 q7 q8; refine (tl_name hO.out name hn hN.out).mono ?_; clear hO; rintro e w9 ⟨rfl, hX⟩; have q1 := hX.out.cells.1; have q2 := hX.out.cells.2.1; have q3 := hX.out.cells.2.2.1; have q4 := hX.out.cells.2.2.2.1; have q5 := hX.out.cells.2.2.2.2.1; have q6 := hX.out.cells.2.2.2.2.2.1; have q7 := hX.out.cells.2.2.2.2.2.2.1; have q8 := hX.out.cells.2.2.2.2.2.2.2) | (go_at_call 20; have hO := hX; clear hX q1 q2 q3 q4 q5 q6 q7 q8; refine (tl_rname hO.out name hn hN.out).mono ?_; clear hO; rintro e w9 ⟨rfl, hX⟩; have q1 := hX.out.cells.1; have q2 := hX.out.cells.2.1; have q3 := hX.out.cells.2.2.1; have q4 := hX.out.cells.2.2.2.1; have q5 := hX.out.cells.2.2.2.2.1; have q6 := hX.out.cells.2.2.2.2.2.1; have q7 := hX.out.cells.2.2.2.2.2.2.1; have q8 := hX.out.cells.2.2.2.2.2.2.2) | (go_at_call 21; have hO := hX; clear hX q1 q2 q3 q4 q5 q6 q7 q8; refine (tl_find hO.out name hF.out).mono ?_; clear hO; rintro e w9 ⟨rfl, hX⟩; have q1 := hX.out.cells.1; have q2 := hX.out.cells.2.1; have q3 := hX.out.cells.2.2.1; have q4 := hX.out.cells.2.2.2.1; have q5 := hX.out.cells.2.2.2.2.1; have q6 := hX.out.cells.2.2.2.2.2.1; have q7 := hX.out.cells.2.2.2.2.2.2.1; have q8 := hX.out.cells.2.2.2.2.2.2.2) | (go_at_call 22; have hO := hX; clear hX q1 q2 q3 q4 q5 q6 q7 q8; refine (tl_rfind hO.out name hF.out).mono ?_; clear hO; rintro e w9 ⟨rfl, hX⟩; have q1 := hX.out.cells.1; have q2 := hX.out.cells.2.1; have q3 := hX.out.cells.2.2.1; have q4 := hX.out.cells.2.2.2.1; have q5 := hX.out.cells.2.2.2.2.1; have q6 := hX.out.cells.2.2.2.2.2.1; have q7 := hX.out.cells.2.2.2.2.2.2.1; have q8 := hX.out.cells.2.2.2.2.2.2.2))
  clear q1 q2 q3 q4 q5 q6 q7 q8
  go_wp2_with fail
  have hO := hX
  clear hX
  have hX := Lib.hid hO.out.drew
  clear hO
  have q1 := hX.out.cells.1; have q2 := hX.out.cells.2.1; have q3 := hX.out.cells.2.2.1; have q4 := hX.out.cells.2.2.2.1
  go_region_held3 (fun w' => w'.cell? ⟨w.heap.size, 0, none⟩ = some (.slice A ns2.length c) ∧ w'.cell? ⟨w.heap.size, 1, none⟩ = some (.slice B us2.length d) ∧ w'.cell? ⟨p2, 0, none⟩ = some (.slice A ns2.length c) ∧ w'.cell? ⟨p2, 1, none⟩ = some (.slice B us2.length d)) (exact ⟨q1, q2, q3, q4⟩) (first | (go_at_call 23; have hO := hX; clear hX q1 q2 q3 q4; refine (tl_join hO.out a b hJ.out).mono ?_; clear hO; rintro e w9 ⟨rfl, hX⟩; have q1 := hX.out.cells.1; have q2 := hX.out.cells.2.1; have q3 := hX.out.cells.2.2.1; have q4 := hX.out.cells.2.2.2.1) | (go_at_call 24; have hO := hX; clear hX q1 q2 q3 q4; refine (tl_rjoin hO.out a b hJ.out).mono ?_; clear hO; rintro e w9 ⟨rfl, hX⟩; have q1 := hX.out.cells.1; have q2 := hX.out.cells.2.1; have q3 := hX.out.cells.2.2.1; have q4 := hX.out.cells.2.2.2.1) | (go_at_call 25; have hO := hX; clear hX q1 q2 q3 q4; refine (tl_meet hO.out a b hM.out).mono ?_; clear hO; rintro e w9 ⟨rfl, hX⟩; have q1 := hX.out.cells.1; have q2 := hX.out.cells.2.1; have q3 := hX.out.cells.2.2.1; have q4 := hX.out.cells.2.2.2.1) | (go_at_call 26; have hO := hX; clear hX q1 q2 q3 q4; refine (tl_rmeet hO.out a b hM.out).mono ?_; clear hO; rintro e w9 ⟨rfl, hX⟩; have q1 := hX.out.cells.1; have q2 := hX.out.cells.2.1; have q3 := hX.out.cells.2.2.1; have q4 := hX.out.cells.2.2.2.1) | (go_at_call 27; have hO := hX; clear hX q1 q2 q3 q4; refine (tl_bottom hO.out hBo.out).mono ?_; clear hO; rintro e w9 ⟨rfl, hX⟩; have q1 := hX.out.cells.1; have q2 := hX.out.cells.2.1; have q3 := hX.out.cells.2.2.1; have q4 := hX.out.cells.2.2.2.1) | (go_at_call 28; have hO := hX; clear hX q1 q2 q3 q4; refine (tl_rbottom hO.out hBo.out).mono ?_; clear hO; rintro e w9 ⟨rfl, hX⟩; have q1 := hX.out.cells.1; have q2 := hX.out.cells.2.1; have q3 := hX.out.cells.2.2.1; have q4 := hX.out.cells.2.2.2.1) | (go_at_call 29; have hO := hX; clear hX q1 q2 q3 q4; refine (tl_top hO.out hTo.out).mono ?_; clear hO; rintro e w9 ⟨rfl, hX⟩; have q1 := hX.out.cells.1; have q2 := hX.out.cells.2.1; have q3 := hX.out.cells.2.2.1; have q4 := hX.out.cells.2.2.2.1) | (go_at_call 30; have hO := hX; clear hX q1 q2 q3 q4; refine (tl_rtop hO.out hTo.out).mono ?_; clear hO; rintro e w9 ⟨rfl, hX⟩; have q1 := hX.out.cells.1; have q2 := hX.out.cells.2.1; have q3 := hX.out.cells.2.2.1; have q4 := hX.out.cells.2.2.2.1) | (go_at_call 31; have hO := hX; clear hX q1 q2 q3 q4; refine (tl_print hO.out hPr.out).mono ?_; clear hO; rintro e w9 ⟨rfl, hX⟩; have q1 := hX.out.cells.1; have q2 := hX.out.cells.2.1; have q3 := hX.out.cells.2.2.1; have q4 := hX.out.cells.2.2.2.1) | (go_at_call 32; have hO := hX; clear hX q1 q2 q3 q4; refine (tl_rprint hO.out hPr.out).mono ?_; clear hO; rintro e w9 ⟨rfl, hX⟩; have q1 := hX.out.cells.1; have q2 := hX.out.cells.2.1; have q3 := hX.out.cells.2.2.1; have q4 := hX.out.cells.2.2.2.1))
  all_goals
    go_wp2
    go_ret
    exact ⟨rfl, hX.out.below⟩
end Go.Proofs.YtieamjpfmjkchaaDoor
