/-
  Chapter 11's examples. Condition: the library's table lies as laid.
-/
import Derived.Test.YtlhfdedjboanfaaDoorSvPoints
namespace Go.Proofs.YtlhfdedjboanfaaDoor
open Go.RowKit Go.Shelf Go.At Go.Sv
attribute [local go_sem] Oper.semAt_some

def c1L : List Pr := [(-2, 0), (-3, 1), (0, 2), (1, 2)]
def r1L : List Pr := [(0, 1), (1, 2), (2, 3)]
def c2L : List Pr := [(-4, 0), (0, -2)]
def c3L : List Pr := [(-10, 0)]
theorem ex_all : ∀ a b c : Fin 4, solvesT (nsL 3) (usL 3) c1L [(0, ((a.1 : Nat) : Int)), (1, ((b.1 : Nat) : Int)), (2, ((c.1 : Nat) : Int))] = true → L.leqB 4 (usL 3) ((a.1 : Nat) : Int) 1 = true → L.leqB 4 (usL 3) ((b.1 : Nat) : Int) 2 = true → a.1 = 1 ∧ b.1 = 2 ∧ c.1 = 3 := by decide +kernel
theorem ex_solves : solvesT (nsL 3) (usL 3) c1L r1L = true := by decide +kernel
theorem ex_vars : varsL c1L = [0, 1, 2] := by decide +kernel
theorem ex_least {r : List Pr} {ok : Bool} (h : LeastT (nsL 3) (usL 3) c1L r ok) : ok = true ∧ r = r1L := by
  cases ok with
  | false =>
    have := (h.no rfl).2 r1L
    rw [ex_solves] at this
    cases this
  | true =>
    obtain ⟨h1, h2, h3⟩ := h.yes rfl
    refine ⟨rfl, ?_⟩
    rw [ex_vars] at h1
    obtain ⟨_, hp, _⟩ := solves_parts h2
    match r, h1 with
    | [(v0, p0), (v1, p1), (v2, p2)], h1 =>
      simp only [List.map_cons, List.map_nil, List.cons.injEq, and_true] at h1
      obtain ⟨rfl, rfl, rfl⟩ := h1
      simp only [List.all_cons, List.all_nil, Bool.and_true, Bool.and_eq_true] at hp
      obtain ⟨a, rfl, ha⟩ := pnt_nat hp.1
      obtain ⟨b, rfl, hb⟩ := pnt_nat hp.2.1
      obtain ⟨c, rfl, hc⟩ := pnt_nat hp.2.2
      have l0 := h3 r1L ex_solves _ (List.mem_cons_self ..)
      have l1 := h3 r1L ex_solves _ (List.mem_cons_of_mem _ (List.mem_cons_self ..))
      have e := ex_all ⟨a, ha⟩ ⟨b, hb⟩ ⟨c, hc⟩ h2 l0 l1
      obtain ⟨e1, e2, e3⟩ := e
      have e1 : a = 1 := e1
      have e2 : b = 2 := e2
      have e3 : c = 3 := e3
      subst e1; subst e2; subst e3
      rfl
theorem ex_none : ∀ a : Fin 4, (L.leqB 4 (usL 3) 3 ((a.1 : Nat) : Int) && L.leqB 4 (usL 3) ((a.1 : Nat) : Int) 1) = false := by decide +kernel
theorem ex_right : ∀ k : Fin 6, L.rightB (nsL k.1) (usL k.1) = true := by decide +kernel
theorem right_at {k : Nat} (hk : k < 6) : L.rightB (nsL k) (usL k) = true := ex_right ⟨k, hk⟩
theorem len_at {k : Nat} (hk : k < 6) : 0 < (nsL k).length ∧ (nsL k).length ≤ 64 := by
  rcases (show k = 0 ∨ k = 1 ∨ k = 2 ∨ k = 3 ∨ k = 4 ∨ k = 5 by omega) with rfl | rfl | rfl | rfl | rfl | rfl <;> decide
theorem w64_at {k : Nat} (hk : k < 6) : L.W64 (usL k) := by
  refine L.W64.of ?_
  rcases (show k = 0 ∨ k = 1 ∨ k = 2 ∨ k = 3 ∨ k = 4 ∨ k = 5 by omega) with rfl | rfl | rfl | rfl | rfl | rfl <;> decide
theorem ex2_no (s : List Pr) : solvesT (nsL 3) (usL 3) c2L s = false := by
  cases h : solvesT (nsL 3) (usL 3) c2L s with
  | false => rfl
  | true =>
    obtain ⟨hk, hp, hc⟩ := solves_parts h
    obtain ⟨J, M, z, t, hT⟩ := L.told_of (w64_at (k := 3) (by omega)) (right_at (k := 3) (by omega))
    obtain ⟨v, ev, hv⟩ := value_nat (a := 0) hT hp (kn_var (Int.le_refl 0))
    have h1 := hc (-4, 0) (by decide)
    have h2 := hc (0, -2) (by decide)
    unfold holdsT at h1 h2
    rw [ev] at h1 h2
    have e := ex_none ⟨v, hv⟩
    rw [show valueT (nsL 3) (usL 3) s (-4) = 3 from rfl] at h1
    rw [show valueT (nsL 3) (usL 3) s (-2) = 1 from rfl] at h2
    have h1 : L.leqB 4 (usL 3) 3 ((v : Nat) : Int) = true := h1
    have h2 : L.leqB 4 (usL 3) ((v : Nat) : Int) 1 = true := h2
    rw [h1, h2] at e
    cases e
theorem ex3_no (s : List Pr) : solvesT (nsL 3) (usL 3) c3L s = false := by
  unfold solvesT
  rw [show knownT (nsL 3) (usL 3) c3L = false from by decide +kernel]; rfl
theorem least_no {ns : List ByteArray} {us : List Nat} {c r : List Pr} {ok : Bool} (h : LeastT ns us c r ok) (hn : ∀ s, solvesT ns us c s = false) : ok = false ∧ r = [] := by
  cases ok with
  | false => exact ⟨rfl, (h.no rfl).1⟩
  | true =>
    have := (h.yes rfl).2.1
    rw [hn] at this
    cases this
theorem ex_top : L.topI (nsL 3) (usL 3) = 3 := by decide +kernel
theorem ex_values : valueT (nsL 3) (usL 3) r1L 2 = 3 ∧ valueT (nsL 3) (usL 3) r1L 7 = 0 ∧ valueT (nsL 3) (usL 3) r1L (-2) = 1 ∧ valueT (nsL 3) (usL 3) r1L (-10) = -1 ∧ solvesT (nsL 3) (usL 3) [(0, 2)] r1L = true ∧ solvesT (nsL 3) (usL 3) [(2, 0)] r1L = false ∧ knownT (nsL 3) (usL 3) [] = true := by decide +kernel
theorem hi_any (A B : Option Addr) (ns : List ByteArray) (us : List Nat) (c d : Nat) (w : World) (hE : L.Env w) (hL : L.LatAt w A B c ns us) (ht : I64 (L.topI ns us)) :
    Calls Tryd.prog 25 #[.agg #[.slice A ns.length c, .slice B us.length d]] w fun e w' => e = .returned (.int .i64 (pointT (L.topI ns us))) ∧ Below w.heap.size w w' := by
  have hb := later_alloc w (.cells #[.slice A ns.length c, .slice B us.length d] 25)
  have k := Lib.hid (L.top_any A B ns us c d _ (hE.later hb) (hL.later hb))
  have kp := Lib.hid (fun W => (point_any _ W ht).mono fun e w' h => (And.intro h.1 h.2.symm : _ ∧ W = w'))
  replace hb := Lib.hid hb
  go_enter Tryd.func25, Tryd.ntmps25
  go_wp2_with (first
    | (go_at_call 27; refine k.out.mono ?_; rintro e w1 ⟨rfl, hb1⟩)
    | (go_at_call 30; refine (kp.out _).mono ?_; rintro e w' ⟨rfl, rfl⟩))
  go_ret
  exact ⟨rfl, hb.out.trans (hb1.mono hb.out.size)⟩
theorem lo_any (A B : Option Addr) (ns : List ByteArray) (us : List Nat) (c d : Nat) (w : World) (hE : L.Env w) (hL : L.LatAt w A B c ns us) (ht : I64 (L.bottomI ns us)) :
    Calls Tryd.prog 29 #[.agg #[.slice A ns.length c, .slice B us.length d]] w fun e w' => e = .returned (.int .i64 (pointT (L.bottomI ns us))) ∧ Below w.heap.size w w' := by
  have hb := later_alloc w (.cells #[.slice A ns.length c, .slice B us.length d] 25)
  have k := Lib.hid (L.bottom_any A B ns us c d _ (hE.later hb) (hL.later hb))
  have kp := Lib.hid (fun W => (point_any _ W ht).mono fun e w' h => (And.intro h.1 h.2.symm : _ ∧ W = w'))
  replace hb := Lib.hid hb
  go_enter Tryd.func29, Tryd.ntmps29
  go_wp2_with (first
    | (go_at_call 28; refine k.out.mono ?_; rintro e w1 ⟨rfl, hb1⟩)
    | (go_at_call 30; refine (kp.out _).mono ?_; rintro e w' ⟨rfl, rfl⟩))
  go_ret
  exact ⟨rfl, hb.out.trans (hb1.mono hb.out.size)⟩
end Go.Proofs.YtlhfdedjboanfaaDoor

/-
  What chapter 11's laws lay: one of the six lattices; the contracts of the examples. Condition: the library's table lies as laid.
-/
namespace Go.Proofs.YtlhfdedjboanfaaDoor
open Go.RowKit Go.Shelf Go.At Go.Sv
attribute [local go_sem] Oper.semAt_some

/-- one of the six lattices, laid -/
structure Own (W : World) (k : Nat) (A B : Option Addr) : Prop where
  env : L.Env W
  lat : L.LatAt W A B (nsL k).length (nsL k) (usL k)
theorem Own.later {W W' : World} {k : Nat} {A B : Option Addr} (h : Own W k A B) (hb : Below W.heap.size W W') : Own W' k A B := ⟨h.env.later hb, h.lat.later hb⟩
theorem i64_of {l : List Pr} (h : (l.all fun p => decide (-9223372036854775808 ≤ p.1) && decide (p.1 ≤ 9223372036854775807) && decide (-9223372036854775808 ≤ p.2) && decide (p.2 ≤ 9223372036854775807)) = true) : ∀ p ∈ l, I64 p.1 ∧ I64 p.2 := fun p hp => by
  have := List.all_eq_true.1 h p hp
  simp only [Bool.and_eq_true, decide_eq_true_eq] at this
  exact ⟨⟨this.1.1.1, this.1.1.2⟩, this.1.2, this.2⟩
theorem exK1 {A B : Option Addr} {W : World} (h : Own W 3 A B) {C : Option Addr} (hP : Prs W C c1L) : Calls Tryd.prog 12 #[.agg #[.slice A 4 4, .slice B 4 4], .slice C 4 4] W fun e w' => (∃ A' c', e = .returned (.tuple #[.slice A' 3 c', .bool true]) ∧ Prs w' A' r1L ∧ OkS A' 3 c') ∧ Below W.heap.size W w' := by
  refine (show Calls Tryd.prog 12 #[.agg #[.slice A 4 4, .slice B 4 4], .slice C 4 4] W _ from least_any A B (nsL 3) (usL 3) 4 4 C c1L 4 W h.env h.lat hP (i64_of (by decide)) (by decide)).mono ?_
  rintro e w' ⟨⟨A', c', r, ok, rfl, hp, hs, h6, hL⟩, hb⟩
  obtain ⟨rfl, rfl⟩ := ex_least hL
  exact ⟨⟨A', c', rfl, hp, hs⟩, hb⟩
theorem exKn {A B : Option Addr} {W : World} (h : Own W 3 A B) {C : Option Addr} (l : List Pr) (hP : Prs W C l) (h6 : ∀ p ∈ l, I64 p.1 ∧ I64 p.2) (hl : l.length ≤ 1048576) (hn : ∀ s, solvesT (nsL 3) (usL 3) l s = false) : Calls Tryd.prog 12 #[.agg #[.slice A 4 4, .slice B 4 4], .slice C l.length l.length] W fun e w' => (∃ A' c', e = .returned (.tuple #[.slice A' 0 c', .bool false])) ∧ Below W.heap.size W w' := by
  refine (show Calls Tryd.prog 12 #[.agg #[.slice A 4 4, .slice B 4 4], .slice C l.length l.length] W _ from least_any A B (nsL 3) (usL 3) 4 4 C l l.length W h.env h.lat hP h6 hl).mono ?_
  rintro e w' ⟨⟨A', c', r, ok, rfl, hp, hs, h6, hL⟩, hb⟩
  obtain ⟨rfl, rfl⟩ := least_no hL hn
  exact ⟨⟨A', c', rfl⟩, hb⟩
theorem exV {A B : Option Addr} {W : World} (h : Own W 3 A B) {C : Option Addr} {c : Nat} (hP : Prs W C r1L) (a v : Int) (ha : I64 a) (hv : valueT (nsL 3) (usL 3) r1L a = v) : Calls Tryd.prog 17 #[.agg #[.slice A 4 4, .slice B 4 4], .slice C 3 c, .int .i64 a] W fun e w' => e = .returned (.int .i64 v) ∧ Below W.heap.size W w' := by
  subst hv
  exact value_any A B (nsL 3) (usL 3) 4 4 C r1L c a ha W h.env h.lat hP (by decide)
theorem exS {A B : Option Addr} {W : World} (h : Own W 3 A B) {C D : Option Addr} {c : Nat} (l : List Pr) (hP : Prs W C l) (h6 : ∀ p ∈ l, I64 p.1 ∧ I64 p.2) (hl : l.length ≤ 1048576) (hD : Prs W D r1L) (hs : OkS D 3 c) (v : Bool) (hv : solvesT (nsL 3) (usL 3) l r1L = v) : Calls Tryd.prog 19 #[.agg #[.slice A 4 4, .slice B 4 4], .slice C l.length l.length, .slice D 3 c] W fun e w' => e = .returned (.bool v) ∧ Below W.heap.size W w' := by
  subst hv
  exact solves_any A B (nsL 3) (usL 3) 4 4 C l l.length D r1L c W h.env h.lat hP h6 (by omega) hD (i64_of (by decide)) hs (by decide)
theorem exK {A B : Option Addr} {W : World} (h : Own W 3 A B) : Calls Tryd.prog 15 #[.agg #[.slice A 4 4, .slice B 4 4], .slice none 0 0] W fun e w' => e = .returned (.bool true) ∧ Below W.heap.size W w' := by
  have := knownAll_any A B (nsL 3) (usL 3) 4 4 none [] 0 W h.env h.lat (Prs.nil _ _) (by simp) (by decide)
  rw [ex_values.2.2.2.2.2.2] at this
  exact this
theorem exH {A B : Option Addr} {W : World} (h : Own W 3 A B) : Calls Tryd.prog 25 #[.agg #[.slice A 4 4, .slice B 4 4]] W fun e w' => e = .returned (.int .i64 (-4)) ∧ Below W.heap.size W w' := by
  have := hi_any A B (nsL 3) (usL 3) 4 4 W h.env h.lat (by rw [ex_top]; unfold I64; omega)
  rw [ex_top] at this
  exact this
theorem prs1 (w : World) (x y : Int) (ty : TypeId) : Prs (w.alloc (.cells #[.int .i64 x, .int .i64 y] ty)) (some ⟨w.heap.size, 0, none⟩) [(x, y)] := fun _ => by
  have h := World.alloc_heap_new w (.cells #[.int .i64 x, .int .i64 y] ty)
  refine ⟨w.heap.size, 0, rfl, by simp, fun j hj => ?_⟩
  match j, hj with
  | 0, _ => exact ⟨cell_of_row _ _ 0 _ _ _ h, cell_of_row _ _ 1 _ _ _ h⟩
  | j + 1, hj => exact absurd hj (by simp)
theorem prs2 (w : World) (x y z u : Int) (ty : TypeId) : Prs (w.alloc (.cells #[.int .i64 x, .int .i64 y, .int .i64 z, .int .i64 u] ty)) (some ⟨w.heap.size, 0, none⟩) [(x, y), (z, u)] := fun _ => by
  have h := World.alloc_heap_new w (.cells #[.int .i64 x, .int .i64 y, .int .i64 z, .int .i64 u] ty)
  refine ⟨w.heap.size, 0, rfl, by simp, fun j hj => ?_⟩
  match j, hj with
  | 0, _ => exact ⟨cell_of_row _ _ 0 _ _ _ h, cell_of_row _ _ 1 _ _ _ h⟩
  | 1, _ => exact ⟨cell_of_row _ _ 2 _ _ _ h, cell_of_row _ _ 3 _ _ _ h⟩
  | j + 2, hj => exact absurd hj (by simp)
theorem prs4 (w : World) (ty : TypeId) : Prs (w.alloc (.cells #[.int .i64 (-2), .int .i64 0, .int .i64 (-3), .int .i64 1, .int .i64 0, .int .i64 2, .int .i64 1, .int .i64 2] ty)) (some ⟨w.heap.size, 0, none⟩) c1L := fun _ => by
  have h := World.alloc_heap_new w (.cells #[.int .i64 (-2), .int .i64 0, .int .i64 (-3), .int .i64 1, .int .i64 0, .int .i64 2, .int .i64 1, .int .i64 2] ty)
  refine ⟨w.heap.size, 0, rfl, by simp, fun j hj => ?_⟩
  match j, hj with
  | 0, _ => exact ⟨cell_of_row _ _ 0 _ _ _ h, cell_of_row _ _ 1 _ _ _ h⟩
  | 1, _ => exact ⟨cell_of_row _ _ 2 _ _ _ h, cell_of_row _ _ 3 _ _ _ h⟩
  | 2, _ => exact ⟨cell_of_row _ _ 4 _ _ _ h, cell_of_row _ _ 5 _ _ _ h⟩
  | 3, _ => exact ⟨cell_of_row _ _ 6 _ _ _ h, cell_of_row _ _ 7 _ _ _ h⟩
  | j + 4, hj => exact absurd hj (by simp [c1L])
theorem kpoint (a v : Int) (h : pointT a = v) (hi : I64 a) (W : World) : Calls Tryd.prog 30 #[.int .i64 a] W fun e w' => e = .returned (.int .i64 v) ∧ W = w' := by
  subst h
  exact (point_any a W hi).mono fun e w' h => ⟨h.1, h.2.symm⟩
theorem below_on {X W W' : World} (h : Below X.heap.size X W) (h' : Below W.heap.size W W') : Below X.heap.size X W' := h.trans (h'.mono h.size)
end Go.Proofs.YtlhfdedjboanfaaDoor

/-
  The mathematics of chapter 11's laws. Condition: words of 64 bits.
-/
namespace Go.Proofs.YtlhfdedjboanfaaDoor
open Go.At Go.Sv
section
variable {ns : List ByteArray} {us : List Nat} {J M : Nat → Nat → Nat} {z t : Nat} {c r : List Pr} {ok : Bool}
/-- what is told is a list of points, by place -/
theorem least_sol (h : LeastT ns us c r ok) (hok : ok = true) : ∃ x : Nat → Nat, r = solL c x ∧ ∀ i, i < (varsL c).length → x i < ns.length := by
  obtain ⟨h1, h2, -⟩ := h.yes hok
  obtain ⟨-, hp, -⟩ := solves_parts h2
  have hl : r.length = (varsL c).length := by rw [← h1, List.length_map]
  refine ⟨fun i => (r.getD i (0, 0)).2.toNat, ?_, fun i hi => ?_⟩
  · unfold solL
    refine List.ext_getElem (by simp [hl]) fun i hi hi2 => ?_
    rw [List.getElem_map, List.getElem_range]
    have e1 : (varsL c).getD i 0 = (r[i]).1 := by
      rw [← h1, List.getD_eq_getElem?_getD, List.getElem?_map, List.getElem?_eq_getElem hi]; rfl
    have e2 : r.getD i (0, 0) = r[i] := by rw [List.getD_eq_getElem?_getD, List.getElem?_eq_getElem hi]; rfl
    obtain ⟨k, hk, -⟩ := pnt_nat (List.all_eq_true.1 hp _ (List.getElem_mem hi))
    rw [e1]
    refine Prod.ext rfl ?_
    show (r[i]).2 = (((r.getD i (0, 0)).2.toNat : Nat) : Int)
    rw [e2, hk]; rfl
  · have hi' : i < r.length := by omega
    have e2 : r.getD i (0, 0) = r[i] := by rw [List.getD_eq_getElem?_getD, List.getElem?_eq_getElem hi']; rfl
    obtain ⟨k, hk, hk2⟩ := pnt_nat (List.all_eq_true.1 hp _ (List.getElem_mem hi'))
    show (r.getD i (0, 0)).2.toNat < ns.length
    rw [e2, hk]; exact hk2
/-- a variable that is not among them is at the bottom -/
theorem value_out {s : List Pr} {a : Int} (h0 : 0 ≤ a) (h : ∀ y ∈ s, y.1 ≠ a) : valueT ns us s a = L.bottomI ns us := by
  unfold valueT
  rw [if_neg (by omega), List.find?_eq_none.2 fun x hx => by
    simp only [beq_iff_eq]; exact h x hx]
/-- the pairs' order is nothing: what solves -/
theorem solves_sub {c d s : List Pr} (h : ∀ p, p ∈ c → p ∈ d) (hs : solvesT ns us d s = true) : solvesT ns us c s = true := by
  obtain ⟨h1, h2, h3⟩ := solves_parts hs
  obtain ⟨k1, k2⟩ := known_parts h1
  refine solves_mk ?_ h2 fun p hp => h3 p (h p hp)
  unfold knownT
  rw [k1, Bool.true_and, List.all_eq_true]
  intro p hp
  rw [(k2 p (h p hp)).1, (k2 p (h p hp)).2]; rfl
theorem atoms_sub {c d : List Pr} (h : ∀ p, p ∈ c → p ∈ d) {a : Int} (ha : a ∈ atomsL c) : a ∈ atomsL d := by
  obtain ⟨p, hp, e⟩ := (atoms_mem c a).1 ha
  exact (atoms_mem d a).2 ⟨p, h p hp, e⟩
theorem asc_eq : ∀ {l m : List Int}, Asc ltI l → Asc ltI m → (∀ x, x ∈ l ↔ x ∈ m) → l = m
  | [], [], _, _, _ => rfl
  | [], b :: m, _, _, h => by have := (h b).2 (List.mem_cons_self ..); cases this
  | a :: l, [], _, _, h => by have := (h a).1 (List.mem_cons_self ..); cases this
  | a :: l, b :: m, h1, h2, h => by
    have p1 := List.pairwise_cons.1 h1
    have p2 := List.pairwise_cons.1 h2
    have e : a = b := by
      rcases List.mem_cons.1 ((h a).1 (List.mem_cons_self ..)) with e | e
      · exact e
      · rcases List.mem_cons.1 ((h b).2 (List.mem_cons_self ..)) with e' | e'
        · exact e'.symm
        · have q1 := of_decide_eq_true (p2.1 a e)
          have q2 := of_decide_eq_true (p1.1 b e')
          omega
    subst e
    rw [asc_eq (l := l) (m := m) p1.2 p2.2 fun x => ?_]
    constructor
    · intro hx
      rcases List.mem_cons.1 ((h x).1 (List.mem_cons_of_mem _ hx)) with e | e
      · have q := of_decide_eq_true (p1.1 x hx); omega
      · exact e
    · intro hx
      rcases List.mem_cons.1 ((h x).2 (List.mem_cons_of_mem _ hx)) with e | e
      · have q := of_decide_eq_true (p2.1 x hx); omega
      · exact e
theorem vars_same {c d : List Pr} (h : ∀ p, p ∈ c ↔ p ∈ d) : varsL c = varsL d :=
  asc_eq (vars_asc c) (vars_asc d) fun x => by
    rw [vars_mem, vars_mem]
    exact ⟨fun k => ⟨atoms_sub (fun p => (h p).1) k.1, k.2⟩, fun k => ⟨atoms_sub (fun p => (h p).2) k.1, k.2⟩⟩
/-- there is one least solution -/
theorem least_one {c d r r' : List Pr} {ok ok' : Bool} (hT : L.Told ns us J M z t) (hn : ns.length = us.length) (hm : ∀ p, p ∈ c ↔ p ∈ d) (h : LeastT ns us c r ok) (h' : LeastT ns us d r' ok') : ok = ok' ∧ r = r' := by
  have hs : ∀ s, solvesT ns us c s = solvesT ns us d s := fun s => by
    cases h1 : solvesT ns us c s with
    | true => exact (solves_sub (fun p => (hm p).2) h1).symm
    | false =>
      cases h2 : solvesT ns us d s with
      | false => rfl
      | true => rw [solves_sub (fun p => (hm p).1) h2] at h1; cases h1
  cases ok with
  | false =>
    cases ok' with
    | false => exact ⟨rfl, (h.no rfl).1.trans (h'.no rfl).1.symm⟩
    | true =>
      have h1 := (h'.yes rfl).2.1
      rw [← hs, (h.no rfl).2 r'] at h1
      cases h1
  | true =>
    cases ok' with
    | false =>
      have h1 := (h.yes rfl).2.1
      rw [hs, (h'.no rfl).2 r] at h1
      cases h1
    | true =>
      refine ⟨rfl, ?_⟩
      obtain ⟨x, rfl, hx⟩ := least_sol h rfl
      obtain ⟨y, rfl, hy⟩ := least_sol h' rfl
      have hv := vars_same hm
      have hc : solL d y = solL c y := by unfold solL; rw [hv]
      rw [hc] at h' ⊢
      have hy' : ∀ i, i < (varsL c).length → y i < ns.length := by rw [hv]; exact hy
      have h1 := (h.yes rfl).2.2 (solL c y) (by rw [hs]; exact (h'.yes rfl).2.1)
      have h2 := (h'.yes rfl).2.2 (solL c x) (by rw [← hs]; exact (h.yes rfl).2.1)
      unfold solL
      refine List.map_congr_left fun i hi => ?_
      have hi := List.mem_range.1 hi
      have e1 := h1 ((varsL c).getD i 0, ((x i : Nat) : Int)) (List.mem_map.2 ⟨i, List.mem_range.2 hi, rfl⟩)
      have e2 := h2 ((varsL c).getD i 0, ((y i : Nat) : Int)) (List.mem_map.2 ⟨i, List.mem_range.2 hi, rfl⟩)
      rw [sol_value hn (fun j hj => by rw [← hn]; exact hy' j hj) hi] at e1
      rw [sol_value hn (fun j hj => by rw [← hn]; exact hx j hj) hi] at e2
      have bit : ∀ a b : Nat, L.leqB ns.length us (a : Int) (b : Int) = true → L.le us a b = true := fun a b h => by
        unfold L.leqB at h
        simp only [Bool.and_eq_true] at h
        exact h.2
      rw [hT.lat.ord.anti _ _ (bit _ _ e1) (bit _ _ e2)]
/-- the bottom's atom stands for the bottom -/
theorem value_lo (hT : L.Told ns us J M z t) (s : List Pr) : valueT ns us s (pointT (L.bottomI ns us)) = L.bottomI ns us := by
  have hz := told_z hT
  rw [hT.bottom, show pointT ((z : Nat) : Int) = -1 - ((z : Nat) : Int) from if_neg (by omega)]
  have hk : kn ns.length (-1 - ((z : Nat) : Int)) = true := by
    unfold kn
    rw [show -1 - (-1 - ((z : Nat) : Int)) = ((z : Nat) : Int) by omega, pnt_of (by rw [hT.eqn]; exact hz), Bool.or_true]
  rw [(value_pt (us := us) (s := s) (by omega) hk).1]
  omega
/-- more pairs: no least one below -/
theorem least_more {c d r r' : List Pr} {ok : Bool} (hm : ∀ p, p ∈ c → p ∈ d) (h : LeastT ns us c r ok) (h' : LeastT ns us d r' true) : ok = true ∧ ∀ x ∈ r, L.leqB ns.length us x.2 (valueT ns us r' x.1) = true := by
  have hs := solves_sub hm (h'.yes rfl).2.1
  cases ok with
  | false =>
    rw [(h.no rfl).2 r'] at hs
    cases hs
  | true => exact ⟨rfl, (h.yes rfl).2.2 r' hs⟩
/-- variables of a law's pairs are below ten -/
theorem vars_ten (n : Nat) (hn : 0 < n) (c : List Pr) {a : Int} (h : a ∈ varsL (ptsL n c)) : 0 ≤ a ∧ a < 10 := by
  obtain ⟨h1, h0⟩ := (vars_mem _ _).1 h
  obtain ⟨p, hp, e⟩ := (atoms_mem _ _).1 h1
  obtain ⟨q, -, rfl⟩ := List.mem_map.1 hp
  have key : ∀ b : Int, a = ptT n b → a < 10 := fun b e => by
    by_cases hb : b < 0
    · have := (ptT_neg hn hb).1; omega
    · have := (ptT_pos (n := n) hb).2; omega
  rcases e with e | e
  · exact ⟨h0, key _ e⟩
  · exact ⟨h0, key _ e⟩
theorem sol_out {c : List Pr} {x : Nat → Nat} {a : Int} (h : a ∉ varsL c) : ∀ y ∈ solL c x, y.1 ≠ a := fun y hy e => by
  obtain ⟨i, hi, rfl⟩ := List.mem_map.1 hy
  have hi := List.mem_range.1 hi
  apply h
  rw [← e, getD_get hi]
  exact List.getElem_mem _
end
end Go.Proofs.YtlhfdedjboanfaaDoor
