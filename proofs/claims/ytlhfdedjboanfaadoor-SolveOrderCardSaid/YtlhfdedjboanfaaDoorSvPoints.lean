/-
  The six lattices of chapter 11's statements, laid. No condition.
-/
import Derived.Test.YtlhfdedjboanfaaDoorSvLeast
namespace Go.At
/-- names, rows: six lattices -/
def nsL : Nat → List ByteArray
  | 0 => [⟨#[80]⟩]
  | 1 => [⟨#[76, 111]⟩, ⟨#[72, 105]⟩]
  | 2 => [⟨#[72, 105]⟩, ⟨#[76, 111]⟩]
  | 3 => [⟨#[76]⟩, ⟨#[65]⟩, ⟨#[66]⟩, ⟨#[72]⟩]
  | 4 => [⟨#[76]⟩, ⟨#[77]⟩, ⟨#[72]⟩]
  | _ => [⟨#[76]⟩, ⟨#[65]⟩, ⟨#[66]⟩, ⟨#[67]⟩, ⟨#[72]⟩]
def usL : Nat → List Nat
  | 0 => [1]
  | 1 => [3, 2]
  | 2 => [1, 3]
  | 3 => [15, 10, 12, 8]
  | 4 => [7, 6, 4]
  | _ => [31, 18, 20, 24, 16]
end Go.At
namespace Go.Proofs.YtlhfdedjboanfaaDoor
open Go.RowKit Go.Shelf Go.At Go.Sv
attribute [local go_sem] Oper.semAt_some

theorem latAt_of {W : World} {g h : Nat} {ns : List ByteArray} {us : List Nat} (h1 : W.heap[g]? = some (.cells (ns.map Value.string).toArray 9 (0, 0))) (h2 : W.heap[h]? = some (.cells (us.map fun u => Value.int .u64 (u : Nat)).toArray 72 (0, 0)))
    (hs : ∀ s ∈ ns, s.size ≤ 1048576) (hu : ∀ u ∈ us, u < 18446744073709551616) (hn : ns.length ≤ 64) (hm : us.length ≤ 64) : L.LatAt W (some ⟨g, 0, none⟩) (some ⟨h, 0, none⟩) ns.length ns us where
  names := fun _ => ⟨g, 0, rfl, World.lt_of_get h1, fun j hj => by
    rw [Nat.zero_add, cell_of_row _ _ j _ _ _ h1, List.getElem?_toArray, List.getElem?_map, List.getElem?_eq_getElem hj]
    unfold L.Lt.nm
    rw [List.getD_eq_getElem?_getD, List.getElem?_eq_getElem hj]; rfl⟩
  words := fun _ => ⟨h, 0, rfl, World.lt_of_get h2, fun j hj => by
    rw [Nat.zero_add, cell_of_row _ _ j _ _ _ h2, List.getElem?_toArray, List.getElem?_map, List.getElem?_eq_getElem hj]
    unfold Lt.row
    rw [List.getD_eq_getElem?_getD, List.getElem?_eq_getElem hj]; rfl⟩
  w64 := L.W64.of hu
  smax := fun j => by
    unfold L.Lt.nm
    rw [List.getD_eq_getElem?_getD]
    by_cases hj : j < ns.length
    · rw [List.getElem?_eq_getElem hj]
      have := hs _ (List.getElem_mem hj)
      show (ns[j]).size ≤ _
      omega
    · rw [List.getElem?_eq_none (by omega)]
      exact Nat.zero_le _
  nlen := by omega
  ncap := Nat.le_refl _
  ccap := by omega
  ulen := by omega
/-- a lattice in a row of them -/
def LatsAt (W : World) (g : Nat) : Prop := ∀ i, i < 6 → ∃ A B, W.cell? ⟨g, i * 2, none⟩ = some (.slice A (nsL i).length (nsL i).length) ∧ W.cell? ⟨g, i * 2 + 1, none⟩ = some (.slice B (usL i).length (usL i).length) ∧ L.LatAt W A B (nsL i).length (nsL i) (usL i)
set_option maxRecDepth 100000 in
set_option maxHeartbeats 4000000 in
theorem lats_any (w : World) : Calls Tryd.prog 21 #[] w fun e w' => (∃ g, e = .returned (.slice (some ⟨g, 0, none⟩) 6 6) ∧ LatsAt w' g) ∧ Below w.heap.size w w' := by
  go_enter Tryd.func21, Tryd.ntmps21
  go_wp2_with fail
  go_ret
  refine ⟨⟨_, rfl, fun i hi => ?_⟩, ?_⟩
  · rcases (show i = 0 ∨ i = 1 ∨ i = 2 ∨ i = 3 ∨ i = 4 ∨ i = 5 by omega) with rfl | rfl | rfl | rfl | rfl | rfl
    · refine ⟨_, _, (cell_of_row _ _ 0 _ _ _ (get_new (by simp))).trans rfl, (cell_of_row _ _ 1 _ _ _ (get_new (by simp))).trans rfl, latAt_of (ns := nsL 0) (us := usL 0) ?_ ?_ (by decide) (by decide) (by decide) (by decide)⟩
      · refine Eq.trans (b := some (Obj.cells #[.string ⟨#[80]⟩] 9 (0, 0))) ?_ rfl
        repeat (first | with_reducible exact get_new (by simp) | with_reducible refine get_alloc ?_ _)
      · refine Eq.trans (b := some (Obj.cells #[.int .u64 1] 72 (0, 0))) ?_ rfl
        repeat (first | with_reducible exact get_new (by simp) | with_reducible refine get_alloc ?_ _)
    · refine ⟨_, _, (cell_of_row _ _ 2 _ _ _ (get_new (by simp))).trans rfl, (cell_of_row _ _ 3 _ _ _ (get_new (by simp))).trans rfl, latAt_of (ns := nsL 1) (us := usL 1) ?_ ?_ (by decide) (by decide) (by decide) (by decide)⟩
      · refine Eq.trans (b := some (Obj.cells #[.string ⟨#[76, 111]⟩, .string ⟨#[72, 105]⟩] 9 (0, 0))) ?_ rfl
        repeat (first | with_reducible exact get_new (by simp) | with_reducible refine get_alloc ?_ _)
      · refine Eq.trans (b := some (Obj.cells #[.int .u64 3, .int .u64 2] 72 (0, 0))) ?_ rfl
        repeat (first | with_reducible exact get_new (by simp) | with_reducible refine get_alloc ?_ _)
    · refine ⟨_, _, (cell_of_row _ _ 4 _ _ _ (get_new (by simp))).trans rfl, (cell_of_row _ _ 5 _ _ _ (get_new (by simp))).trans rfl, latAt_of (ns := nsL 2) (us := usL 2) ?_ ?_ (by decide) (by decide) (by decide) (by decide)⟩
      · refine Eq.trans (b := some (Obj.cells #[.string ⟨#[72, 105]⟩, .string ⟨#[76, 111]⟩] 9 (0, 0))) ?_ rfl
        repeat (first | with_reducible exact get_new (by simp) | with_reducible refine get_alloc ?_ _)
      · refine Eq.trans (b := some (Obj.cells #[.int .u64 1, .int .u64 3] 72 (0, 0))) ?_ rfl
        repeat (first | with_reducible exact get_new (by simp) | with_reducible refine get_alloc ?_ _)
    · refine ⟨_, _, (cell_of_row _ _ 6 _ _ _ (get_new (by simp))).trans rfl, (cell_of_row _ _ 7 _ _ _ (get_new (by simp))).trans rfl, latAt_of (ns := nsL 3) (us := usL 3) ?_ ?_ (by decide) (by decide) (by decide) (by decide)⟩
      · refine Eq.trans (b := some (Obj.cells #[.string ⟨#[76]⟩, .string ⟨#[65]⟩, .string ⟨#[66]⟩, .string ⟨#[72]⟩] 9 (0, 0))) ?_ rfl
        repeat (first | with_reducible exact get_new (by simp) | with_reducible refine get_alloc ?_ _)
      · refine Eq.trans (b := some (Obj.cells #[.int .u64 15, .int .u64 10, .int .u64 12, .int .u64 8] 72 (0, 0))) ?_ rfl
        repeat (first | with_reducible exact get_new (by simp) | with_reducible refine get_alloc ?_ _)
    · refine ⟨_, _, (cell_of_row _ _ 8 _ _ _ (get_new (by simp))).trans rfl, (cell_of_row _ _ 9 _ _ _ (get_new (by simp))).trans rfl, latAt_of (ns := nsL 4) (us := usL 4) ?_ ?_ (by decide) (by decide) (by decide) (by decide)⟩
      · refine Eq.trans (b := some (Obj.cells #[.string ⟨#[76]⟩, .string ⟨#[77]⟩, .string ⟨#[72]⟩] 9 (0, 0))) ?_ rfl
        repeat (first | with_reducible exact get_new (by simp) | with_reducible refine get_alloc ?_ _)
      · refine Eq.trans (b := some (Obj.cells #[.int .u64 7, .int .u64 6, .int .u64 4] 72 (0, 0))) ?_ rfl
        repeat (first | with_reducible exact get_new (by simp) | with_reducible refine get_alloc ?_ _)
    · refine ⟨_, _, (cell_of_row _ _ 10 _ _ _ (get_new (by simp))).trans rfl, (cell_of_row _ _ 11 _ _ _ (get_new (by simp))).trans rfl, latAt_of (ns := nsL 5) (us := usL 5) ?_ ?_ (by decide) (by decide) (by decide) (by decide)⟩
      · refine Eq.trans (b := some (Obj.cells #[.string ⟨#[76]⟩, .string ⟨#[65]⟩, .string ⟨#[66]⟩, .string ⟨#[67]⟩, .string ⟨#[72]⟩] 9 (0, 0))) ?_ rfl
        repeat (first | with_reducible exact get_new (by simp) | with_reducible refine get_alloc ?_ _)
      · refine Eq.trans (b := some (Obj.cells #[.int .u64 31, .int .u64 18, .int .u64 20, .int .u64 24, .int .u64 16] 72 (0, 0))) ?_ rfl
        repeat (first | with_reducible exact get_new (by simp) | with_reducible refine get_alloc ?_ _)
  · repeat (first | with_reducible exact Below.refl _ _ | with_reducible refine below_al ?_ _)
end Go.Proofs.YtlhfdedjboanfaaDoor

/-
  point, points, lo, hi of chapter 11's statements. Condition: the lattice, the pairs can be read.
-/
namespace Go.At
/-- an atom: of a point one of so many, of a variable one of ten -/
def ptT (n : Nat) (a : Int) : Int := if a < 0 then -1 - (-1 - a) % (n : Int) else a % 10
def ptP (n : Nat) (p : Pr) : Pr := (ptT n p.1, ptT n p.2)
def ptsL (n : Nat) (c : List Pr) : List Pr := (c.take 30).map (ptP n)
theorem ptT_neg {n : Nat} (hn : 0 < n) {a : Int} (h : a < 0) : ptT n a < 0 ∧ ∃ q : Nat, -1 - ptT n a = (q : Int) ∧ q < n := by
  unfold ptT
  rw [if_pos h]
  have h1 := Int.emod_nonneg (-1 - a) (show (n : Int) ≠ 0 by omega)
  have h2 := Int.emod_lt_of_pos (-1 - a) (show (0 : Int) < n by omega)
  exact ⟨by omega, ((-1 - a) % (n : Int)).toNat, by omega, by omega⟩
theorem ptT_pos {n : Nat} {a : Int} (h : ¬ a < 0) : 0 ≤ ptT n a ∧ ptT n a < 10 := by
  unfold ptT
  rw [if_neg h]
  omega
theorem ptT_i64 {n : Nat} (hn : 0 < n) (hn2 : n ≤ 64) (a : Int) : I64 (ptT n a) := by
  by_cases h : a < 0
  · obtain ⟨h1, q, h2, h3⟩ := ptT_neg hn h
    exact ⟨by omega, by omega⟩
  · obtain ⟨h1, h2⟩ := ptT_pos (n := n) h
    exact ⟨by omega, by omega⟩
theorem ptsL_len (n : Nat) (c : List Pr) : (ptsL n c).length ≤ 30 := by
  unfold ptsL
  rw [List.length_map, List.length_take]
  exact Nat.min_le_left _ _
theorem ptsL_i64 {n : Nat} (hn : 0 < n) (hn2 : n ≤ 64) (c : List Pr) : ∀ p ∈ ptsL n c, I64 p.1 ∧ I64 p.2 := fun p hp => by
  obtain ⟨q, _, rfl⟩ := List.mem_map.1 hp
  exact ⟨ptT_i64 hn hn2 _, ptT_i64 hn hn2 _⟩
end Go.At
namespace Go.Proofs.YtlhfdedjboanfaaDoor
open Go.RowKit Go.Shelf Go.At Go.Sv
attribute [local go_sem] Oper.semAt_some

theorem pts_known {n : Nat} (hn : 0 < n) (c : List Pr) : ∀ p ∈ ptsL n c, kn n p.1 = true ∧ kn n p.2 = true := fun p hp => by
  obtain ⟨q, _, rfl⟩ := List.mem_map.1 hp
  have key : ∀ a, kn n (ptT n a) = true := fun a => by
    by_cases h : a < 0
    · obtain ⟨h1, q, h2, h3⟩ := ptT_neg hn h
      unfold kn isP
      rw [decide_eq_true h1, h2]
      simp only [Bool.not_true, Bool.false_or]
      exact pnt_of h3
    · exact kn_var (ptT_pos h).1
  exact ⟨key _, key _⟩
set_option maxRecDepth 100000 in
set_option maxHeartbeats 1000000 in
theorem lawPt_any (A B : Option Addr) (n m c d : Nat) (hn : 0 < n) (hn2 : n ≤ 64) (a : Int) (ha : I64 a) (w : World) :
    Calls Tryd.prog 50 #[.agg #[.slice A n c, .slice B m d], .int .i64 a] w fun e w' => e = .returned (.int .i64 (ptT n a)) ∧ Below w.heap.size w w' := by
  have hb := Lib.hid (later_alloc w (.cells #[.slice A n c, .slice B m d] 25))
  have kp := Lib.hid (fun W => (pointOf_any a W ha).mono fun e w' h => (And.intro h.1 h.2.symm : _ ∧ W = w'))
  unfold ptT
  by_cases h : a < 0
  · rw [if_pos h]
    have e : pointOfT a = -1 - a := if_pos h
    rw [e] at kp
    have h1 := Int.emod_nonneg (-1 - a) (show (n : Int) ≠ 0 by omega)
    have h2 := Int.emod_lt_of_pos (-1 - a) (show (0 : Int) < n by omega)
    have kq := Lib.hid (fun W => (point_any ((-1 - a) % (n : Int)) W ⟨by omega, by omega⟩).mono fun e w' h => (And.intro h.1 h.2.symm : _ ∧ W = w'))
    rw [show pointT ((-1 - a) % (n : Int)) = -1 - (-1 - a) % (n : Int) from if_neg (by omega)] at kq
    have hn0 : ((n : Int) == 0) = false := by rw [beq_eq_false_iff_ne]; omega
    have hn1 : ¬ ((n : Int) = 0) := by omega
    have hn9 : ¬ (n = 0) := by omega
    have htm : Int.tmod (-1 - a) (n : Int) = (-1 - a) % (n : Int) := Int.tmod_eq_emod_of_nonneg (by omega)
    have hwr : IntKind.i64.wrap ((-1 - a) % (n : Int)) = (-1 - a) % (n : Int) := wrap_i ⟨by omega, by omega⟩
    replace e := Lib.hid e
    generalize (-1 - a) % (n : Int) = r at kq htm hwr h1 h2
    generalize -1 - a = s at kp htm
    clear h1 h2
    go_enter Tryd.func50, Tryd.ntmps50
    go_wp2_with fail
    go_region_with (first
      | (go_at_call 43; refine (kp.out _).mono ?_; rintro e w' ⟨rfl, rfl⟩)
      | (go_at_call 30; refine (kq.out _).mono ?_; rintro e w' ⟨rfl, rfl⟩))
    all_goals
      go_wp2_with fail
      go_ret
      exact ⟨rfl, hb.out.drew⟩
  · rw [if_neg h]
    have htm : Int.tmod a 10 = a % 10 := Int.tmod_eq_emod_of_nonneg (by omega)
    have hwr : IntKind.i64.wrap (a % 10) = a % 10 := wrap_i ⟨by omega, by omega⟩
    go_enter Tryd.func50, Tryd.ntmps50
    go_wp2_with fail
    go_ret
    exact ⟨rfl, hb.out⟩
theorem infoPq : (Tryd.prog.info? 58).map (fun i => (i.zero, i.size, i.bytes)) = some (some (.agg #[.int .i64 0, .int .i64 0]), 2, 16) := by kernel_rfl
theorem news_pq (w : World) (x y : Int) : ∀ j u, [Value.int .i64 x, .int .i64 y][j]? = some u → (w.alloc (.cells #[.int .i64 x, .int .i64 y] 58)).cell? ((⟨w.heap.size, 0, none⟩ : Addr).add j) = some u := fun j u hj => by
  have hx := World.alloc_heap_new w (.cells #[.int .i64 x, .int .i64 y] 58)
  rw [Addr.add_lit, Nat.zero_add, cell_of_row _ _ j _ _ _ hx]
  simpa using hj
set_option maxRecDepth 100000 in
set_option maxHeartbeats 4000000 in
theorem points_any (A B : Option Addr) (n m c d : Nat) (hn : 0 < n) (hn2 : n ≤ 64) (C : Option Addr) (l : List Pr) (cc : Nat) (w : World) (hP : Prs w C l) (h6 : ∀ p ∈ l, I64 p.1 ∧ I64 p.2) (hl : l.length ≤ 8796093022208) :
    Calls Tryd.prog 22 #[.agg #[.slice A n c, .slice B m d], .slice C l.length cc] w fun e w' => (∃ A' c', e = .returned (.slice A' (ptsL n l).length c') ∧ Prs w' A' (ptsL n l) ∧ OkS A' (ptsL n l).length c') ∧ Below w.heap.size w w' := by
  obtain ⟨i0, hi, hi2⟩ := Option.map_eq_some_iff.1 infoPq
  obtain ⟨hz0, hz1, hz2⟩ : i0.zero = some (.agg #[.int .i64 0, .int .i64 0]) ∧ i0.size = 2 ∧ i0.bytes = 16 := by
    injection hi2 with h1 h2; injection h2 with h2 h3; exact ⟨h1, h2, h3⟩
  clear hi2
  have hb0 := later_alloc w (.cells #[.slice A n c, .slice B m d] 25)
  have hx0 := World.alloc_heap_new w (.cells #[.slice A n c, .slice B m d] 25)
  obtain ⟨W0, hW0⟩ : ∃ W, w.alloc (.cells #[.slice A n c, .slice B m d] 25) = W := ⟨_, rfl⟩
  rw [hW0] at hb0 hx0
  have z1 : W0.heap.size = w.heap.size + 1 := by rw [← hW0, World.size_alloc]
  have b0 : W0.cell? ⟨w.heap.size, 0, none⟩ = some (.slice A n c) := cell_of_row _ _ 0 _ _ _ hx0
  have b1 : W0.cell? ⟨w.heap.size, 1, none⟩ = some (.slice B m d) := cell_of_row _ _ 1 _ _ _ hx0
  have kb := Lib.hid (fun (W : World) (h : Below W0.heap.size W0 W) => And.intro ((h.cell (p := ⟨w.heap.size, 0, none⟩) (by show w.heap.size < _; omega)).trans b0) ((h.cell (p := ⟨w.heap.size, 1, none⟩) (by show w.heap.size < _; omega)).trans b1))
  have kP := Lib.hid (fun (W : World) (h : Below W0.heap.size W0 W) => (hP.later hb0).later h)
  have hml : (l.take 30).length = min 30 l.length := List.length_take
  obtain ⟨K, hK⟩ : ∃ K, (l.take 30).length = K := ⟨_, rfl⟩
  rw [hK] at hml
  have hK30 : K ≤ 30 := by omega
  have hpl : Hid ((ptsL n l).length = K) := by show _ = _; unfold ptsL; rw [List.length_map, hK]
  obtain ⟨Q, hQ⟩ : ∃ Q, l.length = Q := ⟨_, rfl⟩
  rw [hQ] at hml hl ⊢
  have hKQ : K ≤ Q := by omega
  replace hml := Lib.hid hml
  replace hQ := Lib.hid hQ
  replace hK := Lib.hid hK
  replace hb0 := Lib.hid hb0
  replace hx0 := Lib.hid hx0
  replace z1 := Lib.hid z1
  replace hP := Lib.hid hP
  replace h6 := Lib.hid h6
  replace hi := Lib.hid hi
  replace hz0 := Lib.hid hz0
  replace hz1 := Lib.hid hz1
  replace hz2 := Lib.hid hz2
  clear b0 b1
  go_enter Tryd.func22, Tryd.ntmps22
  go_wp2_with fail
  go_loopw [5, 6] (fun v i W => ∃ k : Nat, k ≤ K ∧ i = .int .i64 k ∧ Hid (W.ownsRow W0.heap.size 58 2 v k (cellsP ((l.take k).map (ptP n)))) ∧ Hid (Below W0.heap.size W0 W)) (fun _ i _ => K - (intOf i).toNat)
  case atStart => exact ⟨0, Nat.zero_le _, rfl, ⟨rfl, .inl ⟨rfl, rfl⟩⟩, Below.refl _ _⟩
  case round =>
    obtain ⟨k, hk, rfl, hown, hB⟩ := hrel
    by_cases hlt : k < K
    · have hkl : k < l.length := by have := hQ.out; omega
      have hkQ : (k : Int) < (Q : Int) := by omega
      have hk30 : (k : Int) < 30 := by omega
      obtain ⟨b, off, rfl, hbk, hc⟩ := (kP.out wr hB.out) (by intro e; subst e; simp at hkl)
      obtain ⟨c0, c1⟩ := hc k hkl
      clear hc
      have htk := take_snoc l (0, 0) k hkl
      have h6k := h6.out (l.getD k (0, 0)) (by rw [List.getD_eq_getElem?_getD, List.getElem?_eq_getElem hkl]; exact List.getElem_mem _)
      have hbC : b < W0.heap.size := by
        obtain ⟨b2, off2, e2, hb2, _⟩ := (kP.out W0 (Below.refl _ _)) (by intro e; subst e; simp at hkl)
        injection e2 with e2; injection e2 with e2
        rw [e2]; exact hb2
      generalize l.getD k (0, 0) = p at c0 c1 htk h6k
      obtain ⟨x, y⟩ := p
      dsimp only at c0 c1 h6k
      have hcl : Hid (cellsP ((l.take (k + 1)).map (ptP n)) = cellsP ((l.take k).map (ptP n)) ++ [.int .i64 (ptT n x), .int .i64 (ptT n y)]) := by
        show _ = _
        rw [htk, List.map_append, cellsP_append]; rfl
      clear htk
      have hkeep := Lib.hid (fun (W : World) (h : Below W0.heap.size W0 W) => And.intro (kb.out W h).1 (And.intro (kb.out W h).2 (And.intro ((h.cell (p := ⟨b, off + k * 2, none⟩) hbC).trans ((hB.out.cell (p := ⟨b, off + k * 2, none⟩) hbC).symm.trans c0)) ((h.cell (p := ⟨b, off + k * 2 + 1, none⟩) hbC).trans ((hB.out.cell (p := ⟨b, off + k * 2 + 1, none⟩) hbC).symm.trans c1)))))
      have kpt := Lib.hid (fun (a : Int) (ha : a = x ∨ a = y) (W : World) (h : Below wr.heap.size wr W) => (lawPt_any A B n m c d hn hn2 a (by rcases ha with rfl | rfl; exact h6k.1; exact h6k.2) W).mono fun e w' ⟨he, hb⟩ => (And.intro he (h.trans (hb.mono h.size)) : e = Ending.returned (.int .i64 (ptT n a)) ∧ Below wr.heap.size wr w'))
      generalize ptT n = f at kpt hcl
      have hO : Hid (Below wr.heap.size wr wr.drew) := (Below.refl _ _).drew
      have hOa := Lib.hid (fun (W : World) (h : Below wr.heap.size wr W) (o : Obj) => below_al h o)
      obtain ⟨xs, hxs⟩ : ∃ xs, cellsP ((l.take k).map (ptP n)) = xs := ⟨_, rfl⟩
      rw [hxs] at hown hcl
      replace hxs := Lib.hid hxs
      have hwn := Lib.hid (fun (W : World) (h : Below wr.heap.size wr W) => own_later hown.out h)
      clear c0 c1 h6k
      go_wp2_with fail
      go_region_held3 (fun W => W.cell? ⟨w.heap.size, 0, none⟩ = some (.slice A n c) ∧ W.cell? ⟨w.heap.size, 1, none⟩ = some (.slice B m d) ∧ W.cell? ⟨b, off + k * 2, none⟩ = some (.int .i64 x) ∧ W.cell? ⟨b, off + k * 2 + 1, none⟩ = some (.int .i64 y))
        (first | exact hkeep.out _ (hB.out.trans (hO.out.mono hB.out.size)) | exact hkeep.out _ (hB.out.trans ((hOa.out _ hO.out _).mono hB.out.size)) | exact hkeep.out _ hb3.out)
        (first
          | (go_at_call 50; refine (kpt.out _ (by first | exact .inl rfl | exact .inr rfl) _ hO.out).mono ?_; clear hO; rintro e w9 ⟨rfl, hb9⟩; have hO : Hid (Below wr.heap.size wr w9) := hb9; clear hb9)
          | (refine step_append_hat rfl (.tmp 17) (.tmp 33) 26 rfl W0.heap.size 58 i0 (.agg #[.int .i64 0, .int .i64 0]) 2 16 Tryd.underlying26 hi.out hz0.out hz1.out hz2.out rfl (by decide) _ k xs (by go_simp) (hwn.out _ (hOa.out _ hO.out (.cells #[.int .i64 (f x), .int .i64 (f y)] 58))) _ 1 1 [.int .i64 (f x), .int .i64 (f y)] (by go_simp) rfl (news_pq _ (f x) (f y)) (fun u hu => by simp at hu; rcases hu with rfl | rfl <;> rfl) (by unfold maxLen; omega) (by omega) (Nat.le_trans hB.out.size (hOa.out _ hO.out _).size) ?_
             intro v'' w3 hown' hgrow _
             have hown2 : Hid (w3.ownsRow W0.heap.size 58 2 v'' (k + 1) (cellsP ((l.take (k + 1)).map (ptP n)))) := by
               show w3.ownsRow _ _ _ _ _ _
               rw [hcl.out]
               exact hown'
             have hb3 : Hid (Below W0.heap.size W0 w3) := (hB.out.trans ((hOa.out _ hO.out _).mono hB.out.size)).grown hgrow (Nat.le_trans hB.out.size (hOa.out _ hO.out _).size) (own_block hown.out)
             clear hown' hgrow))
      all_goals
        clear hkeep kpt hO hOa hwn
        go_wp2_with fail
        go_roundw
        case rel => exact ⟨k + 1, by omega, by go_num, hown2, hb3⟩
        case measure => simp [intOf]; omega
    · obtain rfl : k = K := by omega
      have ho := hown.out
      rw [show (l.take k).map (ptP n) = ptsL n l from by
        unfold ptsL
        have h1 := hK.out
        rw [List.length_take] at h1
        have h2 : l.take k = l.take 30 := by
          by_cases h3 : l.length ≤ 30
          · rw [List.take_of_length_le (by omega), List.take_of_length_le h3]
          · rw [show k = 30 by omega]
        rw [h2], ← hpl.out] at ho
      have hok := ho
      obtain ⟨A5, c5, e5, h5, -⟩ := prs_own ho
      rw [hpl.out] at e5
      subst e5
      have hok5 := Lib.hid (own_ok hok)
      have hret : Hid (Ending.returned (.slice A5 k c5) = Ending.returned (.slice A5 (ptsL n l).length c5)) := by show _ = _; rw [hpl.out]
      have e0 : decide ((k : Int) < (Q : Int)) = true ∨ decide ((k : Int) < (Q : Int)) = false := by cases decide ((k : Int) < (Q : Int)) <;> simp
      replace h5 := Lib.hid h5
      replace ho := Lib.hid ho
      clear hok
      rcases e0 with e0 | e0
      · have e4 : (k : Int) < (Q : Int) := of_decide_eq_true e0
        have e3 : ¬ ((k : Int) < 30) := by have := of_decide_eq_true e0; have := hml.out; omega
        go_wp2_with fail
        go_ret
        exact ⟨⟨A5, c5, hret.out, h5.out, hok5.out⟩, hb0.out.trans (hB.out.mono hb0.out.size)⟩
      · have e3 : ¬ ((k : Int) < (Q : Int)) := of_decide_eq_false e0
        go_wp2_with fail
        go_ret
        exact ⟨⟨A5, c5, hret.out, h5.out, hok5.out⟩, hb0.out.trans (hB.out.mono hb0.out.size)⟩
end Go.Proofs.YtlhfdedjboanfaaDoor
