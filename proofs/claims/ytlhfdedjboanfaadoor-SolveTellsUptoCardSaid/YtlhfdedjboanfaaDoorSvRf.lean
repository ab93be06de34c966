/-
  What the reference of chapter 11 goes through, as plain mathematics: rounds over the pairs until nothing changes. Condition: words of 64 bits.
  The reference of chapter 1: Leq, Right, Join, Bottom, as far as chapter 11 calls them. Condition: the lattice can be read.
  What is wanted of the reference of chapter 10: pairs copied, PointOf, Add, Vars, Points. Condition: they can be read, at most 2^20.
  The reference's point, Known, Value, Solves of chapter 11. Condition: the lattice, the pairs, the Sols can be read; the library's table lies as laid.
  The reference's Solves, Least of chapter 11. Condition: the lattice, the pairs, the Sols can be read, at most 2^20 pairs; the library's table lies as laid.
  The reference's Least of chapter 11. Condition: the lattice, the pairs can be read, at most 2^20; the library's table lies as laid.
  A lattice cut to 12 points, and the statements' refLat. Condition: the lattice can be read.
-/
import Derived.Test.YtlhfdedjboanfaaDoorSvEx
import Derived.Test.YtlhfdedjboanfaaDoorLtOrder
import Derived.BigQuiet
import Derived.Deep.QuietTactic
import Derived.Deep.RegionLaw
import Derived.Deep.LoopGhost
namespace Go.Proofs.YtlhfdedjboanfaaDoor
open Go.At Go.Sv
section
variable {ns : List ByteArray} {us : List Nat} {J M : Nat → Nat → Nat} {z t : Nat} {c : List Pr} {x : Nat → Nat}

/-- points for the variables that are below each solution's -/
structure Lw (ns : List ByteArray) (us : List Nat) (c : List Pr) (x : Nat → Nat) : Prop where
  pt : ∀ i, i < (varsL c).length → x i < us.length
  low : ∀ s, solvesT ns us c s = true → ∀ i, i < (varsL c).length → L.le us (x i) (valOf ns us c s i) = true

theorem lw_bottom (hT : L.Told ns us J M z t) : Lw ns us c (fun _ => z) :=
  ⟨fun _ _ => told_z hT, fun _ hs _ hi => hT.isZ _ (valOf_eq hT (solves_parts hs).2.1 hi).2⟩

theorem lw_value (hT : L.Told ns us J M z t) (hk : knownT ns us c = true) (h : Lw ns us c x) {p : Pr} (hp : p ∈ c) {a : Int} (ha : a = p.1 ∨ a = p.2) :
    ∃ k : Nat, valueT ns us (solL c x) a = (k : Int) ∧ k < us.length ∧ ∀ s, solvesT ns us c s = true → ∃ k' : Nat, valueT ns us s a = (k' : Int) ∧ k' < us.length ∧ L.le us k k' = true := by
  have hkp := (known_parts hk).2 p hp
  have ha' : kn ns.length a = true := by
    rcases ha with rfl | rfl
    · exact hkp.1
    · exact hkp.2
  have hm : a ∈ atomsL c := (atoms_mem c _).2 ⟨p, hp, ha⟩
  by_cases h0 : a < 0
  · obtain ⟨e, q, g, hq⟩ := value_pt (us := us) (s := solL c x) h0 ha'
    refine ⟨q, e.trans g, by rw [← hT.eqn]; exact hq, fun s _ => ⟨q, ((value_pt (us := us) (s := s) h0 ha').1).trans g, by rw [← hT.eqn]; exact hq, hT.lat.ord.refl _ (by rw [← hT.eqn]; exact hq)⟩⟩
  · obtain ⟨i, hi, rfl⟩ := vars_at hm (by omega)
    refine ⟨x i, sol_value hT.eqn h.pt hi, h.pt i hi, fun s hs => ?_⟩
    obtain ⟨e, hv⟩ := valOf_eq hT (solves_parts hs).2.1 hi
    exact ⟨_, e, hv, h.low s hs i hi⟩

theorem lw_none (hT : L.Told ns us J M z t) (hk : knownT ns us c = true) (h : Lw ns us c x) {p : Pr} (hp : p ∈ c) (hn : holdsT ns us (solL c x) p = false) (h2 : p.2 < 0) (s : List Pr) : solvesT ns us c s = false := by
  cases hs : solvesT ns us c s with
  | false => rfl
  | true =>
    obtain ⟨k, e, hk1, hl⟩ := lw_value hT hk h hp (.inl rfl)
    obtain ⟨k', e', hk', hle⟩ := hl s hs
    obtain ⟨f, q, g, hq⟩ := value_pt (us := us) (s := s) h2 ((known_parts hk).2 p hp).2
    have f' := (value_pt (us := us) (s := solL c x) h2 ((known_parts hk).2 p hp).2).1
    have hq : q < us.length := by rw [← hT.eqn]; exact hq
    have hh := (solves_parts hs).2.2 p hp
    unfold holdsT at hh hn
    rw [e', f, g, hT.leq _ _ hk' hq] at hh
    rw [e, f', g, hT.leq _ _ hk1 hq, hT.lat.ord.trans _ _ _ hle hh] at hn
    cases hn

theorem lw_step (hT : L.Told ns us J M z t) (hk : knownT ns us c = true) (h : Lw ns us c x) {p : Pr} (hp : p ∈ c) (hn : holdsT ns us (solL c x) p = false) (h2 : 0 ≤ p.2) :
    ∃ b y, b < (varsL c).length ∧ (varsL c).getD b 0 = p.2 ∧ L.joinI ns us (valueT ns us (solL c x) p.1) (valueT ns us (solL c x) p.2) = ((y : Nat) : Int) ∧ Lw ns us c (upd x b y) ∧ total (fun i => Lt.row us (upd x b y i)) (varsL c).length < total (fun i => Lt.row us (x i)) (varsL c).length := by
  obtain ⟨k, e, hk1, hl⟩ := lw_value hT hk h hp (.inl rfl)
  obtain ⟨b, hb, eb⟩ := vars_at ((atoms_mem c _).2 ⟨p, hp, .inr rfl⟩) h2
  have hxb := h.pt b hb
  have e2 : valueT ns us (solL c x) p.2 = ((x b : Nat) : Int) := by rw [← eb]; exact sol_value hT.eqn h.pt hb
  have hJ := hT.isJ k (x b) hk1 hxb
  obtain ⟨hj1, hj2⟩ := (told_rows hT).join k (x b) hk1 hxb
  refine ⟨b, J k (x b), hb, eb, by rw [e, e2]; exact hT.join _ _ hk1 hxb, ⟨fun i hi => ?_, fun s hs i hi => ?_⟩, ?_⟩
  · by_cases hib : i = b
    · subst hib; rw [upd_same]; exact hj1
    · rw [upd_other _ _ hib]; exact h.pt i hi
  · by_cases hib : i = b
    · subst hib
      rw [upd_same]
      obtain ⟨k', e', hk', hle⟩ := hl s hs
      have hh := (solves_parts hs).2.2 p hp
      obtain ⟨ev, hv⟩ := valOf_eq (c := c) hT (solves_parts hs).2.1 hi
      unfold holdsT at hh
      rw [e', ← eb, ev, hT.leq _ _ hk' hv] at hh
      exact hJ.least _ (hT.lat.ord.trans _ _ _ hle hh) (h.low s hs i hi)
    · rw [upd_other _ _ hib]; exact h.low s hs i hi
  · have hu : (fun i => Lt.row us (upd x b (J k (x b)) i)) = upd (fun i => Lt.row us (x i)) b (Lt.row us (J k (x b))) := by
      funext i
      unfold upd
      by_cases hib : i = b
      · rw [if_pos hib, if_pos hib]
      · rw [if_neg hib, if_neg hib]
    have ht := total_upd (fun i => Lt.row us (x i)) b (Lt.row us (J k (x b))) _ hb
    rw [hu]
    have hlt : Lt.row us (J k (x b)) < Lt.row us (x b) := by
      rw [hj2]
      refine Nat.lt_of_le_of_ne Nat.and_le_right fun ee => ?_
      have hbit : (Lt.row us k &&& Lt.row us (x b)).testBit (x b) = true := by rw [ee]; exact hT.lat.ord.refl _ hxb
      rw [Nat.testBit_and, Bool.and_eq_true] at hbit
      unfold holdsT at hn
      rw [e, e2, hT.leq _ _ hk1 hxb] at hn
      have : L.le us k (x b) = true := hbit.1
      rw [this] at hn
      cases hn
    have hlt' : Lt.row us (J k (x b)) < (fun i => Lt.row us (x i)) b := hlt
    omega

theorem lw_done (hT : L.Told ns us J M z t) (hk : knownT ns us c = true) (h : Lw ns us c x) (hh : ∀ p ∈ c, holdsT ns us (solL c x) p = true) : LeastT ns us c (solL c x) true :=
  ⟨fun _ => ⟨sol_fst c x, solves_mk hk (sol_all hT.eqn h.pt) hh, fun s hs y hy => by
    obtain ⟨i, hi, rfl⟩ := List.mem_map.1 hy
    have hi := List.mem_range.1 hi
    obtain ⟨e, hv⟩ := valOf_eq (c := c) hT (solves_parts hs).2.1 hi
    show L.leqB ns.length us ((x i : Nat) : Int) (valueT ns us s ((varsL c).getD i 0)) = true
    rw [e, hT.leq _ _ (h.pt i hi) hv]
    exact h.low s hs i hi⟩, fun k => by cases k⟩
theorem lw_stop {p : Pr} (hT : L.Told ns us J M z t) (hk : knownT ns us c = true) (h : Lw ns us c x) (hp : p ∈ c) (hn : holdsT ns us (solL c x) p = false) (h2 : p.2 < 0) : LeastT ns us c [] false :=
  ⟨fun k => (by cases k), fun _ => ⟨rfl, lw_none hT hk h hp hn h2⟩⟩
end
end Go.Proofs.YtlhfdedjboanfaaDoor
namespace Go.Proofs.YtlhfdedjboanfaaDoor.L
open Go.RowKit Go.Shelf Go.Lt
def byteAt (s : ByteArray) (i : Nat) : UInt8 := s.data.toList.getD i 0
theorem toList_inj {a b : ByteArray} (h : a.data.toList = b.data.toList) : a = b := by
  cases a; cases b
  simp only [ByteArray.mk.injEq]
  exact Array.toList_inj.1 h
/-- a struct of two slices in a box of its own -/
def Box2 (W : World) (p : Nat) (u v : Value) : Prop := W.cell? ⟨p, 0, none⟩ = some u ∧ W.cell? ⟨p, 1, none⟩ = some v ∧ p < W.heap.size
theorem Box2.new (W : World) (u v : Value) (t : TypeId) : Box2 (W.alloc (.cells #[u, v] t)) W.heap.size u v := ⟨(box_two W u v t).1, (box_two W u v t).2, by simp⟩
theorem Box2.later {W W' : World} {p : Nat} {u v : Value} (h : Box2 W p u v) (hb : Below W.heap.size W W') : Box2 W' p u v :=
  ⟨(hb.cell (p := ⟨p, 0, none⟩) h.2.2).trans h.1, (hb.cell (p := ⟨p, 1, none⟩) h.2.2).trans h.2.1, Nat.lt_of_lt_of_le h.2.2 hb.size⟩
theorem later_alloc (W : World) (o : Obj) : Below W.heap.size W (W.alloc o) := (Below.refl _ _).alloc (Nat.le_refl _) _
end Go.Proofs.YtlhfdedjboanfaaDoor.L

namespace Go.Proofs.YtlhfdedjboanfaaDoor.L
open Go.RowKit Go.Shelf Go.Lt

structure At (w W : World) (p : Nat) (A B : Option Addr) (c d : Nat) (ns : List ByteArray) (us : List Nat) : Prop where
  below : Below w.heap.size w W
  env : Env W
  box : Box2 W p (.slice A ns.length c) (.slice B us.length d)
  lat : LatAt W A B c ns us
variable {w W : World} {p : Nat} {A B : Option Addr} {c d : Nat} {ns : List ByteArray} {us : List Nat}
theorem At.later {W' : World} (h : At w W p A B c d ns us) (hb : Below W.heap.size W W') : At w W' p A B c d ns us :=
  ⟨h.below.trans (hb.mono h.below.size), h.env.later hb, h.box.later hb, h.lat.later hb⟩
theorem At.drew (h : At w W p A B c d ns us) : At w W.drew p A B c d ns us := h.later (Below.refl _ _).drew
theorem At.new (hE : Env w) (hL : LatAt w A B c ns us) : At w (w.alloc (.cells #[.slice A ns.length c, .slice B us.length d] 25)) w.heap.size A B c d ns us :=
  ⟨later_alloc _ _, hE.later (later_alloc _ _), Box2.new w _ _ _, hL.later (later_alloc _ _)⟩

theorem at_right (hX : At w W p A B c d ns us) {r : Bool} (hr : rightB ns us = r) : Calls Tryd.prog 38 #[.agg #[.slice A ns.length c, .slice B us.length d]] W fun e w' => e = .returned (.bool r) ∧ Hid (At w w' p A B c d ns us) :=
  (right_any A B ns us c d W hX.env hX.lat).mono fun _ _ ⟨h1, h2⟩ => ⟨by rw [h1, hr], hX.later h2⟩
theorem at_leq (hX : At w W p A B c d ns us) (a b : Int) {r : Bool} (hr : leqB ns.length us a b = r) : Calls Tryd.prog 23 #[.agg #[.slice A ns.length c, .slice B us.length d], .int .i64 a, .int .i64 b] W fun e w' => e = .returned (.bool r) ∧ Hid (At w w' p A B c d ns us) :=
  (leq_any A B us ns.length c d a b W hX.lat.words hX.lat.w64 hX.lat.ulen).mono fun _ _ ⟨h1, h2⟩ => ⟨by rw [h1, hr], hX.later h2⟩
theorem at_bottom (hX : At w W p A B c d ns us) {r : Int} (hr : bottomI ns us = r) : Calls Tryd.prog 28 #[.agg #[.slice A ns.length c, .slice B us.length d]] W fun e w' => e = .returned (.int .i64 r) ∧ Hid (At w w' p A B c d ns us) :=
  (bottom_any A B ns us c d W hX.env hX.lat).mono fun _ _ ⟨h1, h2⟩ => ⟨by rw [h1, hr], hX.later h2⟩
theorem at_top (hX : At w W p A B c d ns us) {r : Int} (hr : topI ns us = r) : Calls Tryd.prog 27 #[.agg #[.slice A ns.length c, .slice B us.length d]] W fun e w' => e = .returned (.int .i64 r) ∧ Hid (At w w' p A B c d ns us) :=
  (top_any A B ns us c d W hX.env hX.lat).mono fun _ _ ⟨h1, h2⟩ => ⟨by rw [h1, hr], hX.later h2⟩
theorem no_join {a b : Int} (h : rightB ns us = false) : joinI ns us a b = -1 := by unfold joinI; simp [h]
theorem no_meet {a b : Int} (h : rightB ns us = false) : meetI ns us a b = -1 := by unfold meetI; simp [h]
theorem no_bottom (h : rightB ns us = false) : bottomI ns us = -1 := by unfold bottomI; simp [h]
theorem no_top (h : rightB ns us = false) : topI ns us = -1 := by unfold topI; simp [h]
theorem modN (a : Int) {n : Nat} (hn : 1 ≤ n) : ∃ x : Nat, a % (n : Int) = (x : Int) ∧ x < n := by
  have h1 := Int.emod_nonneg a (b := (n : Int)) (by omega)
  have h2 := Int.emod_lt_of_pos a (b := (n : Int)) (by omega)
  exact ⟨(a % (n : Int)).toNat, by omega, by omega⟩
theorem Told.modN {J M : Nat → Nat → Nat} {z t : Nat} (h : Told ns us J M z t) (a : Int) : ∃ x : Nat, a % (ns.length : Int) = (x : Int) ∧ x < us.length := by
  have := h.eqn
  have := h.pos
  obtain ⟨x, h1, h2⟩ := Go.Proofs.YtlhfdedjboanfaaDoor.L.modN a (n := ns.length) (by omega)
  exact ⟨x, h1, by omega⟩
theorem Told.le {J M : Nat → Nat → Nat} {z t : Nat} (h : Told ns us J M z t) {a b : Nat} {r : Bool} (hr : le us a b = r) (ha : a < us.length) (hb : b < us.length) : leqB ns.length us (a : Int) (b : Int) = r := by rw [h.leq a b ha hb, hr]
theorem far_no {a : Int} : leqB ns.length us a (ns.length : Int) = false := by
  unfold leqB pointB; simp
theorem low_no {b : Int} : leqB ns.length us (-1) b = false := by
  unfold leqB pointB; simp
theorem Told.z_lt {J M : Nat → Nat → Nat} {z t : Nat} (h : Told ns us J M z t) : z < us.length := le_left (h.isZ 0 h.pos)
theorem Told.t_lt {J M : Nat → Nat → Nat} {z t : Nat} (h : Told ns us J M z t) : t < us.length := (h.lat.ord.inn _ _ (h.isT 0 h.pos)).2
theorem le_tr {J M : Nat → Nat → Nat} {z t : Nat} (h : Told ns us J M z t) {a b : Nat} (e : le us a b = true) : le (turnedL us) b a = true := by
  rw [le_turned us _ _ h.lat.ord.inn]; exact e
theorem le_rt {J M : Nat → Nat → Nat} {z t : Nat} (h : Told ns us J M z t) {a b : Nat} (e : le (turnedL us) b a = true) : le us a b = true := by
  rw [le_turned us _ _ h.lat.ord.inn] at e; exact e
end Go.Proofs.YtlhfdedjboanfaaDoor.L

namespace Go.Proofs.YtlhfdedjboanfaaDoor.L
open Go.Lt

/-! orders -/
def ordC (us : List Nat) (a b c : Nat) : Bool := !le us b c || le us a c
def ordB (us : List Nat) (a b : Nat) : Bool := !le us a b || (!(a != b && le us b a) && (List.range us.length).all (ordC us a b))
def ordA (us : List Nat) (a : Nat) : Bool := le us a a && (List.range us.length).all (ordB us a)
def ordR (us : List Nat) : Bool := (List.range us.length).all (ordA us)

theorem ordR_eq {us : List Nat} (h64 : W64 us) (hl : us.length ≤ 64) (hw : within us = true) : ordR us = ordered us := by
  have hin := within_in h64 hl hw
  rw [Bool.eq_iff_iff]
  constructor
  · intro h
    unfold ordR at h
    rw [List.all_eq_true] at h
    unfold ordered
    rw [List.all_eq_true]
    intro a ha
    have ha' := List.mem_range.1 ha
    have h1 := h a ha
    unfold ordA at h1
    rw [Bool.and_eq_true, List.all_eq_true] at h1
    have h2 : ∀ b, le us a b = true → b < us.length ∧ ordB us a b = true := fun b hb => by
      have hb' : b < us.length := testBit_lt (hin a ha') hb
      exact ⟨hb', h1.2 b (List.mem_range.2 hb')⟩
    unfold ordRow
    rw [Bool.and_eq_true, List.all_eq_true]
    refine ⟨h1.1, fun b hb => ?_⟩
    have hb := (mem_places (h64 a)).1 hb
    obtain ⟨hb1, hb2⟩ := h2 b hb
    unfold ordB at hb2
    have hle : le us a b = true := hb
    rw [hle, Bool.not_true, Bool.false_or, Bool.and_eq_true, List.all_eq_true] at hb2
    unfold ordPlace
    rw [Bool.and_eq_true]
    refine ⟨(sub_iff (h64 b) (h64 a)).2 fun c hc => ?_, hb2.1⟩
    have h3 := hb2.2 c (List.mem_range.2 (testBit_lt (hin b hb1) hc))
    unfold ordC at h3
    have hbc : le us b c = true := hc
    rw [hbc, Bool.not_true, Bool.false_or] at h3
    exact h3
  · intro h
    have hO := isOrd_of h64 hl hw h
    unfold ordR
    rw [List.all_eq_true]
    intro a ha
    unfold ordA
    rw [Bool.and_eq_true, List.all_eq_true]
    refine ⟨hO.refl a (List.mem_range.1 ha), fun b _ => ?_⟩
    unfold ordB
    cases hab : le us a b with
    | false => rfl
    | true =>
      rw [Bool.not_true, Bool.false_or, Bool.and_eq_true, List.all_eq_true]
      refine ⟨?_, fun c _ => ?_⟩
      · cases hba : le us b a with
        | false => simp
        | true =>
          have := hO.anti a b hab hba
          subst this; simp
      · unfold ordC
        cases hbc : le us b c with
        | false => rfl
        | true => rw [hO.trans a b c hab hbc]; rfl

/-! joins, meets -/
def joinD (us : List Nat) (a b c d : Nat) : Bool := !le us a d || !le us b d || le us c d
def joinP (us : List Nat) (a b c : Nat) : Bool := le us a c && le us b c && (List.range us.length).all (joinD us a b c)
def firstI (n : Nat) (P : Nat → Bool) : Int := match (List.range n).find? P with
  | some c => (c : Int)
  | none => -1
def joinR (us : List Nat) (a b : Nat) : Int := firstI us.length (joinP us a b)
def meetD (us : List Nat) (a b c d : Nat) : Bool := !le us d a || !le us d b || le us d c
def meetP (us : List Nat) (a b c : Nat) : Bool := le us c a && le us c b && (List.range us.length).all (meetD us a b c)
def meetR (us : List Nat) (a b : Nat) : Int := firstI us.length (meetP us a b)

theorem firstI_hit {n : Nat} {P : Nat → Bool} {k : Nat} (hk : k < n) (h0 : ∀ j, j < k → P j = false) (h : P k = true) : firstI n P = (k : Int) := by
  unfold firstI
  have : (List.range n).find? P = some k := by
    rw [List.find?_range_eq_some]
    exact ⟨h, List.mem_range.2 hk, fun j hj => by rw [h0 j hj]; rfl⟩
  rw [this]
theorem firstI_none {n : Nat} {P : Nat → Bool} (h : ∀ j, j < n → P j = false) : firstI n P = -1 := by
  unfold firstI
  have : (List.range n).find? P = none := by
    rw [List.find?_eq_none]
    intro j hj
    rw [h j (List.mem_range.1 hj)]; simp
  rw [this]
theorem firstI_some {n : Nat} {P : Nat → Bool} (h : 0 ≤ firstI n P) : ∃ k : Nat, k < n ∧ P k = true ∧ firstI n P = (k : Int) := by
  unfold firstI at h ⊢
  cases hf : (List.range n).find? P with
  | none => rw [hf] at h; exact absurd h (by decide)
  | some k => exact ⟨k, List.mem_range.1 (List.mem_of_find?_eq_some hf), List.find?_some hf, rfl⟩
theorem firstI_neg {n : Nat} {P : Nat → Bool} (h : ¬ 0 ≤ firstI n P) : firstI n P = -1 := by
  unfold firstI at h ⊢
  cases hf : (List.range n).find? P with
  | none => rfl
  | some k => rw [hf] at h; exact absurd (Int.natCast_nonneg k) h
theorem firstI_lt {n : Nat} {P : Nat → Bool} : firstI n P < n ∧ -1 ≤ firstI n P := by
  by_cases h : 0 ≤ firstI n P
  · obtain ⟨k, hk, _, e⟩ := firstI_some h
    omega
  · have := firstI_neg h
    omega

theorem joinP_iff {us : List Nat} (hO : IsOrd us) {a b c : Nat} : joinP us a b c = true ↔ IsJoin us a b c := by
  unfold joinP
  rw [Bool.and_eq_true, Bool.and_eq_true, List.all_eq_true]
  constructor
  · rintro ⟨⟨h1, h2⟩, h3⟩
    refine ⟨h1, h2, fun d h4 h5 => ?_⟩
    have := h3 d (List.mem_range.2 (hO.inn _ _ h4).2)
    unfold joinD at this
    rw [h4, h5] at this
    simpa using this
  · intro h
    refine ⟨⟨h.left, h.right⟩, fun d _ => ?_⟩
    unfold joinD
    cases h4 : le us a d with
    | false => rfl
    | true =>
      cases h5 : le us b d with
      | false => rfl
      | true => rw [h.least d h4 h5]; rfl
theorem least_neg {us : List Nat} {set : Nat} (h : ¬ 0 ≤ least us set) : least us set = -1 := by
  unfold least at h ⊢
  cases hf : (places set).find? (leastP us set) with
  | none => rfl
  | some a => rw [hf] at h; exact absurd (Int.natCast_nonneg a) h
theorem joinR_eq {us : List Nat} (hO : IsOrd us) (a b : Nat) : joinR us a b = least us (row us a &&& row us b) := by
  by_cases h : 0 ≤ joinR us a b
  · obtain ⟨k, _, hk, e⟩ := firstI_some h
    have := least_of hO (and_small hO.w64 a b) (least_join.2 ((joinP_iff hO).1 hk))
    rw [this]; exact e
  · have e := firstI_neg h
    have : ¬ 0 ≤ least us (row us a &&& row us b) := fun h2 => by
      obtain ⟨x, hx, _⟩ := of_least hO (and_small hO.w64 a b) h2
      have hj := least_join.1 hx
      have hp := (joinP_iff hO).2 hj
      unfold firstI at e
      cases hf : (List.range us.length).find? (joinP us a b) with
      | none =>
        rw [List.find?_eq_none] at hf
        exact hf x (List.mem_range.2 (hO.inn _ _ hj.left).2) hp
      | some k => rw [hf] at e; simp only at e; omega
    rw [least_neg this]; exact e
theorem meetR_eq {us : List Nat} (hO : IsOrd us) (a b : Nat) : meetR us a b = joinR (turnedL us) a b := by
  have e : ∀ x y, le (turnedL us) x y = le us y x := fun x y => le_turned us x y hO.inn
  unfold meetR joinR
  rw [turnedL_length]
  congr 1
  funext c
  unfold meetP joinP
  rw [e, e, turnedL_length]
  congr 2
  funext d
  unfold meetD joinD
  rw [e, e, e]
theorem IsOrd.turned {us : List Nat} (h : IsOrd us) : IsOrd (turnedL us) := by
  have e : ∀ a b, le (turnedL us) a b = le us b a := fun a b => le_turned us a b h.inn
  refine ⟨fun a ha => ?_, fun a b c h1 h2 => ?_, fun a b h1 h2 => ?_, fun a b h1 => ?_, W64.turned us h.l64, ?_⟩
  · rw [e]; rw [turnedL_length] at ha; exact h.refl a ha
  · rw [e] at h1 h2 ⊢; exact h.trans _ _ _ h2 h1
  · rw [e] at h1 h2; exact h.anti _ _ h2 h1
  · rw [e] at h1; rw [turnedL_length]; exact (h.inn _ _ h1).symm
  · rw [turnedL_length]; exact h.l64

def boundB (us : List Nat) (a b : Nat) : Bool := decide (0 ≤ joinR us a b) && decide (0 ≤ meetR us a b)
def boundA (us : List Nat) (a : Nat) : Bool := (List.range us.length).all (boundB us a)
def boundR (us : List Nat) : Bool := (List.range us.length).all (boundA us)
theorem boundR_iff {us : List Nat} : boundR us = true ↔ ∀ a, a < us.length → ∀ b, b < us.length → 0 ≤ joinR us a b ∧ 0 ≤ meetR us a b := by
  unfold boundR boundA boundB
  simp only [List.all_eq_true, List.mem_range, Bool.and_eq_true, decide_eq_true_eq]

theorem boundR_eq {us : List Nat} (h64 : W64 us) (hl : us.length ≤ 64) (hw : within us = true) (ho : ordered us = true) (h1 : 1 ≤ us.length) : boundR us = complete us := by
  have hO := isOrd_of h64 hl hw ho
  rw [Bool.eq_iff_iff, boundR_iff]
  constructor
  · intro h
    have hm : ∀ a b, a < us.length → b < us.length → ∃ m, le us m a = true ∧ le us m b = true := fun a b ha hb => by
      have h2 := (h a ha b hb).2
      rw [meetR_eq hO] at h2
      obtain ⟨k, _, hk, _⟩ := firstI_some h2
      have hj := (joinP_iff hO.turned).1 hk
      have e1 := hj.left
      have e2 := hj.right
      rw [le_turned us _ _ hO.inn] at e1 e2
      exact ⟨k, e1, e2⟩
    have hbot : ∀ k, k ≤ us.length → ∃ z, z < us.length ∧ ∀ c, c < k → le us z c = true := fun k => by
      induction k with
      | zero => intro _; exact ⟨0, h1, fun c hc => absurd hc (by omega)⟩
      | succ k ih =>
        intro hk
        obtain ⟨z, h2, h3⟩ := ih (by omega)
        obtain ⟨m, h4, h5⟩ := hm z k h2 (by omega)
        refine ⟨m, le_left h4, fun c hc => ?_⟩
        rcases Nat.lt_or_ge c k with h6 | h6
        · exact hO.trans _ _ _ h4 (h3 c h6)
        · obtain rfl : c = k := by omega
          exact h5
    obtain ⟨z, hz, hz2⟩ := hbot us.length (Nat.le_refl _)
    unfold complete
    rw [Bool.and_eq_true, List.all_eq_true, decide_eq_true_eq]
    refine ⟨fun a ha => ?_, ?_⟩
    · have ha := List.mem_range.1 ha
      unfold compRow
      rw [List.all_eq_true]
      intro b hb
      have hb := List.mem_range.1 hb
      unfold compTo
      rw [decide_eq_true_eq, ← joinR_eq hO]
      exact (h a ha b (by omega)).1
    · have := least_of hO (all_lt hl) (x := z) ⟨by rw [all_bit]; simpa using hz, fun b hb => hz2 b (by rw [all_bit] at hb; simpa using hb)⟩
      rw [this]; omega
  · intro h a ha b hb
    have hL := isLat_of h64 hl hw ho h
    have key : ∀ (vs : List Nat), IsLat vs → vs.length = us.length → 0 ≤ joinR vs a b := fun vs hv hvl => by
      obtain ⟨j, hj⟩ := hv.joins a b (by omega) (by omega)
      rw [joinR_eq hv.ord, least_of hv.ord (and_small hv.ord.w64 a b) (least_join.2 hj)]
      omega
    refine ⟨key us hL rfl, ?_⟩
    rw [meetR_eq hO]
    exact key _ (hL.turned h1) (turnedL_length us)
end Go.Proofs.YtlhfdedjboanfaaDoor.L

namespace Go.Proofs.YtlhfdedjboanfaaDoor.L
open Go.RowKit Go.Shelf Go.Lt

def okR (s : ByteArray) (j : Nat) : Bool := letterI (byteAt s j).toNat || (decide (0 < j) && digitI (byteAt s j).toNat)
theorem nameR {s : ByteArray} (h1 : 1 ≤ s.size) (h2 : s.size ≤ 16) (h : ∀ j, j < s.size → okR s j = true) : nameB s = true := by
  unfold nameB
  rw [Bool.and_eq_true, Bool.and_eq_true, Bool.and_eq_true, decide_eq_true_eq, decide_eq_true_eq, List.all_eq_true]
  refine ⟨⟨⟨h1, h2⟩, ?_⟩, fun j hj => ?_⟩
  · have := h 0 (by omega)
    unfold okR byteAt at this
    simpa using this
  · have := h j (List.mem_range.1 hj)
    unfold okR byteAt at this
    unfold okAt
    rw [Bool.or_eq_true] at this ⊢
    rcases this with h3 | h3
    · exact .inl h3
    · rw [Bool.and_eq_true] at h3
      exact .inr h3.2
theorem nameB_no {s : ByteArray} (h : ¬ (1 ≤ s.size ∧ s.size ≤ 16 ∧ letterI (byteAt s 0).toNat = true ∧ ∀ j, j < s.size → okAt s j = true)) : nameB s = false := by
  rw [← Bool.not_eq_true]
  intro e
  unfold nameB at e
  rw [Bool.and_eq_true, Bool.and_eq_true, Bool.and_eq_true, decide_eq_true_eq, decide_eq_true_eq, List.all_eq_true] at e
  exact h ⟨e.1.1.1, e.1.1.2, e.1.2, fun j hj => e.2 j (List.mem_range.2 hj)⟩
theorem nameR_no {s : ByteArray} {k : Nat} (hk : k < s.size) (h : okR s k = false) : nameB s = false := nameB_no fun ⟨_, _, h3, h4⟩ => by
  have h5 := h4 k hk
  unfold okR at h
  unfold okAt at h5
  rw [Bool.or_eq_false_iff] at h
  have h6 : letterI (s.data.toList.getD k 0).toNat = false := h.1
  rw [h6] at h5
  by_cases e : k = 0
  · subst e
    have h7 : letterI (byteAt s 0).toNat = false := h.1
    rw [h7] at h3; cases h3
  · have : decide (0 < k) = true := by simp; omega
    rw [this] at h
    have h7 := h.2
    rw [Bool.true_and] at h7
    have h8 : digitI (s.data.toList.getD k 0).toNat = false := h7
    rw [h8] at h5
    cases h5

set_option maxRecDepth 100000 in
set_option maxHeartbeats 4000000 in
theorem refname_any (s : ByteArray) (w : World) (hs : s.size ≤ 9223372036854775807) : Calls Tryd.prog 79 #[.string s] w fun e w' => e = .returned (.bool (nameB s)) ∧ w' = w := by
  by_cases hsz : 1 ≤ s.size ∧ s.size ≤ 16
  case neg =>
    have hE : Hid (nameB s = false) := nameB_no fun h => hsz ⟨h.1, h.2.1⟩
    by_cases h1 : 1 ≤ s.size
    · have h2 : 16 < s.size := by omega
      clear hsz
      go_enter Tryd.func79, Tryd.ntmps79
      go_wp2
      go_ret
      exact ⟨ret_bool hE.out.symm, rfl⟩
    · have h2 : s.size = 0 := by omega
      clear hsz
      go_enter Tryd.func79, Tryd.ntmps79
      go_wp2
      go_ret
      exact ⟨ret_bool hE.out.symm, rfl⟩
  obtain ⟨z1, z2⟩ := hsz
  go_enter Tryd.func79, Tryd.ntmps79
  go_wp2_with fail
  go_loop [3] (fun i => ∃ k : Nat, k ≤ s.size ∧ i = .int .i64 k ∧ Hid (∀ j, j < k → okR s j = true)) (fun i => s.size - (intOf i).toNat)
  case atStart => exact ⟨0, Nat.zero_le _, rfl, fun j hj => by omega⟩
  case round =>
    obtain ⟨k, hk, rfl, hok⟩ := hrel
    by_cases hlt : k < s.size
    · have hb := get_byte s k hlt
      have hlt256 : s[k].toNat < 256 := s[k].toNat_lt
      have hy : okR s k = (letterI s[k].toNat || (decide (0 < k) && digitI s[k].toNat)) := by
        unfold okR byteAt; rw [hb]
      replace hy := Lib.hid hy
      have hnext : Hid (okR s k = true → ∀ j, j < k + 1 → okR s j = true) := fun h j hj => by
        by_cases e : j < k
        · exact hok.out j e
        · obtain rfl : j = k := by omega
          exact h
      clear hb
      generalize hc : (s[k].toNat : Int) = c at hy
      have hcr := Lib.hid hc
      obtain i0 | i1 | i2 | i3 | i4 | i5 | i6 : c < 48 ∨ (48 ≤ c ∧ c ≤ 57) ∨ (58 ≤ c ∧ c ≤ 64) ∨ (65 ≤ c ∧ c ≤ 90) ∨ (91 ≤ c ∧ c ≤ 96) ∨ (97 ≤ c ∧ c ≤ 122) ∨ 122 < c := by omega
      · by_cases hk0 : k = 0
        · subst hk0
          have q0 : decide (97 ≤ c) = false := decide_eq_false (by omega)
          have q1 : decide (c ≤ 122) = true := decide_eq_true (by omega)
          have q2 : decide (65 ≤ c) = false := decide_eq_false (by omega)
          have q3 : decide (c ≤ 90) = true := decide_eq_true (by omega)
          have q4 : decide (48 ≤ c) = false := decide_eq_false (by omega)
          have q5 : decide (c ≤ 57) = true := decide_eq_true (by omega)
          have hE : Hid (nameB s = false) := nameR_no hlt (by rw [hy.out]; unfold letterI; simp; omega)
          clear hy hnext hcr
          go_wp2
          go_ret
          exact ⟨ret_bool hE.out.symm, rfl⟩
        · have hkp : 0 < k := by omega
          have hkz : ((k : Int) == 0) = false := beq_eq_false_iff_ne.2 (by omega)
          have q0 : decide (97 ≤ c) = false := decide_eq_false (by omega)
          have q1 : decide (c ≤ 122) = true := decide_eq_true (by omega)
          have q2 : decide (65 ≤ c) = false := decide_eq_false (by omega)
          have q3 : decide (c ≤ 90) = true := decide_eq_true (by omega)
          have q4 : decide (48 ≤ c) = false := decide_eq_false (by omega)
          have q5 : decide (c ≤ 57) = true := decide_eq_true (by omega)
          have hE : Hid (nameB s = false) := nameR_no hlt (by rw [hy.out]; unfold letterI digitI; simp; omega)
          clear hy hnext hcr
          go_wp2
          go_ret
          exact ⟨ret_bool hE.out.symm, rfl⟩
      · by_cases hk0 : k = 0
        · subst hk0
          have q0 : decide (97 ≤ c) = false := decide_eq_false (by omega)
          have q1 : decide (c ≤ 122) = true := decide_eq_true (by omega)
          have q2 : decide (65 ≤ c) = false := decide_eq_false (by omega)
          have q3 : decide (c ≤ 90) = true := decide_eq_true (by omega)
          have q4 : decide (48 ≤ c) = true := decide_eq_true (by omega)
          have q5 : decide (c ≤ 57) = true := decide_eq_true (by omega)
          have hE : Hid (nameB s = false) := nameR_no hlt (by rw [hy.out]; unfold letterI; simp; omega)
          clear hy hnext hcr
          go_wp2
          go_ret
          exact ⟨ret_bool hE.out.symm, rfl⟩
        · have hkp : 0 < k := by omega
          have hkz : ((k : Int) == 0) = false := beq_eq_false_iff_ne.2 (by omega)
          have q0 : decide (97 ≤ c) = false := decide_eq_false (by omega)
          have q1 : decide (c ≤ 122) = true := decide_eq_true (by omega)
          have q2 : decide (65 ≤ c) = false := decide_eq_false (by omega)
          have q3 : decide (c ≤ 90) = true := decide_eq_true (by omega)
          have q4 : decide (48 ≤ c) = true := decide_eq_true (by omega)
          have q5 : decide (c ≤ 57) = true := decide_eq_true (by omega)
          have hE := Lib.hid (hnext.out (by rw [hy.out]; unfold digitI; simp; omega))
          clear hy hnext hcr
          go_wp2
          go_round
          case rel => exact ⟨k + 1, by omega, by go_num, hE⟩
          case measure => simp [intOf]; omega
      · by_cases hk0 : k = 0
        · subst hk0
          have q0 : decide (97 ≤ c) = false := decide_eq_false (by omega)
          have q1 : decide (c ≤ 122) = true := decide_eq_true (by omega)
          have q2 : decide (65 ≤ c) = false := decide_eq_false (by omega)
          have q3 : decide (c ≤ 90) = true := decide_eq_true (by omega)
          have q4 : decide (48 ≤ c) = true := decide_eq_true (by omega)
          have q5 : decide (c ≤ 57) = false := decide_eq_false (by omega)
          have hE : Hid (nameB s = false) := nameR_no hlt (by rw [hy.out]; unfold letterI; simp; omega)
          clear hy hnext hcr
          go_wp2
          go_ret
          exact ⟨ret_bool hE.out.symm, rfl⟩
        · have hkp : 0 < k := by omega
          have hkz : ((k : Int) == 0) = false := beq_eq_false_iff_ne.2 (by omega)
          have q0 : decide (97 ≤ c) = false := decide_eq_false (by omega)
          have q1 : decide (c ≤ 122) = true := decide_eq_true (by omega)
          have q2 : decide (65 ≤ c) = false := decide_eq_false (by omega)
          have q3 : decide (c ≤ 90) = true := decide_eq_true (by omega)
          have q4 : decide (48 ≤ c) = true := decide_eq_true (by omega)
          have q5 : decide (c ≤ 57) = false := decide_eq_false (by omega)
          have hE : Hid (nameB s = false) := nameR_no hlt (by rw [hy.out]; unfold letterI digitI; simp; omega)
          clear hy hnext hcr
          go_wp2
          go_ret
          exact ⟨ret_bool hE.out.symm, rfl⟩
      · have q0 : decide (97 ≤ c) = false := decide_eq_false (by omega)
        have q1 : decide (c ≤ 122) = true := decide_eq_true (by omega)
        have q2 : decide (65 ≤ c) = true := decide_eq_true (by omega)
        have q3 : decide (c ≤ 90) = true := decide_eq_true (by omega)
        have q4 : decide (48 ≤ c) = true := decide_eq_true (by omega)
        have q5 : decide (c ≤ 57) = false := decide_eq_false (by omega)
        have hE := Lib.hid (hnext.out (by rw [hy.out]; unfold letterI; simp; omega))
        clear hy hnext hcr
        go_wp2
        go_round
        case rel => exact ⟨k + 1, by omega, by go_num, hE⟩
        case measure => simp [intOf]; omega
      · by_cases hk0 : k = 0
        · subst hk0
          have q0 : decide (97 ≤ c) = false := decide_eq_false (by omega)
          have q1 : decide (c ≤ 122) = true := decide_eq_true (by omega)
          have q2 : decide (65 ≤ c) = true := decide_eq_true (by omega)
          have q3 : decide (c ≤ 90) = false := decide_eq_false (by omega)
          have q4 : decide (48 ≤ c) = true := decide_eq_true (by omega)
          have q5 : decide (c ≤ 57) = false := decide_eq_false (by omega)
          have hE : Hid (nameB s = false) := nameR_no hlt (by rw [hy.out]; unfold letterI; simp; omega)
          clear hy hnext hcr
          go_wp2
          go_ret
          exact ⟨ret_bool hE.out.symm, rfl⟩
        · have hkp : 0 < k := by omega
          have hkz : ((k : Int) == 0) = false := beq_eq_false_iff_ne.2 (by omega)
          have q0 : decide (97 ≤ c) = false := decide_eq_false (by omega)
          have q1 : decide (c ≤ 122) = true := decide_eq_true (by omega)
          have q2 : decide (65 ≤ c) = true := decide_eq_true (by omega)
          have q3 : decide (c ≤ 90) = false := decide_eq_false (by omega)
          have q4 : decide (48 ≤ c) = true := decide_eq_true (by omega)
          have q5 : decide (c ≤ 57) = false := decide_eq_false (by omega)
          have hE : Hid (nameB s = false) := nameR_no hlt (by rw [hy.out]; unfold letterI digitI; simp; omega)
          clear hy hnext hcr
          go_wp2
          go_ret
          exact ⟨ret_bool hE.out.symm, rfl⟩
      · have q0 : decide (97 ≤ c) = true := decide_eq_true (by omega)
        have q1 : decide (c ≤ 122) = true := decide_eq_true (by omega)
        have q2 : decide (65 ≤ c) = true := decide_eq_true (by omega)
        have q3 : decide (c ≤ 90) = false := decide_eq_false (by omega)
        have q4 : decide (48 ≤ c) = true := decide_eq_true (by omega)
        have q5 : decide (c ≤ 57) = false := decide_eq_false (by omega)
        have hE := Lib.hid (hnext.out (by rw [hy.out]; unfold letterI; simp; omega))
        clear hy hnext hcr
        go_wp2
        go_round
        case rel => exact ⟨k + 1, by omega, by go_num, hE⟩
        case measure => simp [intOf]; omega
      · by_cases hk0 : k = 0
        · subst hk0
          have q0 : decide (97 ≤ c) = true := decide_eq_true (by omega)
          have q1 : decide (c ≤ 122) = false := decide_eq_false (by omega)
          have q2 : decide (65 ≤ c) = true := decide_eq_true (by omega)
          have q3 : decide (c ≤ 90) = false := decide_eq_false (by omega)
          have q4 : decide (48 ≤ c) = true := decide_eq_true (by omega)
          have q5 : decide (c ≤ 57) = false := decide_eq_false (by omega)
          have hE : Hid (nameB s = false) := nameR_no hlt (by rw [hy.out]; unfold letterI; simp; omega)
          clear hy hnext hcr
          go_wp2
          go_ret
          exact ⟨ret_bool hE.out.symm, rfl⟩
        · have hkp : 0 < k := by omega
          have hkz : ((k : Int) == 0) = false := beq_eq_false_iff_ne.2 (by omega)
          have q0 : decide (97 ≤ c) = true := decide_eq_true (by omega)
          have q1 : decide (c ≤ 122) = false := decide_eq_false (by omega)
          have q2 : decide (65 ≤ c) = true := decide_eq_true (by omega)
          have q3 : decide (c ≤ 90) = false := decide_eq_false (by omega)
          have q4 : decide (48 ≤ c) = true := decide_eq_true (by omega)
          have q5 : decide (c ≤ 57) = false := decide_eq_false (by omega)
          have hE : Hid (nameB s = false) := nameR_no hlt (by rw [hy.out]; unfold letterI digitI; simp; omega)
          clear hy hnext hcr
          go_wp2
          go_ret
          exact ⟨ret_bool hE.out.symm, rfl⟩
    · have hE : Hid (nameB s = true) := nameR z1 z2 fun j hj => hok.out j (by omega)
      go_wp2
      go_ret
      exact ⟨ret_bool hE.out.symm, rfl⟩
end Go.Proofs.YtlhfdedjboanfaaDoor.L

namespace Go.Proofs.YtlhfdedjboanfaaDoor.L
open Go.RowKit Go.Shelf Go.Lt

section
variable {w W : World} {p : Nat} {A B : Option Addr} {c d : Nat} {ns : List ByteArray} {us : List Nat}
theorem At.newT (t : TypeId) (hE : Env w) (hL : LatAt w A B c ns us) : At w (w.alloc (.cells #[.slice A ns.length c, .slice B us.length d] t)) w.heap.size A B c d ns us :=
  ⟨later_alloc _ _, hE.later (later_alloc _ _), Box2.new w _ _ _, hL.later (later_alloc _ _)⟩

theorem refsize_any (A B : Option Addr) (n m c d : Nat) (w : World) :
    Calls Tryd.prog 60 #[.agg #[.slice A n c, .slice B m d]] w fun e w' => e = .returned (.int .i64 (min n m : Nat)) ∧ w.alloc (.cells #[.slice A n c, .slice B m d] 30) = w' := by
  by_cases h : n ≤ m
  · go_enter Tryd.func60, Tryd.ntmps60
    go_wp2
    go_ret
    exact ⟨ret_int (by omega), rfl⟩
  · go_enter Tryd.func60, Tryd.ntmps60
    go_wp2
    go_ret
    exact ⟨ret_int (by omega), rfl⟩
theorem rf_size (hX : At w W p A B c d ns us) (hq : ns.length = us.length) : Calls Tryd.prog 60 #[.agg #[.slice A ns.length c, .slice B us.length d]] W fun e w' => e = .returned (.int .i64 (us.length : Nat)) ∧ Hid (At w w' p A B c d ns us) :=
  (refsize_any A B ns.length us.length c d W).mono fun _ _ ⟨h1, h2⟩ => ⟨by rw [h1, hq, Nat.min_self], hX.later (h2 ▸ later_alloc _ _)⟩

theorem shr_odd (r k : Nat) : (((r : Int) / 2 ^ k % 2) == 1) = r.testBit k := by
  have e1 : ((r : Int) / 2 ^ k) = ((r / 2 ^ k : Nat) : Int) := by rw [Int.natCast_ediv]; simp
  rw [e1, Nat.testBit_eq_decide_div_mod_eq]
  rcases Nat.mod_two_eq_zero_or_one (r / 2 ^ k) with e | e
  · have : ((r / 2 ^ k : Nat) : Int) % 2 = 0 := by omega
    rw [this, e]; rfl
  · have : ((r / 2 ^ k : Nat) : Int) % 2 = 1 := by omega
    rw [this, e]; rfl
end

set_option maxHeartbeats 1000000 in
theorem refleq_any (A B : Option Addr) (us : List Nat) (n c d : Nat) (a b : Int) (w : World) (hU : Words w w.heap.size B us) (h64 : W64 us) (hl : us.length ≤ 9223372036854775807) :
    Calls Tryd.prog 36 #[.agg #[.slice A n c, .slice B us.length d], .int .i64 a, .int .i64 b] w fun e w' => e = .returned (.bool (leqB n us a b)) ∧ Below w.heap.size w w' := by
  have hb1 : Below w.heap.size w ((w.alloc (.cells #[.slice A n c, .slice B us.length d] 30)).alloc (.cells #[.slice A n c, .slice B us.length d] 30)) := (later_alloc _ _).alloc (by simp) _
  replace hb1 := Lib.hid hb1
  by_cases h : pointB n us.length a = true ∧ pointB n us.length b = true ∧ b < 64
  · obtain ⟨h1, h2, h3⟩ := h
    have e1 : 0 ≤ a ∧ a < n ∧ a < us.length := by simpa [pointB] using h1
    have e2 : 0 ≤ b ∧ b < n ∧ b < us.length := by simpa [pointB] using h2
    obtain ⟨ka, rfl⟩ := Int.eq_ofNat_of_zero_le e1.1
    obtain ⟨kb, rfl⟩ := Int.eq_ofNat_of_zero_le e2.1
    have hlt : ka < us.length := by omega
    have hk : kb < 64 := by omega
    obtain ⟨bb, off, rfl, hb, hc⟩ := hU (by intro e; subst e; simp at hlt)
    have hck := hc ka hlt
    have hr := h64 ka
    have hbb1 : bb < w.heap.size + 1 := by omega
    have hbb2 : bb < w.heap.size + 1 + 1 := by omega
    have g1 : ka < min n us.length := by omega
    have g2 : kb < min n us.length := by omega
    have hE : Hid (leqB n us ka kb = (row us ka).testBit kb) := by
      show leqB n us ka kb = _
      unfold leqB; rw [h1, h2]; simp
    have hS := Lib.hid (shr_odd (row us ka) kb)
    clear hc e1 e2 h1 h2
    generalize hm : min n us.length = mn at g1 g2
    have hz := Lib.hid (fun W => hm ▸ refsize_any A (some ⟨bb, off, none⟩) n us.length c d W)
    go_enter Tryd.func36, Tryd.ntmps36
    go_wp2_with fail
    refine (hz.out _).mono ?_
    rintro e w1 ⟨rfl, rfl⟩
    go_wp2_with fail
    go_ret
    exact ⟨ret_bool (by rw [hE.out]; exact hS.out), hb1.out⟩
  · have hE : Hid (leqB n us a b = false) := by
      show leqB n us a b = false
      unfold leqB
      cases h1 : pointB n us.length a with
      | false => rfl
      | true =>
        cases h2 : pointB n us.length b with
        | false => rfl
        | true =>
          have e2 : 0 ≤ b ∧ b < n ∧ b < us.length := by simpa [pointB] using h2
          have h3 : ¬ b < 64 := fun h3 => h ⟨h1, h2, h3⟩
          have := h64 a.toNat
          rw [Nat.testBit_lt_two_pow (Nat.lt_of_lt_of_le this (Nat.pow_le_pow_right (n := 2) (by omega) (show 64 ≤ b.toNat by omega)))]
          rfl
    have hc : a < 0 ∨ (0 ≤ a ∧ b < 0) ∨ (0 ≤ a ∧ 0 ≤ b ∧ ¬ a < (min n us.length : Nat)) ∨ (0 ≤ a ∧ 0 ≤ b ∧ a < (min n us.length : Nat) ∧ ¬ b < (min n us.length : Nat)) ∨ (0 ≤ a ∧ 0 ≤ b ∧ a < (min n us.length : Nat) ∧ b < (min n us.length : Nat) ∧ ¬ b < 64) := by
      unfold pointB at h
      simp only [decide_eq_true_eq] at h
      omega
    clear h
    have hz := Lib.hid (fun W => refsize_any A B n us.length c d W)
    generalize min n us.length = mn at hz hc
    rcases hc with hc | ⟨hc, hc2⟩ | ⟨hc, hc2, hc3⟩ | ⟨hc, hc2, hc3, hc4⟩ | ⟨hc, hc2, hc3, hc4, hc5⟩
    all_goals
      go_enter Tryd.func36, Tryd.ntmps36
      go_wp2_with fail
      refine (hz.out _).mono ?_
      rintro e w1 ⟨rfl, rfl⟩
      go_wp2_with fail
      go_ret
      exact ⟨ret_bool hE.out.symm, hb1.out⟩

section
variable {w W : World} {p : Nat} {A B : Option Addr} {c d : Nat} {ns : List ByteArray} {us : List Nat}
theorem rf_leq (hX : At w W p A B c d ns us) (a b : Int) {r : Bool} (hr : leqB ns.length us a b = r) : Calls Tryd.prog 36 #[.agg #[.slice A ns.length c, .slice B us.length d], .int .i64 a, .int .i64 b] W fun e w' => e = .returned (.bool r) ∧ Hid (At w w' p A B c d ns us) :=
  (refleq_any A B us ns.length c d a b W hX.lat.words hX.lat.w64 hX.lat.ulen).mono fun _ _ ⟨h1, h2⟩ => ⟨by rw [h1, hr], hX.later h2⟩
theorem rf_le (hX : At w W p A B c d ns us) (hq : ns.length = us.length) (a b : Nat) (ha : a < us.length) (hb : b < us.length) {r : Bool} (hr : le us a b = r) : Calls Tryd.prog 36 #[.agg #[.slice A ns.length c, .slice B us.length d], .int .i64 a, .int .i64 b] W fun e w' => e = .returned (.bool r) ∧ Hid (At w w' p A B c d ns us) :=
  rf_leq hX a b (by
    rw [← hr]
    unfold leqB le pointB
    have e1 : decide ((0 : Int) ≤ (a : Int) ∧ (a : Int) < (ns.length : Int) ∧ (a : Int) < (us.length : Int)) = true := by rw [decide_eq_true_eq]; omega
    have e2 : decide ((0 : Int) ≤ (b : Int) ∧ (b : Int) < (ns.length : Int) ∧ (b : Int) < (us.length : Int)) = true := by rw [decide_eq_true_eq]; omega
    rw [e1, e2]; rfl)
end

theorem twice_iff {ss : List ByteArray} {k : Nat} (hk : k ≤ ss.length) : twice ss k = true ↔ ∃ j, j < k ∧ Lt.nm ss j = Lt.nm ss k := by
  unfold twice
  rw [Lib.containsS_iff]
  constructor
  · intro h
    obtain ⟨j, hj, e⟩ := List.getElem_of_mem h
    rw [List.length_take] at hj
    refine ⟨j, by omega, ?_⟩
    rw [← e, List.getElem_take]
    unfold Lt.nm
    rw [List.getD_eq_getElem?_getD, List.getElem?_eq_getElem (by omega)]; rfl
  · rintro ⟨j, hj, e⟩
    rw [← e]
    unfold Lt.nm
    rw [List.getD_eq_getElem?_getD, List.getElem?_eq_getElem (by omega)]
    exact List.mem_take_iff_getElem.2 ⟨j, by omega, rfl⟩
theorem bytes_eq {a b : ByteArray} : (a.toList == b.toList) = true ↔ a = b := by
  rw [beq_iff_eq]
  constructor
  · intro h
    rw [ByteArray.toList_eq, ByteArray.toList_eq] at h
    exact toList_inj h
  · rintro rfl; rfl

set_option maxRecDepth 100000 in
set_option maxHeartbeats 1000000 in
theorem refnames_any (A : Option Addr) (ss : List ByteArray) (c : Nat) (w : World) (hU : Strs w w.heap.size A ss) (hm : SMax ss) (hl : ss.length ≤ 9223372036854775807) :
    Calls Tryd.prog 67 #[.slice A ss.length c] w fun e w' => e = .returned (.bool (namedB ss)) ∧ Below w.heap.size w w' := by
  have hno : Hid (∀ k, k < ss.length → namedAt ss k = false → namedB ss = false) := fun k hk h => by
    unfold namedB
    rw [List.all_eq_false]
    exact ⟨k, List.mem_range.2 hk, by rw [h]; simp⟩
  go_enter Tryd.func67, Tryd.ntmps67
  go_wp2_with fail
  go_loopw [3] (fun i wr => ∃ k : Nat, k ≤ ss.length ∧ i = .int .i64 k ∧ Hid (∀ j, j < k → namedAt ss j = true) ∧ Hid (Below w.heap.size w wr)) (fun i _ => ss.length - (intOf i).toNat)
  case atStart => exact ⟨0, Nat.zero_le _, rfl, fun j hj => by omega, Below.refl _ _⟩
  case round =>
    obtain ⟨k, hk, rfl, hok, hB⟩ := hrel
    obtain ⟨wo, rfl⟩ : ∃ wo : World, wo = wr := ⟨_, rfl⟩
    by_cases hlt : k < ss.length
    · obtain ⟨b, off, rfl, hb, hc⟩ := hU (by intro e; subst e; simp at hlt)
      have hck := (hB.out.cell (p := ⟨b, off + k, none⟩) hb).trans (hc k hlt)
      have hmk := hm k
      have HC := Lib.hid hc
      clear hc
      go_wp2_with fail
      refine (refname_any _ _ hmk).mono ?_
      rintro e w1 ⟨rfl, rfl⟩
      cases h1 : nameB (Lt.nm ss k) with
      | false =>
        have hE := Lib.hid (hno.out k hlt (by unfold namedAt; rw [h1]; rfl))
        replace h1 := Lib.hid h1
        go_wp2_with fail
        go_ret
        exact ⟨ret_bool hE.out.symm, hB.out⟩
      | true =>
        have h1' := Lib.hid h1
        clear h1
        go_wp2_with fail
        go_loopw [4] (fun i wr => ∃ q : Nat, q ≤ k ∧ i = .int .i64 q ∧ Hid (∀ j, j < q → Lt.nm ss j ≠ Lt.nm ss k) ∧ Hid (Below w.heap.size w wr)) (fun i _ => k - (intOf i).toNat)
        case atStart => exact ⟨0, Nat.zero_le _, rfl, fun j hj => by omega, hB⟩
        case round =>
          clear hck
          obtain ⟨q, hq, rfl, hok2, hB2⟩ := hrel
          by_cases hqk : q < k
          · have hck := (hB2.out.cell (p := ⟨b, off + k, none⟩) hb).trans (HC.out k hlt)
            have hcq := (hB2.out.cell (p := ⟨b, off + q, none⟩) hb).trans (HC.out q (by omega))
            have hql : q < ss.length := by omega
            cases hq2 : ((Lt.nm ss q).toList == (Lt.nm ss k).toList) with
            | true =>
              have hE := Lib.hid (hno.out k hlt (by
                unfold namedAt
                rw [(twice_iff hk).2 ⟨q, hqk, bytes_eq.1 hq2⟩]; simp))
              generalize Lt.nm ss q = X0 at hcq hq2
              generalize Lt.nm ss k = X1 at hck hq2
              go_wp2_with fail
              go_quiet (fail)
              all_goals go_wp2
              all_goals go_ret
              all_goals exact ⟨ret_bool hE.out.symm, belowN hB2.out _⟩
            | false =>
              have hok3 : Hid (∀ j, j < q + 1 → Lt.nm ss j ≠ Lt.nm ss k) := fun j hj => by
                by_cases e : j < q
                · exact hok2.out j e
                · obtain rfl : j = q := by omega
                  intro e
                  rw [bytes_eq.2 e] at hq2
                  cases hq2
              generalize hX0 : Lt.nm ss q = X0 at hcq hq2
              generalize hX1 : Lt.nm ss k = X1 at hck hq2 hok3
              replace hX0 := Lib.hid hX0
              replace hX1 := Lib.hid hX1
              go_wp2_with fail
              go_quiet (fail)
              all_goals go_wp2
              all_goals go_roundw
              case rel => exact ⟨q + 1, by omega, by go_num, hok3, belowN hB2.out _⟩
              case measure => simp [intOf]; omega
          · have hok3 : Hid (∀ j, j < k + 1 → namedAt ss j = true) := fun j hj => by
              by_cases e : j < k
              · exact hok.out j e
              · obtain rfl : j = k := by omega
                unfold namedAt
                rw [h1'.out]
                have : ¬ twice ss j = true := fun e => by
                  obtain ⟨i, hi, e⟩ := (twice_iff hk).1 e
                  exact hok2.out i (by omega) e
                rw [Bool.not_eq_true] at this
                rw [this]; rfl
            go_wp2_with fail
            go_roundw
            case rel => exact ⟨k + 1, by omega, by go_num, hok3, hB2⟩
            case measure => simp [intOf]; omega
    · have hE : Hid (namedB ss = true) := by
        show namedB ss = true
        unfold namedB
        rw [List.all_eq_true]
        intro j hj
        exact hok.out j (by have := List.mem_range.1 hj; omega)
      go_wp2_with fail
      go_ret
      exact ⟨ret_bool hE.out.symm, hB.out⟩
end Go.Proofs.YtlhfdedjboanfaaDoor.L

namespace Go.Proofs.YtlhfdedjboanfaaDoor.L
open Go.RowKit Go.Shelf Go.Lt

theorem joinV_yes {us : List Nat} {a b k q : Nat} (hq : q = us.length) (h : (le us a k && le us b k) = true ∧ ∀ j, j < q → joinD us a b k j = true) : joinP us a b k = true := by
  unfold joinP
  rw [h.1, Bool.true_and, List.all_eq_true]
  intro j hj
  exact h.2 j (by have := List.mem_range.1 hj; omega)
theorem joinV_no0 {us : List Nat} {a b k : Nat} (h : (le us a k && le us b k) = false) : joinP us a b k = false := by
  unfold joinP; rw [h]; rfl
theorem joinV_no {us : List Nat} {a b k q : Nat} (hq : q < us.length) (h : joinD us a b k q = false) : joinP us a b k = false := by
  unfold joinP
  have : (List.range us.length).all (joinD us a b k) = false := by
    rw [List.all_eq_false]
    exact ⟨q, List.mem_range.2 hq, by rw [h]; simp⟩
  rw [this]; simp
def joinV (us : List Nat) (a b k q : Nat) (t : Bool) : Prop := (t = true → (le us a k && le us b k) = true ∧ ∀ j, j < q → joinD us a b k j = true) ∧ (t = false → joinP us a b k = false)
theorem joinV_next {us : List Nat} {a b k q : Nat} (hq : q < us.length) (h : joinV us a b k q true) (t : Bool) (ht : joinD us a b k q = t) : joinV us a b k (q + 1) t := by
  refine ⟨fun e => ?_, fun e => ?_⟩
  · subst e
    refine ⟨(h.1 rfl).1, fun j hj => ?_⟩
    by_cases g : j < q
    · exact (h.1 rfl).2 j g
    · obtain rfl : j = q := by omega
      exact ht
  · subst e
    exact joinV_no hq ht
theorem joinV_start {us : List Nat} {a b k : Nat} (t : Bool) (ht : (le us a k && le us b k) = t) : joinV us a b k 0 t :=
  ⟨fun e => by subst e; exact ⟨ht, fun j hj => by omega⟩, fun e => by subst e; exact joinV_no0 ht⟩

set_option maxRecDepth 100000 in
set_option maxHeartbeats 1000000 in
theorem refjoin_any (A B : Option Addr) (ns : List ByteArray) (us : List Nat) (c d a b : Nat) (w : World) (hE : Env w) (hL : LatAt w A B c ns us) (hq : ns.length = us.length) (hl : us.length ≤ 64) (ha : a < us.length) (hb : b < us.length) :
    Calls Tryd.prog 62 #[.agg #[.slice A ns.length c, .slice B us.length d], .int .i64 a, .int .i64 b] w fun e w' => e = .returned (.int .i64 (joinR us a b)) ∧ Below w.heap.size w w' := by
  have hX := Lib.hid (At.newT 30 (d := d) hE hL)
  have hnl := hL.nlen
  replace hq := Lib.hid hq
  clear hE hL
  go_enter Tryd.func62, Tryd.ntmps62
  go_wp2_with fail
  refine (rf_size hX.out hq.out).mono ?_
  rintro e w1 ⟨rfl, hY⟩
  clear hX
  go_wp2_with fail
  go_loopw [8] (fun i wr => ∃ k : Nat, k ≤ us.length ∧ i = .int .i64 k ∧ Hid (∀ j, j < k → joinP us a b j = false) ∧ Hid (At w wr w.heap.size A B c d ns us)) (fun i _ => us.length - (intOf i).toNat)
  case atStart => exact ⟨0, Nat.zero_le _, rfl, fun j hj => by omega, hY⟩
  case round =>
    clear hY
    obtain ⟨k, hk, rfl, hok, hY⟩ := hrel
    obtain ⟨wo, rfl⟩ : ∃ wo : World, wo = wr := ⟨_, rfl⟩
    by_cases hlt : k < us.length
    · have q1 := hY.out.box.1
      have q2 := hY.out.box.2.1
      go_wp2_with fail
      clear q1 q2
      cases hc : le us a k with
      | false =>
        refine (rf_le hY.out hq.out a k (by omega) (by omega) hc).mono ?_
        rintro e w2 ⟨rfl, hZ⟩
        have hI : Hid (joinV us a b k 0 false) := joinV_start false (by rw [hc]; rfl)
        replace hc := Lib.hid hc
        clear hY
        go_wp2_with fail
        go_loopw [9, 10] (fun v i wr => v = .bool false ∧ i = .int .i64 (0 : Nat) ∧ Hid (At w wr w.heap.size A B c d ns us)) (fun _ i _ => us.length - (intOf i).toNat)
        case atStart => exact ⟨rfl, rfl, hZ⟩
        case round =>
          obtain ⟨rfl, rfl, hZ2⟩ := hrel
          have hok2 : Hid (∀ j, j < k + 1 → joinP us a b j = false) := fun j hj => by
            by_cases e : j < k
            · exact hok.out j e
            · obtain rfl : j = k := by omega
              exact hI.out.2 rfl
          have hpos : 0 < us.length := by omega
          clear hZ
          go_wp2_with fail
          go_roundw
          case rel => exact ⟨k + 1, by omega, by go_num, hok2, hZ2⟩
          case measure => simp [intOf]; omega
      | true =>
        refine (rf_le hY.out hq.out a k (by omega) (by omega) hc).mono ?_
        rintro e w2 ⟨rfl, hZ⟩
        clear hY
        have q1 := hZ.out.box.1
        have q2 := hZ.out.box.2.1
        replace hc := Lib.hid hc
        go_wp2_with fail
        clear q1 q2
        obtain ⟨t0, hc2⟩ : ∃ t, le us b k = t := ⟨_, rfl⟩
        · refine (rf_le hZ.out hq.out b k (by omega) (by omega) hc2).mono ?_
          rintro e w3 ⟨rfl, hY⟩
          have hI := Lib.hid (joinV_start (a := a) (b := b) (k := k) t0 (by rw [hc.out, hc2]; rfl))
          replace hc2 := Lib.hid hc2
          clear hZ
          go_wp2_with fail
          go_loopw [9, 10] (fun v i wr => ∃ (q : Nat) (t : Bool), q ≤ us.length ∧ v = .bool t ∧ i = .int .i64 q ∧ Hid (joinV us a b k q t) ∧ Hid (At w wr w.heap.size A B c d ns us)) (fun _ i _ => us.length - (intOf i).toNat)
          case atStart => exact ⟨0, _, Nat.zero_le _, rfl, rfl, hI, hY⟩
          case round =>
            clear hI hY
            obtain ⟨q, t, hqk, rfl, rfl, hI, hY⟩ := hrel
            cases t with
            | false =>
              have hok2 : Hid (∀ j, j < k + 1 → joinP us a b j = false) := fun j hj => by
                by_cases e : j < k
                · exact hok.out j e
                · obtain rfl : j = k := by omega
                  exact hI.out.2 rfl
              by_cases hql : q < us.length
              · go_wp2_with fail
                go_roundw
                case rel => exact ⟨k + 1, by omega, by go_num, hok2, hY⟩
                case measure => simp [intOf]; omega
              · go_wp2_with fail
                go_roundw
                case rel => exact ⟨k + 1, by omega, by go_num, hok2, hY⟩
                case measure => simp [intOf]; omega
            | true =>
              by_cases hql : q < us.length
              · have q1 := hY.out.box.1
                have q2 := hY.out.box.2.1
                go_wp2_with fail
                clear q1 q2
                cases h1 : le us a q with
                | false =>
                  refine (rf_le hY.out hq.out a q (by omega) (by omega) h1).mono ?_
                  rintro e w4 ⟨rfl, hZ⟩
                  have hI2 := Lib.hid (joinV_next hql hI.out true (by unfold joinD; rw [h1]; rfl))
                  replace h1 := Lib.hid h1
                  clear hY
                  go_wp2_with fail
                  go_roundw
                  case rel => exact ⟨q + 1, _, by omega, rfl, by go_num, hI2, hZ⟩
                  case measure => simp [intOf]; omega
                | true =>
                  refine (rf_le hY.out hq.out a q (by omega) (by omega) h1).mono ?_
                  rintro e w4 ⟨rfl, hZ⟩
                  have h1' := Lib.hid h1
                  clear h1
                  clear hY
                  have q1 := hZ.out.box.1
                  have q2 := hZ.out.box.2.1
                  go_wp2_with fail
                  clear q1 q2
                  cases h2 : le us b q with
                  | false =>
                    refine (rf_le hZ.out hq.out b q (by omega) (by omega) h2).mono ?_
                    rintro e w5 ⟨rfl, hY⟩
                    have hI2 := Lib.hid (joinV_next hql hI.out true (by unfold joinD; rw [h1'.out, h2]; rfl))
                    replace h2 := Lib.hid h2
                    clear hZ
                    go_wp2_with fail
                    go_roundw
                    case rel => exact ⟨q + 1, _, by omega, rfl, by go_num, hI2, hY⟩
                    case measure => simp [intOf]; omega
                  | true =>
                    refine (rf_le hZ.out hq.out b q (by omega) (by omega) h2).mono ?_
                    rintro e w5 ⟨rfl, hY⟩
                    have h2' := Lib.hid h2
                    clear h2
                    clear hZ
                    have q1 := hY.out.box.1
                    have q2 := hY.out.box.2.1
                    go_wp2_with fail
                    clear q1 q2
                    obtain ⟨t3, h3⟩ : ∃ t, le us k q = t := ⟨_, rfl⟩
                    · refine (rf_le hY.out hq.out k q (by omega) (by omega) h3).mono ?_
                      rintro e w6 ⟨rfl, hZ⟩
                      have hI2 := Lib.hid (joinV_next hql hI.out t3 (by unfold joinD; rw [h1'.out, h2'.out, h3]; rfl))
                      replace h3 := Lib.hid h3
                      clear hY
                      go_wp2_with fail
                      go_roundw
                      case rel => exact ⟨q + 1, _, by omega, rfl, by go_num, hI2, hZ⟩
                      case measure => simp [intOf]; omega
              · have hE9 : Hid (joinR us a b = (k : Int)) := firstI_hit hlt hok.out (joinV_yes (by omega) (hI.out.1 rfl))
                go_wp2_with fail
                go_ret
                exact ⟨ret_int hE9.out.symm, hY.out.below⟩
    · have hE9 : Hid (joinR us a b = -1) := firstI_none fun j hj => hok.out j (by omega)
      go_wp2_with fail
      go_ret
      exact ⟨ret_int hE9.out.symm, hY.out.below⟩

theorem meetV_yes {us : List Nat} {a b k q : Nat} (hq : q = us.length) (h : (le us k a && le us k b) = true ∧ ∀ j, j < q → meetD us a b k j = true) : meetP us a b k = true := by
  unfold meetP
  rw [h.1, Bool.true_and, List.all_eq_true]
  intro j hj
  exact h.2 j (by have := List.mem_range.1 hj; omega)
theorem meetV_no0 {us : List Nat} {a b k : Nat} (h : (le us k a && le us k b) = false) : meetP us a b k = false := by
  unfold meetP; rw [h]; rfl
theorem meetV_no {us : List Nat} {a b k q : Nat} (hq : q < us.length) (h : meetD us a b k q = false) : meetP us a b k = false := by
  unfold meetP
  have : (List.range us.length).all (meetD us a b k) = false := by
    rw [List.all_eq_false]
    exact ⟨q, List.mem_range.2 hq, by rw [h]; simp⟩
  rw [this]; simp
def meetV (us : List Nat) (a b k q : Nat) (t : Bool) : Prop := (t = true → (le us k a && le us k b) = true ∧ ∀ j, j < q → meetD us a b k j = true) ∧ (t = false → meetP us a b k = false)
theorem meetV_next {us : List Nat} {a b k q : Nat} (hq : q < us.length) (h : meetV us a b k q true) (t : Bool) (ht : meetD us a b k q = t) : meetV us a b k (q + 1) t := by
  refine ⟨fun e => ?_, fun e => ?_⟩
  · subst e
    refine ⟨(h.1 rfl).1, fun j hj => ?_⟩
    by_cases g : j < q
    · exact (h.1 rfl).2 j g
    · obtain rfl : j = q := by omega
      exact ht
  · subst e
    exact meetV_no hq ht
theorem meetV_start {us : List Nat} {a b k : Nat} (t : Bool) (ht : (le us k a && le us k b) = t) : meetV us a b k 0 t :=
  ⟨fun e => by subst e; exact ⟨ht, fun j hj => by omega⟩, fun e => by subst e; exact meetV_no0 ht⟩

set_option maxRecDepth 100000 in
set_option maxHeartbeats 1000000 in
theorem refmeet_any (A B : Option Addr) (ns : List ByteArray) (us : List Nat) (c d a b : Nat) (w : World) (hE : Env w) (hL : LatAt w A B c ns us) (hq : ns.length = us.length) (hl : us.length ≤ 64) (ha : a < us.length) (hb : b < us.length) :
    Calls Tryd.prog 61 #[.agg #[.slice A ns.length c, .slice B us.length d], .int .i64 a, .int .i64 b] w fun e w' => e = .returned (.int .i64 (meetR us a b)) ∧ Below w.heap.size w w' := by
  have hX := Lib.hid (At.newT 30 (d := d) hE hL)
  have hnl := hL.nlen
  replace hq := Lib.hid hq
  clear hE hL
  go_enter Tryd.func61, Tryd.ntmps61
  go_wp2_with fail
  refine (rf_size hX.out hq.out).mono ?_
  rintro e w1 ⟨rfl, hY⟩
  clear hX
  go_wp2_with fail
  go_loopw [8] (fun i wr => ∃ k : Nat, k ≤ us.length ∧ i = .int .i64 k ∧ Hid (∀ j, j < k → meetP us a b j = false) ∧ Hid (At w wr w.heap.size A B c d ns us)) (fun i _ => us.length - (intOf i).toNat)
  case atStart => exact ⟨0, Nat.zero_le _, rfl, fun j hj => by omega, hY⟩
  case round =>
    clear hY
    obtain ⟨k, hk, rfl, hok, hY⟩ := hrel
    obtain ⟨wo, rfl⟩ : ∃ wo : World, wo = wr := ⟨_, rfl⟩
    by_cases hlt : k < us.length
    · have q1 := hY.out.box.1
      have q2 := hY.out.box.2.1
      go_wp2_with fail
      clear q1 q2
      cases hc : le us k a with
      | false =>
        refine (rf_le hY.out hq.out k a (by omega) (by omega) hc).mono ?_
        rintro e w2 ⟨rfl, hZ⟩
        have hI : Hid (meetV us a b k 0 false) := meetV_start false (by rw [hc]; rfl)
        replace hc := Lib.hid hc
        clear hY
        go_wp2_with fail
        go_loopw [9, 10] (fun v i wr => v = .bool false ∧ i = .int .i64 (0 : Nat) ∧ Hid (At w wr w.heap.size A B c d ns us)) (fun _ i _ => us.length - (intOf i).toNat)
        case atStart => exact ⟨rfl, rfl, hZ⟩
        case round =>
          obtain ⟨rfl, rfl, hZ2⟩ := hrel
          have hok2 : Hid (∀ j, j < k + 1 → meetP us a b j = false) := fun j hj => by
            by_cases e : j < k
            · exact hok.out j e
            · obtain rfl : j = k := by omega
              exact hI.out.2 rfl
          have hpos : 0 < us.length := by omega
          clear hZ
          go_wp2_with fail
          go_roundw
          case rel => exact ⟨k + 1, by omega, by go_num, hok2, hZ2⟩
          case measure => simp [intOf]; omega
      | true =>
        refine (rf_le hY.out hq.out k a (by omega) (by omega) hc).mono ?_
        rintro e w2 ⟨rfl, hZ⟩
        clear hY
        have q1 := hZ.out.box.1
        have q2 := hZ.out.box.2.1
        replace hc := Lib.hid hc
        go_wp2_with fail
        clear q1 q2
        obtain ⟨t0, hc2⟩ : ∃ t, le us k b = t := ⟨_, rfl⟩
        · refine (rf_le hZ.out hq.out k b (by omega) (by omega) hc2).mono ?_
          rintro e w3 ⟨rfl, hY⟩
          have hI := Lib.hid (meetV_start (a := a) (b := b) (k := k) t0 (by rw [hc.out, hc2]; rfl))
          replace hc2 := Lib.hid hc2
          clear hZ
          go_wp2_with fail
          go_loopw [9, 10] (fun v i wr => ∃ (q : Nat) (t : Bool), q ≤ us.length ∧ v = .bool t ∧ i = .int .i64 q ∧ Hid (meetV us a b k q t) ∧ Hid (At w wr w.heap.size A B c d ns us)) (fun _ i _ => us.length - (intOf i).toNat)
          case atStart => exact ⟨0, _, Nat.zero_le _, rfl, rfl, hI, hY⟩
          case round =>
            clear hI hY
            obtain ⟨q, t, hqk, rfl, rfl, hI, hY⟩ := hrel
            cases t with
            | false =>
              have hok2 : Hid (∀ j, j < k + 1 → meetP us a b j = false) := fun j hj => by
                by_cases e : j < k
                · exact hok.out j e
                · obtain rfl : j = k := by omega
                  exact hI.out.2 rfl
              by_cases hql : q < us.length
              · go_wp2_with fail
                go_roundw
                case rel => exact ⟨k + 1, by omega, by go_num, hok2, hY⟩
                case measure => simp [intOf]; omega
              · go_wp2_with fail
                go_roundw
                case rel => exact ⟨k + 1, by omega, by go_num, hok2, hY⟩
                case measure => simp [intOf]; omega
            | true =>
              by_cases hql : q < us.length
              · have q1 := hY.out.box.1
                have q2 := hY.out.box.2.1
                go_wp2_with fail
                clear q1 q2
                cases h1 : le us q a with
                | false =>
                  refine (rf_le hY.out hq.out q a (by omega) (by omega) h1).mono ?_
                  rintro e w4 ⟨rfl, hZ⟩
                  have hI2 := Lib.hid (meetV_next hql hI.out true (by unfold meetD; rw [h1]; rfl))
                  replace h1 := Lib.hid h1
                  clear hY
                  go_wp2_with fail
                  go_roundw
                  case rel => exact ⟨q + 1, _, by omega, rfl, by go_num, hI2, hZ⟩
                  case measure => simp [intOf]; omega
                | true =>
                  refine (rf_le hY.out hq.out q a (by omega) (by omega) h1).mono ?_
                  rintro e w4 ⟨rfl, hZ⟩
                  have h1' := Lib.hid h1
                  clear h1
                  clear hY
                  have q1 := hZ.out.box.1
                  have q2 := hZ.out.box.2.1
                  go_wp2_with fail
                  clear q1 q2
                  cases h2 : le us q b with
                  | false =>
                    refine (rf_le hZ.out hq.out q b (by omega) (by omega) h2).mono ?_
                    rintro e w5 ⟨rfl, hY⟩
                    have hI2 := Lib.hid (meetV_next hql hI.out true (by unfold meetD; rw [h1'.out, h2]; rfl))
                    replace h2 := Lib.hid h2
                    clear hZ
                    go_wp2_with fail
                    go_roundw
                    case rel => exact ⟨q + 1, _, by omega, rfl, by go_num, hI2, hY⟩
                    case measure => simp [intOf]; omega
                  | true =>
                    refine (rf_le hZ.out hq.out q b (by omega) (by omega) h2).mono ?_
                    rintro e w5 ⟨rfl, hY⟩
                    have h2' := Lib.hid h2
                    clear h2
                    clear hZ
                    have q1 := hY.out.box.1
                    have q2 := hY.out.box.2.1
                    go_wp2_with fail
                    clear q1 q2
                    obtain ⟨t3, h3⟩ : ∃ t, le us q k = t := ⟨_, rfl⟩
                    · refine (rf_le hY.out hq.out q k (by omega) (by omega) h3).mono ?_
                      rintro e w6 ⟨rfl, hZ⟩
                      have hI2 := Lib.hid (meetV_next hql hI.out t3 (by unfold meetD; rw [h1'.out, h2'.out, h3]; rfl))
                      replace h3 := Lib.hid h3
                      clear hY
                      go_wp2_with fail
                      go_roundw
                      case rel => exact ⟨q + 1, _, by omega, rfl, by go_num, hI2, hZ⟩
                      case measure => simp [intOf]; omega
              · have hE9 : Hid (meetR us a b = (k : Int)) := firstI_hit hlt hok.out (meetV_yes (by omega) (hI.out.1 rfl))
                go_wp2_with fail
                go_ret
                exact ⟨ret_int hE9.out.symm, hY.out.below⟩
    · have hE9 : Hid (meetR us a b = -1) := firstI_none fun j hj => hok.out j (by omega)
      go_wp2_with fail
      go_ret
      exact ⟨ret_int hE9.out.symm, hY.out.below⟩
end Go.Proofs.YtlhfdedjboanfaaDoor.L

namespace Go.Proofs.YtlhfdedjboanfaaDoor.L
open Go.RowKit Go.Shelf Go.Lt

theorem ordR_no {us : List Nat} {a : Nat} (ha : a < us.length) (h : ordA us a = false) : ordR us = false := by
  unfold ordR
  rw [List.all_eq_false]
  exact ⟨a, List.mem_range.2 ha, by rw [h]; simp⟩
theorem ordA_no {us : List Nat} {a b : Nat} (hb : b < us.length) (h : ordB us a b = false) : ordA us a = false := by
  unfold ordA
  have : (List.range us.length).all (ordB us a) = false := by
    rw [List.all_eq_false]
    exact ⟨b, List.mem_range.2 hb, by rw [h]; simp⟩
  rw [this]; simp
theorem ordB_no {us : List Nat} {a b c : Nat} (hc : c < us.length) (hab : le us a b = true) (h : ordC us a b c = false) : ordB us a b = false := by
  unfold ordB
  have : (List.range us.length).all (ordC us a b) = false := by
    rw [List.all_eq_false]
    exact ⟨c, List.mem_range.2 hc, by rw [h]; simp⟩
  rw [this, hab]; simp
theorem ordB_yes {us : List Nat} {a b : Nat} (ha : (a != b && le us b a) = false) (h : (List.range us.length).all (ordC us a b) = true) : ordB us a b = true := by
  unfold ordB
  rw [ha, h]; simp
theorem all_range {n : Nat} {P : Nat → Bool} (h : ∀ j, j < n → P j = true) : (List.range n).all P = true := by
  rw [List.all_eq_true]
  exact fun j hj => h j (List.mem_range.1 hj)
theorem below_next {P : Nat → Prop} {k : Nat} (h : ∀ j, j < k → P j) (hk : P k) : ∀ j, j < k + 1 → P j := fun j hj => by
  by_cases e : j < k
  · exact h j e
  · obtain rfl : j = k := by omega
    exact hk

set_option maxRecDepth 100000 in
set_option maxHeartbeats 2000000 in
theorem reforder_any (A B : Option Addr) (ns : List ByteArray) (us : List Nat) (c d : Nat) (w : World) (hE : Env w) (hL : LatAt w A B c ns us) (hq : ns.length = us.length) (hl : us.length ≤ 64) :
    Calls Tryd.prog 68 #[.agg #[.slice A ns.length c, .slice B us.length d]] w fun e w' => e = .returned (.bool (ordR us)) ∧ Below w.heap.size w w' := by
  have hX := Lib.hid (At.newT 30 (d := d) hE hL)
  replace hq := Lib.hid hq
  clear hE hL
  go_enter Tryd.func68, Tryd.ntmps68
  go_wp2_with fail
  refine (rf_size hX.out hq.out).mono ?_
  rintro e w1 ⟨rfl, hY⟩
  clear hX
  go_wp2_with fail
  go_loopw [4] (fun i wr => ∃ k : Nat, k ≤ us.length ∧ i = .int .i64 k ∧ Hid (∀ j, j < k → ordA us j = true) ∧ Hid (At w wr w.heap.size A B c d ns us)) (fun i _ => us.length - (intOf i).toNat)
  case atStart => exact ⟨0, Nat.zero_le _, rfl, fun j hj => by omega, hY⟩
  case round =>
    clear hY
    obtain ⟨k, hk, rfl, hok, hY⟩ := hrel
    obtain ⟨wo, rfl⟩ : ∃ wo : World, wo = wr := ⟨_, rfl⟩
    by_cases hlt : k < us.length
    · have q1 := hY.out.box.1
      have q2 := hY.out.box.2.1
      go_wp2_with fail
      clear q1 q2
      cases hkk : le us k k with
      | false =>
        refine (rf_le hY.out hq.out k k (by omega) (by omega) hkk).mono ?_
        rintro e w2 ⟨rfl, hZ⟩
        have hE9 : Hid (ordR us = false) := ordR_no hlt (by unfold ordA; rw [hkk]; rfl)
        replace hkk := Lib.hid hkk
        go_wp2_with fail
        go_ret
        exact ⟨ret_bool hE9.out.symm, hZ.out.below⟩
      | true =>
        refine (rf_le hY.out hq.out k k (by omega) (by omega) hkk).mono ?_
        rintro e w2 ⟨rfl, hZ⟩
        have hkk' := Lib.hid hkk
        clear hkk hY
        go_wp2_with fail
        go_loopw [5] (fun i wr => ∃ q : Nat, q ≤ us.length ∧ i = .int .i64 q ∧ Hid (∀ j, j < q → ordB us k j = true) ∧ Hid (At w wr w.heap.size A B c d ns us)) (fun i _ => us.length - (intOf i).toNat)
        case atStart => exact ⟨0, Nat.zero_le _, rfl, fun j hj => by omega, hZ⟩
        case round =>
          clear hZ
          obtain ⟨q, hqk, rfl, hok2, hY⟩ := hrel
          obtain ⟨wp, rfl⟩ : ∃ wp : World, wp = wr := ⟨_, rfl⟩
          by_cases hql : q < us.length
          · have q1 := hY.out.box.1
            have q2 := hY.out.box.2.1
            go_wp2_with fail
            clear q1 q2
            cases hkq : le us k q with
            | false =>
              refine (rf_le hY.out hq.out k q (by omega) (by omega) hkq).mono ?_
              rintro e w3 ⟨rfl, hZ⟩
              have hok3 := Lib.hid (below_next hok2.out (by unfold ordB; rw [hkq]; rfl))
              replace hkq := Lib.hid hkq
              clear hY
              go_wp2_with fail
              go_roundw
              case rel => exact ⟨q + 1, by omega, by go_num, hok3, hZ⟩
              case measure => simp [intOf]; omega
            | true =>
              refine (rf_le hY.out hq.out k q (by omega) (by omega) hkq).mono ?_
              rintro e w3 ⟨rfl, hZ⟩
              have hkq' := Lib.hid hkq
              clear hkq hY
              have key : ∀ wx, Hid (At w wx w.heap.size A B c d ns us) → Hid ((k != q && le us q k) = false) → True := fun _ _ _ => trivial
              clear key
              by_cases hne : k = q
              · subst hne
                have hne2 : ((k : Int) == (k : Int)) = true := by simp
                have hanti : Hid ((k != k && le us k k) = false) := by show (k != k && le us k k) = false; simp
                go_wp2_with fail
                go_loopw [6] (fun i wr => ∃ x : Nat, x ≤ us.length ∧ i = .int .i64 x ∧ Hid (∀ j, j < x → ordC us k k j = true) ∧ Hid (At w wr w.heap.size A B c d ns us)) (fun i _ => us.length - (intOf i).toNat)
                case atStart => exact ⟨0, Nat.zero_le _, rfl, fun j hj => by omega, hZ⟩
                case round =>
                  clear hZ
                  obtain ⟨x, hxk, rfl, hok4, hY⟩ := hrel
                  by_cases hxl : x < us.length
                  · have q1 := hY.out.box.1
                    have q2 := hY.out.box.2.1
                    go_wp2_with fail
                    clear q1 q2
                    cases hqx : le us k x with
                    | false =>
                      refine (rf_le hY.out hq.out k x (by omega) (by omega) hqx).mono ?_
                      rintro e w4 ⟨rfl, hZ⟩
                      have hok5 := Lib.hid (below_next hok4.out (by unfold ordC; rw [hqx]; rfl))
                      replace hqx := Lib.hid hqx
                      clear hY
                      go_wp2_with fail
                      go_roundw
                      case rel => exact ⟨x + 1, by omega, by go_num, hok5, hZ⟩
                      case measure => simp [intOf]; omega
                    | true =>
                      refine (rf_le hY.out hq.out k x (by omega) (by omega) hqx).mono ?_
                      rintro e w4 ⟨rfl, hZ⟩
                      have hok5 := Lib.hid (below_next hok4.out (by unfold ordC; rw [hqx]; rfl))
                      have hqx' := Lib.hid hqx
                      clear hqx hY
                      have q1 := hZ.out.box.1
                      have q2 := hZ.out.box.2.1
                      go_wp2_with fail
                      clear q1 q2
                      refine (rf_le hZ.out hq.out k x (by omega) (by omega) hqx'.out).mono ?_
                      rintro e w5 ⟨rfl, hY⟩
                      clear hZ
                      go_wp2_with fail
                      go_roundw
                      case rel => exact ⟨x + 1, by omega, by go_num, hok5, hY⟩
                      case measure => simp [intOf]; omega
                  · have hok3 := Lib.hid (below_next hok2.out (ordB_yes hanti.out (all_range fun j hj => hok4.out j (by omega))))
                    go_wp2_with fail
                    go_roundw
                    case rel => exact ⟨k + 1, by omega, by go_num, hok3, hY⟩
                    case measure => simp [intOf]; omega
              · have hne2 : ((k : Int) == (q : Int)) = false := by rw [beq_eq_false_iff_ne]; omega
                have q1 := hZ.out.box.1
                have q2 := hZ.out.box.2.1
                go_wp2_with fail
                clear q1 q2
                cases hqk2 : le us q k with
                | true =>
                  refine (rf_le hZ.out hq.out q k (by omega) (by omega) hqk2).mono ?_
                  rintro e w4 ⟨rfl, hY⟩
                  have hE9 : Hid (ordR us = false) := ordR_no hlt (ordA_no hql (by
                    unfold ordB
                    have : (k != q) = true := by rw [bne_iff_ne]; exact hne
                    rw [hqk2, hkq'.out, this]; rfl))
                  replace hqk2 := Lib.hid hqk2
                  go_wp2_with fail
                  go_ret
                  exact ⟨ret_bool hE9.out.symm, hY.out.below⟩
                | false =>
                  refine (rf_le hZ.out hq.out q k (by omega) (by omega) hqk2).mono ?_
                  rintro e w4 ⟨rfl, hY⟩
                  have hanti : Hid ((k != q && le us q k) = false) := by show (k != q && le us q k) = false; rw [hqk2]; simp
                  replace hqk2 := Lib.hid hqk2
                  clear hZ
                  go_wp2_with fail
                  go_loopw [6] (fun i wr => ∃ x : Nat, x ≤ us.length ∧ i = .int .i64 x ∧ Hid (∀ j, j < x → ordC us k q j = true) ∧ Hid (At w wr w.heap.size A B c d ns us)) (fun i _ => us.length - (intOf i).toNat)
                  case atStart => exact ⟨0, Nat.zero_le _, rfl, fun j hj => by omega, hY⟩
                  case round =>
                    clear hY
                    obtain ⟨x, hxk, rfl, hok4, hY⟩ := hrel
                    by_cases hxl : x < us.length
                    · have q1 := hY.out.box.1
                      have q2 := hY.out.box.2.1
                      go_wp2_with fail
                      clear q1 q2
                      cases hqx : le us q x with
                      | false =>
                        refine (rf_le hY.out hq.out q x (by omega) (by omega) hqx).mono ?_
                        rintro e w5 ⟨rfl, hZ⟩
                        have hok5 := Lib.hid (below_next hok4.out (by unfold ordC; rw [hqx]; rfl))
                        replace hqx := Lib.hid hqx
                        clear hY
                        go_wp2_with fail
                        go_roundw
                        case rel => exact ⟨x + 1, by omega, by go_num, hok5, hZ⟩
                        case measure => simp [intOf]; omega
                      | true =>
                        refine (rf_le hY.out hq.out q x (by omega) (by omega) hqx).mono ?_
                        rintro e w5 ⟨rfl, hZ⟩
                        have hqx' := Lib.hid hqx
                        clear hqx hY
                        have q1 := hZ.out.box.1
                        have q2 := hZ.out.box.2.1
                        go_wp2_with fail
                        clear q1 q2
                        cases hkx : le us k x with
                        | true =>
                          refine (rf_le hZ.out hq.out k x (by omega) (by omega) hkx).mono ?_
                          rintro e w6 ⟨rfl, hY⟩
                          have hok5 := Lib.hid (below_next hok4.out (by unfold ordC; rw [hkx]; simp))
                          replace hkx := Lib.hid hkx
                          clear hZ
                          go_wp2_with fail
                          go_roundw
                          case rel => exact ⟨x + 1, by omega, by go_num, hok5, hY⟩
                          case measure => simp [intOf]; omega
                        | false =>
                          refine (rf_le hZ.out hq.out k x (by omega) (by omega) hkx).mono ?_
                          rintro e w6 ⟨rfl, hY⟩
                          have hE9 : Hid (ordR us = false) := ordR_no hlt (ordA_no hql (ordB_no hxl hkq'.out (by unfold ordC; rw [hkx, hqx'.out]; rfl)))
                          replace hkx := Lib.hid hkx
                          go_wp2_with fail
                          go_ret
                          exact ⟨ret_bool hE9.out.symm, hY.out.below⟩
                    · have hok3 := Lib.hid (below_next hok2.out (ordB_yes hanti.out (all_range fun j hj => hok4.out j (by omega))))
                      go_wp2_with fail
                      go_roundw
                      case rel => exact ⟨q + 1, by omega, by go_num, hok3, hY⟩
                      case measure => simp [intOf]; omega
          · have hok3 := Lib.hid (below_next hok.out (by unfold ordA; rw [hkk'.out, all_range fun j hj => hok2.out j (by omega)]; rfl))
            go_wp2_with fail
            go_roundw
            case rel => exact ⟨k + 1, by omega, by go_num, hok3, hY⟩
            case measure => simp [intOf]; omega
    · have hE9 : Hid (ordR us = true) := all_range fun j hj => hok.out j (by omega)
      go_wp2_with fail
      go_ret
      exact ⟨ret_bool hE9.out.symm, hY.out.below⟩

theorem boundR_no {us : List Nat} {a b : Nat} (ha : a < us.length) (hb : b < us.length) (h : boundB us a b = false) : boundR us = false := by
  unfold boundR
  rw [List.all_eq_false]
  refine ⟨a, List.mem_range.2 ha, ?_⟩
  have : boundA us a = false := by
    unfold boundA
    rw [List.all_eq_false]
    exact ⟨b, List.mem_range.2 hb, by rw [h]; simp⟩
  rw [this]; simp

section
variable {w W : World} {p : Nat} {A B : Option Addr} {c d : Nat} {ns : List ByteArray} {us : List Nat}
theorem rf_join (hX : At w W p A B c d ns us) (hq : ns.length = us.length) (hl : us.length ≤ 64) (a b : Nat) (ha : a < us.length) (hb : b < us.length) {r : Int} (hr : joinR us a b = r) : Calls Tryd.prog 62 #[.agg #[.slice A ns.length c, .slice B us.length d], .int .i64 a, .int .i64 b] W fun e w' => e = .returned (.int .i64 r) ∧ Hid (At w w' p A B c d ns us) :=
  (refjoin_any A B ns us c d a b W hX.env hX.lat hq hl ha hb).mono fun _ _ ⟨h1, h2⟩ => ⟨by rw [h1, hr], hX.later h2⟩
theorem rf_meet (hX : At w W p A B c d ns us) (hq : ns.length = us.length) (hl : us.length ≤ 64) (a b : Nat) (ha : a < us.length) (hb : b < us.length) {r : Int} (hr : meetR us a b = r) : Calls Tryd.prog 61 #[.agg #[.slice A ns.length c, .slice B us.length d], .int .i64 a, .int .i64 b] W fun e w' => e = .returned (.int .i64 r) ∧ Hid (At w w' p A B c d ns us) :=
  (refmeet_any A B ns us c d a b W hX.env hX.lat hq hl ha hb).mono fun _ _ ⟨h1, h2⟩ => ⟨by rw [h1, hr], hX.later h2⟩
theorem rf_order (hX : At w W p A B c d ns us) (hq : ns.length = us.length) (hl : us.length ≤ 64) {r : Bool} (hr : ordR us = r) : Calls Tryd.prog 68 #[.agg #[.slice A ns.length c, .slice B us.length d]] W fun e w' => e = .returned (.bool r) ∧ Hid (At w w' p A B c d ns us) :=
  (reforder_any A B ns us c d W hX.env hX.lat hq hl).mono fun _ _ ⟨h1, h2⟩ => ⟨by rw [h1, hr], hX.later h2⟩
end

set_option maxRecDepth 100000 in
set_option maxHeartbeats 1000000 in
theorem refbounded_any (A B : Option Addr) (ns : List ByteArray) (us : List Nat) (c d : Nat) (w : World) (hE : Env w) (hL : LatAt w A B c ns us) (hq : ns.length = us.length) (hl : us.length ≤ 64) :
    Calls Tryd.prog 69 #[.agg #[.slice A ns.length c, .slice B us.length d]] w fun e w' => e = .returned (.bool (boundR us)) ∧ Below w.heap.size w w' := by
  have hX := Lib.hid (At.newT 30 (d := d) hE hL)
  replace hq := Lib.hid hq
  clear hE hL
  go_enter Tryd.func69, Tryd.ntmps69
  go_wp2_with fail
  refine (rf_size hX.out hq.out).mono ?_
  rintro e w1 ⟨rfl, hY⟩
  clear hX
  go_wp2_with fail
  go_loopw [4] (fun i wr => ∃ k : Nat, k ≤ us.length ∧ i = .int .i64 k ∧ Hid (∀ j, j < k → boundA us j = true) ∧ Hid (At w wr w.heap.size A B c d ns us)) (fun i _ => us.length - (intOf i).toNat)
  case atStart => exact ⟨0, Nat.zero_le _, rfl, fun j hj => by omega, hY⟩
  case round =>
    clear hY
    obtain ⟨k, hk, rfl, hok, hY⟩ := hrel
    obtain ⟨wo, rfl⟩ : ∃ wo : World, wo = wr := ⟨_, rfl⟩
    by_cases hlt : k < us.length
    · go_wp2_with fail
      go_loopw [5] (fun i wr => ∃ q : Nat, q ≤ us.length ∧ i = .int .i64 q ∧ Hid (∀ j, j < q → boundB us k j = true) ∧ Hid (At w wr w.heap.size A B c d ns us)) (fun i _ => us.length - (intOf i).toNat)
      case atStart => exact ⟨0, Nat.zero_le _, rfl, fun j hj => by omega, hY⟩
      case round =>
        clear hY
        obtain ⟨q, hqk, rfl, hok2, hY⟩ := hrel
        by_cases hql : q < us.length
        · have q1 := hY.out.box.1
          have q2 := hY.out.box.2.1
          go_wp2_with fail
          clear q1 q2
          obtain ⟨J, hJ⟩ : ∃ J, joinR us k q = J := ⟨_, rfl⟩
          refine (rf_join hY.out hq.out hl k q (by omega) (by omega) hJ).mono ?_
          rintro e w2 ⟨rfl, hZ⟩
          clear hY
          by_cases hJ0 : J < 0
          · have hE9 : Hid (boundR us = false) := boundR_no hlt hql (by unfold boundB; rw [hJ]; have : decide (0 ≤ J) = false := by simp; omega
                                                                        rw [this]; rfl)
            replace hJ := Lib.hid hJ
            go_wp2_with fail
            go_ret
            exact ⟨ret_bool hE9.out.symm, hZ.out.below⟩
          · have hJ' := Lib.hid hJ
            clear hJ
            have q1 := hZ.out.box.1
            have q2 := hZ.out.box.2.1
            go_wp2_with fail
            clear q1 q2
            obtain ⟨M, hM⟩ : ∃ M, meetR us k q = M := ⟨_, rfl⟩
            refine (rf_meet hZ.out hq.out hl k q (by omega) (by omega) hM).mono ?_
            rintro e w3 ⟨rfl, hY⟩
            clear hZ
            by_cases hM0 : M < 0
            · have hE9 : Hid (boundR us = false) := boundR_no hlt hql (by unfold boundB; rw [hM]; have : decide (0 ≤ M) = false := by simp; omega
                                                                          rw [this]; simp)
              replace hM := Lib.hid hM
              go_wp2_with fail
              go_ret
              exact ⟨ret_bool hE9.out.symm, hY.out.below⟩
            · have hok3 := Lib.hid (below_next hok2.out (by
                unfold boundB; rw [hM, hJ'.out, decide_eq_true (show 0 ≤ J by omega), decide_eq_true (show 0 ≤ M by omega)]; rfl))
              replace hM := Lib.hid hM
              go_wp2_with fail
              go_roundw
              case rel => exact ⟨q + 1, by omega, by go_num, hok3, hY⟩
              case measure => simp [intOf]; omega
        · have hok3 := Lib.hid (below_next hok.out (all_range (P := boundB us k) fun j hj => hok2.out j (by omega)))
          go_wp2_with fail
          go_roundw
          case rel => exact ⟨k + 1, by omega, by go_num, hok3, hY⟩
          case measure => simp [intOf]; omega
    · have hE9 : Hid (boundR us = true) := all_range fun j hj => hok.out j (by omega)
      go_wp2_with fail
      go_ret
      exact ⟨ret_bool hE9.out.symm, hY.out.below⟩
end Go.Proofs.YtlhfdedjboanfaaDoor.L

namespace Go.Proofs.YtlhfdedjboanfaaDoor.L
open Go.RowKit Go.Shelf Go.Lt

theorem within_of {us : List Nat} (h64 : W64 us) (hl : us.length ≤ 64) (h : ∀ a, a < us.length → row us a < 2 ^ us.length) : within us = true := by
  unfold within
  rw [List.all_eq_true]
  intro r hr
  obtain ⟨a, ha, rfl⟩ := List.getElem_of_mem hr
  have e : us[a] = row us a := by
    unfold row
    rw [List.getD_eq_getElem?_getD, List.getElem?_eq_getElem ha]; rfl
  rw [e]
  refine (sub_iff (h64 a) (all_lt hl)).2 fun b hb => ?_
  rw [all_bit]
  exact decide_eq_true (testBit_lt (h a ha) hb)
theorem shr_none {r n : Nat} (h : r < 2 ^ n) : (((r : Int) / 2 ^ n) == 0) = true := by
  have e1 : ((r : Int) / 2 ^ n) = ((r / 2 ^ n : Nat) : Int) := by rw [Int.natCast_ediv]; simp
  rw [e1, Nat.div_eq_of_lt h]; rfl
theorem shr_some {r n : Nat} (h : ¬ r < 2 ^ n) : (((r : Int) / 2 ^ n) == 0) = false := by
  have e1 : ((r : Int) / 2 ^ n) = ((r / 2 ^ n : Nat) : Int) := by rw [Int.natCast_ediv]; simp
  have := Nat.div_pos (Nat.le_of_not_lt h) (Nat.two_pow_pos n)
  rw [e1, beq_eq_false_iff_ne]
  omega
section
variable {w W : World} {p : Nat} {A B : Option Addr} {c d : Nat} {ns : List ByteArray} {us : List Nat}
theorem rf_names (hX : At w W p A B c d ns us) {r : Bool} (hr : namedB ns = r) : Calls Tryd.prog 67 #[.slice A ns.length c] W fun e w' => e = .returned (.bool r) ∧ Hid (At w w' p A B c d ns us) :=
  (refnames_any A ns c W hX.lat.names hX.lat.smax hX.lat.nlen).mono fun _ _ ⟨h1, h2⟩ => ⟨by rw [h1, hr], hX.later h2⟩
theorem rf_bounded (hX : At w W p A B c d ns us) (hq : ns.length = us.length) (hl : us.length ≤ 64) {r : Bool} (hr : boundR us = r) : Calls Tryd.prog 69 #[.agg #[.slice A ns.length c, .slice B us.length d]] W fun e w' => e = .returned (.bool r) ∧ Hid (At w w' p A B c d ns us) :=
  (refbounded_any A B ns us c d W hX.env hX.lat hq hl).mono fun _ _ ⟨h1, h2⟩ => ⟨by rw [h1, hr], hX.later h2⟩
end

set_option maxRecDepth 100000 in
set_option maxHeartbeats 1000000 in
theorem refright_any (A B : Option Addr) (ns : List ByteArray) (us : List Nat) (c d : Nat) (w : World) (hE : Env w) (hL : LatAt w A B c ns us) :
    Calls Tryd.prog 40 #[.agg #[.slice A ns.length c, .slice B us.length d]] w fun e w' => e = .returned (.bool (rightB ns us)) ∧ Below w.heap.size w w' := by
  have hX := Lib.hid (At.newT 30 (d := d) hE hL)
  have hnl := hL.nlen
  have hul := hL.ulen
  have h64 := Lib.hid hL.w64
  clear hE hL
  by_cases h1 : 1 ≤ ns.length
  case neg =>
    have hE9 : Hid (rightB ns us = false) := by
      show rightB ns us = false
      unfold rightB; simp [h1]
    go_enter Tryd.func40, Tryd.ntmps40
    go_wp2_with fail
    go_ret
    exact ⟨ret_bool hE9.out.symm, hX.out.below⟩
  by_cases h2 : ns.length ≤ 64
  case neg =>
    have hE9 : Hid (rightB ns us = false) := by
      show rightB ns us = false
      unfold rightB; simp [h2]
    go_enter Tryd.func40, Tryd.ntmps40
    go_wp2_with fail
    go_ret
    exact ⟨ret_bool hE9.out.symm, hX.out.below⟩
  by_cases h3 : us.length = ns.length
  case neg =>
    have hE9 : Hid (rightB ns us = false) := by
      show rightB ns us = false
      unfold rightB; simp [h3]
    have h3' : ((us.length : Int) == (ns.length : Int)) = false := by rw [beq_eq_false_iff_ne]; omega
    go_enter Tryd.func40, Tryd.ntmps40
    go_wp2_with fail
    go_ret
    exact ⟨ret_bool hE9.out.symm, hX.out.below⟩
  have h3' : ((us.length : Int) == (ns.length : Int)) = true := by rw [beq_iff_eq]; omega
  have hq : Hid (ns.length = us.length) := h3.symm
  have hul64 : us.length ≤ 64 := by omega
  have hfin : Hid (∀ v : Bool, rightB ns us = (namedB ns && within us && ordered us && complete us)) := fun v => by
    unfold rightB
    rw [decide_eq_true h1, decide_eq_true h2, decide_eq_true h3]; simp
  clear h3
  go_enter Tryd.func40, Tryd.ntmps40
  go_wp2_with fail
  rotate_left
  · have := hq.out
    exfalso
    omega
  cases h4 : namedB ns with
  | false =>
    refine (rf_names hX.out h4).mono ?_
    rintro e w1 ⟨rfl, hY⟩
    have hE9 : Hid (rightB ns us = false) := by
      show rightB ns us = false
      rw [hfin.out true, h4]; rfl
    replace h4 := Lib.hid h4
    go_wp2_with fail
    go_ret
    exact ⟨ret_bool hE9.out.symm, hY.out.below⟩
  | true =>
    refine (rf_names hX.out h4).mono ?_
    rintro e w1 ⟨rfl, hY⟩
    have h4' := Lib.hid h4
    clear h4 hX
    go_wp2_with fail
    go_loopw [4] (fun i wr => ∃ k : Nat, k ≤ us.length ∧ i = .int .i64 k ∧ Hid (∀ j, j < k → row us j < 2 ^ us.length) ∧ Hid (At w wr w.heap.size A B c d ns us)) (fun i _ => us.length - (intOf i).toNat)
    case atStart => exact ⟨0, Nat.zero_le _, rfl, fun j hj => by omega, hY⟩
    case round =>
      clear hY
      obtain ⟨k, hk, rfl, hok, hY⟩ := hrel
      have hkn : k ≤ ns.length := by have := hq.out; omega
      by_cases hlt : k < us.length
      · have hltn : k < ns.length := by have := hq.out; omega
        have q1 := hY.out.box.1
        have q2 := hY.out.box.2.1
        by_cases hn64 : ns.length < 64
        · obtain ⟨bb, off, rfl, hb, hc⟩ := hY.out.lat.words (by intro e; subst e; simp at hlt)
          have hck := hc k hlt
          have hr := h64.out k
          clear hc
          by_cases hrow : row us k < 2 ^ ns.length
          · have hsh := shr_none hrow
            have hok2 := Lib.hid (below_next hok.out (show row us k < 2 ^ us.length by rw [← hq.out]; exact hrow))
            clear hrow
            go_wp2_with fail
            go_roundw
            case rel => exact ⟨k + 1, by omega, by go_num, hok2, hY⟩
            case measure => simp [intOf]; omega
          · have hsh := shr_some hrow
            have hE9 : Hid (rightB ns us = false) := by
              show rightB ns us = false
              have : within us = false := by
                rw [← Bool.not_eq_true]
                intro e
                have := within_in h64.out hul64 e k hlt
                rw [← hq.out] at this
                exact hrow this
              rw [hfin.out true, this]; simp
            clear hrow
            go_wp2_with fail
            go_ret
            exact ⟨ret_bool hE9.out.symm, hY.out.below⟩
        · have hok2 : Hid (∀ j, j < k + 1 → row us j < 2 ^ us.length) := below_next hok.out (by
            have e : us.length = 64 := by have := hq.out; omega
            rw [e]; exact h64.out k)
          go_wp2_with fail
          go_roundw
          case rel => exact ⟨k + 1, by omega, by go_num, hok2, hY⟩
          case measure => simp [intOf]; omega
      · have hw := Lib.hid (within_of h64.out hul64 fun j hj => hok.out j (by omega))
        have hkn2 : ¬ k < ns.length := by have := hq.out; omega
        have q1 := hY.out.box.1
        have q2 := hY.out.box.2.1
        go_wp2_with fail
        clear q1 q2
        have ho := ordR_eq h64.out hul64 hw.out
        cases h5 : ordered us with
        | false =>
          refine (rf_order hY.out hq.out hul64 (ho.trans h5)).mono ?_
          rintro e w2 ⟨rfl, hZ⟩
          have hE9 : Hid (rightB ns us = false) := by
            show rightB ns us = false
            rw [hfin.out true, h5]; simp
          replace ho := Lib.hid ho
          replace h5 := Lib.hid h5
          go_wp2_with fail
          go_ret
          exact ⟨ret_bool hE9.out.symm, hZ.out.below⟩
        | true =>
          refine (rf_order hY.out hq.out hul64 (ho.trans h5)).mono ?_
          rintro e w2 ⟨rfl, hZ⟩
          replace ho := Lib.hid ho
          have h5' := Lib.hid h5
          clear h5
          have q1 := hZ.out.box.1
          have q2 := hZ.out.box.2.1
          go_wp2_with fail
          clear q1 q2
          have hpos : 1 ≤ us.length := by have := hq.out; omega
          refine (rf_bounded hZ.out hq.out hul64 (boundR_eq h64.out hul64 hw.out h5'.out hpos)).mono ?_
          rintro e w3 ⟨rfl, hY2⟩
          have hE9 : Hid (rightB ns us = complete us) := by
            show rightB ns us = _
            rw [hfin.out true, h4'.out, hw.out, h5'.out]; rfl
          go_wp2_with fail
          go_ret
          exact ⟨ret_bool hE9.out.symm, hY2.out.below⟩

section
variable {w W : World} {p : Nat} {A B : Option Addr} {c d : Nat} {ns : List ByteArray} {us : List Nat}
theorem rf_right (hX : At w W p A B c d ns us) {r : Bool} (hr : rightB ns us = r) : Calls Tryd.prog 40 #[.agg #[.slice A ns.length c, .slice B us.length d]] W fun e w' => e = .returned (.bool r) ∧ Hid (At w w' p A B c d ns us) :=
  (refright_any A B ns us c d W hX.env hX.lat).mono fun _ _ ⟨h1, h2⟩ => ⟨by rw [h1, hr], hX.later h2⟩
end
theorem right_ord {ns : List ByteArray} {us : List Nat} (h64 : W64 us) (hR : rightB ns us = true) : IsOrd us := by
  obtain ⟨q1, q2, q3, q4, q5, q6, q7⟩ := right_parts hR
  exact isOrd_of h64 (by omega) q5 q6
theorem right_bound {ns : List ByteArray} {us : List Nat} (h64 : W64 us) (hR : rightB ns us = true) : ∀ a, a < us.length → ∀ b, b < us.length → 0 ≤ joinR us a b ∧ 0 ≤ meetR us a b := by
  obtain ⟨q1, q2, q3, q4, q5, q6, q7⟩ := right_parts hR
  have := boundR_eq h64 (by omega) q5 q6 (by omega)
  rw [q7] at this
  exact boundR_iff.1 this
theorem join_hi {ns : List ByteArray} {us : List Nat} (h64 : W64 us) (hR : rightB ns us = true) {a b : Nat} (ha : a < us.length) (hb : b < us.length) : ∃ j : Nat, joinR us a b = (j : Int) ∧ j < us.length ∧ le us a j = true ∧ le us b j = true := by
  obtain ⟨k, hk, hp, e⟩ := firstI_some (right_bound h64 hR a ha b hb).1
  have := (joinP_iff (right_ord h64 hR)).1 hp
  exact ⟨k, e, hk, this.left, this.right⟩
theorem meet_lo {ns : List ByteArray} {us : List Nat} (h64 : W64 us) (hR : rightB ns us = true) {a b : Nat} (ha : a < us.length) (hb : b < us.length) : ∃ j : Nat, meetR us a b = (j : Int) ∧ j < us.length ∧ le us j a = true ∧ le us j b = true := by
  obtain ⟨k, hk, hp, e⟩ := firstI_some (right_bound h64 hR a ha b hb).2
  have : meetP us a b k = true := hp
  unfold meetP at this
  rw [Bool.and_eq_true, Bool.and_eq_true] at this
  exact ⟨k, e, hk, this.1.1, this.1.2⟩
theorem bottom_is {ns : List ByteArray} {us : List Nat} (h64 : W64 us) (hR : rightB ns us = true) {x : Nat} (h : ∀ c, c < us.length → le us x c = true) : bottomI ns us = (x : Int) := by
  obtain ⟨q1, q2, q3, q4, q5, q6, q7⟩ := right_parts hR
  unfold bottomI
  rw [hR, if_pos rfl]
  exact least_of (right_ord h64 hR) (all_lt (by omega)) ⟨by rw [all_bit]; simpa using le_left (h 0 (by omega)), fun b hb => h b (by rw [all_bit] at hb; simpa using hb)⟩
theorem top_is {ns : List ByteArray} {us : List Nat} (h64 : W64 us) (hR : rightB ns us = true) {x : Nat} (h : ∀ c, c < us.length → le us c x = true) : topI ns us = (x : Int) := by
  obtain ⟨q1, q2, q3, q4, q5, q6, q7⟩ := right_parts hR
  have hO := right_ord h64 hR
  unfold topI
  rw [hR, if_pos rfl]
  exact least_of hO.turned (all_lt (by omega)) ⟨by rw [all_bit]; simpa using (hO.inn _ _ (h 0 (by omega))).2, fun b hb => by rw [le_turned us _ _ hO.inn]; exact h b (by rw [all_bit] at hb; simpa using hb)⟩

set_option maxRecDepth 100000 in
set_option maxHeartbeats 1000000 in
theorem refJoin_any (A B : Option Addr) (ns : List ByteArray) (us : List Nat) (c d : Nat) (a b : Int) (w : World) (hE : Env w) (hL : LatAt w A B c ns us) :
    Calls Tryd.prog 37 #[.agg #[.slice A ns.length c, .slice B us.length d], .int .i64 a, .int .i64 b] w fun e w' => e = .returned (.int .i64 (joinI ns us a b)) ∧ Below w.heap.size w w' := by
  have hX := Lib.hid (At.newT 30 (d := d) hE hL)
  have h64 := Lib.hid hL.w64
  clear hE hL
  go_enter Tryd.func37, Tryd.ntmps37
  go_wp2_with fail
  cases hR : rightB ns us with
  | false =>
    refine (rf_right hX.out hR).mono ?_
    rintro e w1 ⟨rfl, hY⟩
    have hE9 : Hid (joinI ns us a b = -1) := no_join hR
    replace hR := Lib.hid hR
    go_wp2_with fail
    go_ret
    exact ⟨ret_int hE9.out.symm, hY.out.below⟩
  | true =>
    refine (rf_right hX.out hR).mono ?_
    rintro e w1 ⟨rfl, hY⟩
    obtain ⟨z1, z2, z3, -, -, -, -⟩ := right_parts hR
    have hq : Hid (ns.length = us.length) := z3.symm
    have hl : us.length ≤ 64 := by omega
    replace hR := Lib.hid hR
    clear hX z1 z2 z3
    have hno : Hid (¬ (0 ≤ a ∧ 0 ≤ b ∧ a < us.length ∧ b < us.length) → joinI ns us a b = -1) := fun h => by
      have : (pointB ns.length us.length a && pointB ns.length us.length b) = false := by
        rw [← Bool.not_eq_true, Bool.and_eq_true]
        rintro ⟨e1, e2⟩
        have e1 : 0 ≤ a ∧ a < ns.length ∧ a < us.length := by simpa [pointB] using e1
        have e2 : 0 ≤ b ∧ b < ns.length ∧ b < us.length := by simpa [pointB] using e2
        exact h ⟨e1.1, e2.1, e1.2.2, e2.2.2⟩
      unfold joinI
      rw [hR.out, Bool.true_and, this]; rfl
    by_cases ha0 : a < 0
    · have hE9 := Lib.hid (hno.out (by omega))
      go_wp2_with fail
      go_ret
      exact ⟨ret_int hE9.out.symm, hY.out.below⟩
    by_cases hb0 : b < 0
    · have hE9 := Lib.hid (hno.out (by omega))
      go_wp2_with fail
      go_ret
      exact ⟨ret_int hE9.out.symm, hY.out.below⟩
    obtain ⟨ka, rfl⟩ := Int.eq_ofNat_of_zero_le (show 0 ≤ a by omega)
    obtain ⟨kb, rfl⟩ := Int.eq_ofNat_of_zero_le (show 0 ≤ b by omega)
    have q1 := hY.out.box.1
    have q2 := hY.out.box.2.1
    go_wp2_with fail
    clear q1 q2
    refine (rf_size hY.out hq.out).mono ?_
    rintro e w2 ⟨rfl, hZ⟩
    clear hY
    by_cases ha : ka < us.length
    case neg =>
      have hE9 := Lib.hid (hno.out (by omega))
      go_wp2_with fail
      go_ret
      exact ⟨ret_int hE9.out.symm, hZ.out.below⟩
    have q1 := hZ.out.box.1
    have q2 := hZ.out.box.2.1
    go_wp2_with fail
    clear q1 q2
    refine (rf_size hZ.out hq.out).mono ?_
    rintro e w3 ⟨rfl, hY⟩
    clear hZ
    by_cases hb : kb < us.length
    case neg =>
      have hE9 := Lib.hid (hno.out (by omega))
      go_wp2_with fail
      go_ret
      exact ⟨ret_int hE9.out.symm, hY.out.below⟩
    have hE9 : Hid (joinR us ka kb = joinI ns us ka kb) := by
      have hO := right_ord h64.out hR.out
      have e1 : pointB ns.length us.length (ka : Int) = true := by unfold pointB; rw [decide_eq_true_eq]; have := hq.out; omega
      have e2 : pointB ns.length us.length (kb : Int) = true := by unfold pointB; rw [decide_eq_true_eq]; have := hq.out; omega
      show joinR us ka kb = _
      unfold joinI
      rw [hR.out, e1, e2, if_pos (by rfl), joinR_eq hO]; rfl
    have q1 := hY.out.box.1
    have q2 := hY.out.box.2.1
    go_wp2_with fail
    clear q1 q2
    refine (rf_join hY.out hq.out hl ka kb ha hb hE9.out).mono ?_
    rintro e w4 ⟨rfl, hZ⟩
    go_wp2_with fail
    go_ret
    exact ⟨rfl, hZ.out.below⟩

set_option maxRecDepth 100000 in
set_option maxHeartbeats 1000000 in
theorem refBottom_any (A B : Option Addr) (ns : List ByteArray) (us : List Nat) (c d : Nat) (w : World) (hE : Env w) (hL : LatAt w A B c ns us) :
    Calls Tryd.prog 35 #[.agg #[.slice A ns.length c, .slice B us.length d]] w fun e w' => e = .returned (.int .i64 (bottomI ns us)) ∧ Below w.heap.size w w' := by
  have hX := Lib.hid (At.newT 30 (d := d) hE hL)
  have h64 := Lib.hid hL.w64
  clear hE hL
  go_enter Tryd.func35, Tryd.ntmps35
  go_wp2_with fail
  cases hR : rightB ns us with
  | false =>
    refine (rf_right hX.out hR).mono ?_
    rintro e w1 ⟨rfl, hY⟩
    have hE9 : Hid (bottomI ns us = -1) := no_bottom hR
    replace hR := Lib.hid hR
    go_wp2_with fail
    go_ret
    exact ⟨ret_int hE9.out.symm, hY.out.below⟩
  | true =>
    refine (rf_right hX.out hR).mono ?_
    rintro e w1 ⟨rfl, hY⟩
    obtain ⟨z1, z2, z3, -, -, -, -⟩ := right_parts hR
    have hq : Hid (ns.length = us.length) := z3.symm
    have hl : us.length ≤ 64 := by omega
    have hpos : 0 < us.length := by omega
    replace hR := Lib.hid hR
    clear hX z1 z2 z3
    go_wp2_with fail
    go_loopw [3, 4] (fun v i wr => ∃ k x : Nat, k ≤ us.length ∧ x < us.length ∧ i = .int .i64 k ∧ v = .int .i64 x ∧ Hid (∀ j, j < k → le us x j = true) ∧ Hid (At w wr w.heap.size A B c d ns us)) (fun _ i _ => us.length - (intOf i).toNat)
    case atStart => exact ⟨0, 0, Nat.zero_le _, hpos, rfl, rfl, fun j hj => by omega, hY⟩
    case round =>
      clear hY
      obtain ⟨k, x, hk, hx, rfl, rfl, hok, hY⟩ := hrel
      have q1 := hY.out.box.1
      have q2 := hY.out.box.2.1
      go_wp2_with fail
      clear q1 q2
      refine (rf_size hY.out hq.out).mono ?_
      rintro e w2 ⟨rfl, hZ⟩
      clear hY
      by_cases hlt : k < us.length
      · have q1 := hZ.out.box.1
        have q2 := hZ.out.box.2.1
        go_wp2_with fail
        clear q1 q2
        obtain ⟨m, hm, hmx, hm1, hm2⟩ := meet_lo h64.out hR.out hx hlt
        refine (rf_meet hZ.out hq.out hl x k hx hlt hm).mono ?_
        rintro e w3 ⟨rfl, hY⟩
        have hok2 : Hid (∀ j, j < k + 1 → le us m j = true) := below_next (fun j hj => (right_ord h64.out hR.out).trans _ _ _ hm1 (hok.out j hj)) hm2
        replace hm := Lib.hid hm
        replace hm1 := Lib.hid hm1
        replace hm2 := Lib.hid hm2
        clear hZ
        go_wp2_with fail
        go_roundw
        case rel => exact ⟨k + 1, m, by omega, hmx, by go_num, rfl, hok2, hY⟩
        case measure => simp [intOf]; omega
      · have hE9 : Hid (bottomI ns us = (x : Int)) := bottom_is h64.out hR.out fun c hc => hok.out c (by omega)
        go_wp2_with fail
        go_ret
        exact ⟨ret_int hE9.out.symm, hZ.out.below⟩

end Go.Proofs.YtlhfdedjboanfaaDoor.L
namespace Go.Proofs.YtlhfdedjboanfaaDoor
open Go.RowKit Go.Shelf Go.At
attribute [local go_sem] Oper.semAt_some

theorem step_append_held {P : Program} {ops : Array Oper} {o : Oper} {a : Act} {w : World} {K : Act → World → Prop} {Q : Exit → Act → World → Prop} {E : Prop}
    (hg : o.guard = none) (s x : Operand) (t : TypeId) (hop : o.op = Op.call { callee := Callee.builtin Builtin.append, args := #[s, x], argTypes := #[t, t] })
    (base : Nat) (e : TypeId) (i : TypeInfo) (z : Value) (size bytes : Nat) (h1 : P.underlying t = some (.slice e)) (h2 : P.info? e = some i) (h3 : i.zero = some z) (h4 : i.size = size) (h5 : i.bytes = bytes) (h6 : z.cells.size = size) (h7 : 0 < size)
    (v : Value) (n : Nat) (xs : List Value) (hs : a.eval s = v) (hown : w.ownsRow base e size v n xs)
    (ad : Addr) (m c : Nat) (news : List Value) (hx : a.eval x = .slice (some ad) m c) (hn : news.length = m * size) (hc : ∀ j u, news[j]? = some u → w.cell? (ad.add j) = some u) (h1c : ∀ u ∈ news, u.oneCell' = true)
    (b1 : n + m ≤ maxLen) (b2 : (n + m) * bytes ≤ 140737488355328) (hbase : base ≤ w.heap.size)
    (hK : ∀ v' w', w'.ownsRow base e size v' (n + m) (xs ++ news) → w.grownBy w' v.ownBlock → K (a.put o.dst v') w') :
    if Region.wanted o (yielded ops a.tmps) = true then Oper.wp P o a w K Q else E := by
  have hw : Region.wanted o (yielded ops a.tmps) = true := by simp [Region.wanted, hg]
  rw [if_pos hw]
  obtain ⟨v', w', hrun, r1, r2, _⟩ := run_append_own (P := P) w base t o.type e i z size bytes h1 h2 h3 h4 h5 h6 h7 v n xs hown ad m c news hn hc h1c b1 b2 hbase
  unfold Oper.wp
  simp [execOp, hop, resolve, invoke, builtin, hs, hx, hrun, Result.andThen]
  exact hK v' w' r1 r2
theorem infoRP : (Tryd.prog.info? 68).map (fun i => (i.zero, i.size, i.bytes)) = some (some (.agg #[.int .i64 0, .int .i64 0]), 2, 16) := by kernel_rfl
theorem infoRI : (Tryd.prog.info? 3).map (fun i => (i.zero, i.size, i.bytes)) = some (some (.int .i64 0), 1, 8) := by kernel_rfl
theorem news_pair (w : World) (x y : Int) (ty : TypeId) : ∀ j u, [Value.int .i64 x, .int .i64 y][j]? = some u → (w.alloc (.cells #[.int .i64 x, .int .i64 y] ty)).cell? ((⟨w.heap.size, 0, none⟩ : Addr).add j) = some u := by
  intro j u hj
  match j, hj with
  | 0, hj => cases hj; exact cell_of_row _ _ 0 _ _ _ (World.alloc_heap_new w _)
  | 1, hj => cases hj; exact cell_of_row _ _ 1 _ _ _ (World.alloc_heap_new w _)
  | j + 2, hj => simp at hj
theorem news_pair1 (x y : Int) : ∀ u ∈ [Value.int .i64 x, .int .i64 y], u.oneCell' = true := by
  intro u hu
  simp at hu
  rcases hu with rfl | rfl <;> rfl
theorem news_int (w : World) (x : Int) (ty : TypeId) : ∀ j u, [Value.int .i64 x][j]? = some u → (w.alloc (.cells #[.int .i64 x] ty)).cell? ((⟨w.heap.size, 0, none⟩ : Addr).add j) = some u := by
  intro j u hj
  match j, hj with
  | 0, hj => cases hj; exact cell_of_row _ _ 0 _ _ _ (World.alloc_heap_new w _)
  | j + 1, hj => simp at hj
theorem news_int1 (x : Int) : ∀ u ∈ [Value.int .i64 x], u.oneCell' = true := by
  intro u hu
  simp at hu
  rw [hu]; rfl

set_option maxRecDepth 100000 in
set_option maxHeartbeats 4000000 in
theorem refPairs_any (A : Option Addr) (l : List Pr) (c : Nat) (w : World) (hP : Prs w A l) (hl : l.length ≤ 1048576) :
    Calls Tryd.prog 11 #[.slice A l.length c] w fun e w' => (∃ A c, e = .returned (.slice A l.length c) ∧ Prs w' A l ∧ OkS A l.length c) ∧ Below w.heap.size w w' := by
  obtain ⟨i0, hi, hi2⟩ := Option.map_eq_some_iff.1 infoRP
  obtain ⟨hz0, hz1, hz2⟩ : i0.zero = some (.agg #[.int .i64 0, .int .i64 0]) ∧ i0.size = 2 ∧ i0.bytes = 16 := by
    injection hi2 with h1 h2; injection h2 with h2 h3; exact ⟨h1, h2, h3⟩
  replace hi := Lib.hid hi
  replace hz0 := Lib.hid hz0
  replace hz1 := Lib.hid hz1
  replace hz2 := Lib.hid hz2
  clear hi2
  obtain ⟨L, hL⟩ : ∃ L, Hid (l.length = L) := ⟨_, rfl⟩
  have hLl := hL.out
  rw [hLl] at hl ⊢
  clear hLl
  go_enter Tryd.func11, Tryd.ntmps11
  go_wp2_with fail
  go_loopw [3, 4] (fun v i wr => ∃ (k : Nat) (v' : Value), k ≤ L ∧ i = .int .i64 k ∧ v = v' ∧ Hid (wr.ownsRow w.heap.size 68 2 v' k (cellsP (l.take k))) ∧ Hid (Below w.heap.size w wr)) (fun _ i _ => L - (intOf i).toNat)
  case atStart => exact ⟨0, _, Nat.zero_le _, rfl, rfl, World.ownsRow_nil _ _ _ _, Below.refl _ _⟩
  case round =>
    obtain ⟨k, v', hk, rfl, rfl, hown, hB⟩ := hrel
    by_cases hlt : k < L
    · have hkl : k < l.length := by rw [hL.out]; exact hlt
      obtain ⟨b, off, rfl, hb, hc⟩ := (hP.later hB.out) (by intro e; subst e; simp at hkl)
      obtain ⟨c0, c1⟩ := hc k hkl
      clear hc
      have htk := take_snoc l (0, 0) k hkl
      generalize l.getD k (0, 0) = q at c0 c1 htk
      obtain ⟨x, y⟩ := q
      dsimp only at c0 c1
      have htn : Hid (cellsP (l.take (k + 1)) = cellsP (l.take k) ++ [.int .i64 x, .int .i64 y]) := by show _ = _; rw [htk, cellsP_append]; rfl
      clear htk
      have hbx := Lib.hid ((Below.refl wr.heap.size wr).drew.alloc (Nat.le_refl _) (.cells #[.int .i64 x, .int .i64 y] 68))
      have hown1 := Lib.hid (own_later hown.out hbx.out)
      have hbs := Lib.hid (Nat.le_trans hB.out.size hbx.out.size)
      clear hown
      go_wp2_with fail
      go_region_law (
        refine step_append_held rfl (.tmp 11) (.tmp 23) 32 rfl w.heap.size 68 i0 (.agg #[.int .i64 0, .int .i64 0]) 2 16 Tryd.underlying32 hi.out hz0.out hz1.out hz2.out rfl (by decide) _ _ _ (by simp [Act.eval]) hown1.out ⟨wr.heap.size, 0, none⟩ 1 1 [.int .i64 x, .int .i64 y] (by simp [Act.eval]) rfl (news_pair wr.drew x y _) (news_pair1 x y) (by unfold maxLen; omega) (by omega) hbs.out ?_
        intro v'' w3 hown' hgrow
        have hown2 : Hid (w3.ownsRow w.heap.size 68 2 v'' (k + 1) (cellsP (l.take (k + 1)))) := by
          show w3.ownsRow _ _ _ _ _ _
          rw [htn.out]
          exact hown'
        have hb3 : Hid (Below w.heap.size w w3) := (hB.out.trans (hbx.out.mono hB.out.size)).grown hgrow hbs.out (own_block hown1.out)
        clear hown' hgrow)
      all_goals
        clear hown1 hbx hbs c0 c1
        go_wp2_with fail
        go_roundw
        case rel => exact ⟨k + 1, v'', by omega, by go_num, rfl, hown2.out, hb3.out⟩
        case measure => simp [intOf]; omega
    · obtain rfl : k = L := by omega
      go_wp2_with fail
      go_ret
      have ho := hown.out
      rw [List.take_of_length_le (by rw [hL.out]; exact Nat.le_refl _), ← hL.out] at ho
      obtain ⟨A5, c5, e5, h5, -⟩ := prs_own ho
      rw [hL.out] at e5
      subst e5
      have hok := own_ok ho
      rw [hL.out] at hok
      exact ⟨⟨A5, c5, rfl, h5, hok⟩, hB.out⟩

theorem refPointOf_any (a : Int) (w : World) (ha : I64 a) : Calls Tryd.prog 70 #[.int .i64 a] w fun e w' => e = .returned (.int .i64 (pointOfT a)) ∧ w = w' := by
  obtain ⟨p1, p2⟩ := ha
  by_cases h : a < 0
  · have hd : decide (0 ≤ a) = false := decide_eq_false (by omega)
    have e : pointOfT a = -1 - a := if_pos h
    have hw : IntKind.i64.wrap (-1 - a) = -1 - a := wrap_i ⟨by omega, by omega⟩
    rw [e]
    go_enter Tryd.func70, Tryd.ntmps70
    go_wp2
    go_ret
    exact ⟨rfl, rfl⟩
  · have hd : decide (0 ≤ a) = true := decide_eq_true (by omega)
    have e : pointOfT a = -1 := if_neg h
    rw [e]
    go_enter Tryd.func70, Tryd.ntmps70
    go_wp2
    go_ret
    exact ⟨rfl, rfl⟩
end Go.Proofs.YtlhfdedjboanfaaDoor

namespace Go.At
variable {α : Type} {lt : α → α → Bool}
/-- what is all less stays ahead -/
theorem ins_ahead (h : Lin lt) (x d : α) : ∀ (l : List α) (k : Nat), (∀ j, j < k → j < l.length → lt (l.getD j d) x = true) → ins lt x l = l.take k ++ ins lt x (l.drop k)
  | _, 0, _ => rfl
  | [], k + 1, _ => by simp
  | y :: r, k + 1, hk => by
    have h0 : lt y x = true := by simpa using hk 0 (by omega) (by simp)
    have h1 : lt x y = false := h.anti h0
    show (if lt x y then _ else if lt y x then y :: ins lt x r else _) = _
    rw [h1, h0, if_neg (by simp), if_pos rfl, ins_ahead h x d r k fun j a b => by simpa using hk (j + 1) (by omega) (by simpa using b)]
    rfl
theorem ins_at (h : Lin lt) (x d : α) (l : List α) (k : Nat) (hk : k < l.length) (hl : ∀ j, j < k → j < l.length → lt (l.getD j d) x = true) (hn : lt (l.getD k d) x = false) :
    (lt x (l.getD k d) = true → ins lt x l = l.take k ++ [x] ++ l.drop k) ∧ (lt x (l.getD k d) = false → ins lt x l = l) := by
  have e : l.drop k = l.getD k d :: l.drop (k + 1) := by
    rw [List.drop_eq_getElem_cons hk, List.getD_eq_getElem?_getD, List.getElem?_eq_getElem hk]; rfl
  have e0 := ins_ahead h x d l k hl
  constructor
  · intro h1
    rw [e0, e]
    show l.take k ++ (if lt x (l.getD k d) then x :: l.getD k d :: l.drop (k + 1) else _) = _
    rw [h1, if_pos rfl, List.append_assoc]
    rfl
  · intro h1
    have e1 : ins lt x (l.getD k d :: l.drop (k + 1)) = l.getD k d :: l.drop (k + 1) := by
      show (if lt x (l.getD k d) then _ else if lt (l.getD k d) x then _ else _) = _
      rw [h1, hn]; rfl
    rw [e0, e, e1, ← e, List.take_append_drop]
theorem ins_end (h : Lin lt) (x d : α) (l : List α) (hl : ∀ j, j < l.length → lt (l.getD j d) x = true) : ins lt x l = l ++ [x] := by
  rw [ins_ahead h x d l l.length fun j _ hj => hl j hj, List.take_length, List.drop_length]; rfl
end Go.At
namespace Go.Proofs.YtlhfdedjboanfaaDoor
open Go.RowKit Go.Shelf Go.At
attribute [local go_sem] Oper.semAt_some

/-- an append to what is owned, of a row that may be nil, at a step of a region that draws its order -/
theorem step_append_sl {P : Program} {ops : Array Oper} {o : Oper} {a : Act} {w : World} {K : Act → World → Prop} {Q : Exit → Act → World → Prop} {E : Prop}
    (hg : o.guard = none) (s x : Operand) (t : TypeId) (hop : o.op = Op.call { callee := Callee.builtin Builtin.append, args := #[s, x], argTypes := #[t, t] })
    (base : Nat) (e : TypeId) (i : TypeInfo) (z : Value) (size bytes : Nat) (h1 : P.underlying t = some (.slice e)) (h2 : P.info? e = some i) (h3 : i.zero = some z) (h4 : i.size = size) (h5 : i.bytes = bytes) (h6 : z.cells.size = size) (h7 : 0 < size)
    (v : Value) (n : Nat) (xs : List Value) (hs : a.eval s = v) (hown : w.ownsRow base e size v n xs)
    (X : Option Addr) (m c : Nat) (news : List Value) (hx : a.eval x = .slice X m c) (hX : X = none → m = 0 ∧ c = 0) (hn : news.length = m * size) (hc : ∀ ad, X = some ad → ∀ j u, news[j]? = some u → w.cell? (ad.add j) = some u) (h1c : ∀ u ∈ news, u.oneCell' = true)
    (b1 : n + m ≤ maxLen) (b2 : (n + m) * bytes ≤ 140737488355328) (hbase : base ≤ w.heap.size)
    (hK : ∀ v' w', w'.ownsRow base e size v' (n + m) (xs ++ news) → (∀ B X0, Below B X0 w → B ≤ w.heap.size → (∀ k, v.ownBlock = some k → B ≤ k) → Below B X0 w') → K (a.put o.dst v') w') :
    if Region.wanted o (yielded ops a.tmps) = true then Oper.wp P o a w K Q else E := by
  cases X with
  | some ad =>
    exact step_append_held hg s x t hop base e i z size bytes h1 h2 h3 h4 h5 h6 h7 v n xs hs hown ad m c news hx hn (hc ad rfl) h1c b1 b2 hbase fun v' w' ho hgr => hK v' w' ho fun B X0 hB hs ho => hB.grown hgr hs ho
  | none =>
    obtain ⟨rfl, rfl⟩ := hX rfl
    obtain rfl : news = [] := List.eq_nil_of_length_eq_zero (by rw [hn, Nat.zero_mul])
    have hw : Region.wanted o (yielded ops a.tmps) = true := by simp [Region.wanted, hg]
    rw [if_pos hw]
    have hrun := run_append_owned_none (P := P) w base t o.type e i size h1 h2 v n xs hown
    unfold Oper.wp
    simp [execOp, hop, resolve, invoke, builtin, hs, hx, hrun, Result.andThen]
    exact hK v w (by rw [List.append_nil]; exact hown) fun B X0 hB _ _ => hB
theorem own_base {W : World} {base size n : Nat} {e : TypeId} {v : Value} {xs : List Value} (h : W.ownsRow base e size v n xs) (_hs : 0 < size) (hn : n ≠ 0) : base ≤ W.heap.size := by
  obtain ⟨g, cap, _, hb, hg, _⟩ := own_cells h hn
  omega
theorem ints_one (l : List Int) : ∀ u ∈ l.map (Value.int .i64), u.oneCell' = true := by
  intro u hu
  rw [List.mem_map] at hu
  obtain ⟨a, _, rfl⟩ := hu
  rfl
/-- the numbers at a place of a row, as an append reads them -/
theorem irow_news {W : World} {b off k : Nat} {l m : List Int} (h : IRow W b off l) (hm : ∀ j, j < m.length → k + j < l.length ∧ m.getD j 0 = l.getD (k + j) 0) :
    ∀ j u, (m.map (Value.int .i64))[j]? = some u → W.cell? ((⟨b, off + k, none⟩ : Addr).add j) = some u := fun j u hj => by
  rw [List.getElem?_map] at hj
  cases hc : m[j]? with
  | none => rw [hc] at hj; cases hj
  | some y =>
    rw [hc] at hj
    injection hj with hj
    obtain ⟨hlt, he⟩ := List.getElem?_eq_some_iff.1 hc
    obtain ⟨h1, h2⟩ := hm j hlt
    have h3 := h (k + j) h1
    rw [← h2, List.getD_eq_getElem?_getD, hc] at h3
    rw [Addr.add_lit, Nat.add_assoc, ← hj]
    exact h3
theorem take_at (l : List Int) (k : Nat) : ∀ j, j < (l.take k).length → 0 + j < l.length ∧ (l.take k).getD j 0 = l.getD (0 + j) 0 := fun j hj => by
  rw [List.length_take] at hj
  rw [Nat.zero_add]
  exact ⟨by omega, by rw [List.getD_eq_getElem?_getD, List.getD_eq_getElem?_getD, List.getElem?_take, if_pos (by omega)]⟩
theorem drop_at (l : List Int) (k : Nat) : ∀ j, j < (l.drop k).length → k + j < l.length ∧ (l.drop k).getD j 0 = l.getD (k + j) 0 := fun j hj => by
  rw [List.length_drop] at hj
  exact ⟨by omega, by rw [List.getD_eq_getElem?_getD, List.getD_eq_getElem?_getD, List.getElem?_drop]⟩

set_option maxRecDepth 100000 in
set_option maxHeartbeats 4000000 in
theorem add_any (A : Option Addr) (l : List Int) (c : Nat) (x : Int) (w : World) (hP : Nms w A l) (hok : OkS A l.length c) (hz : l = [] → A = none ∧ c = 0) (hl : l.length ≤ 4194304) :
    Calls Tryd.prog 59 #[.slice A l.length c, .int .i64 x] w fun e w' => (∃ A c, e = .returned (.slice A (ins ltI x l).length c) ∧ Nms w' A (ins ltI x l) ∧ OkS A (ins ltI x l).length c) ∧ Below w.heap.size w w' := by
  obtain ⟨i0, hi, hi2⟩ := Option.map_eq_some_iff.1 infoRI
  obtain ⟨hz0, hz1, hz2⟩ : i0.zero = some (.int .i64 0) ∧ i0.size = 1 ∧ i0.bytes = 8 := by
    injection hi2 with h1 h2; injection h2 with h2 h3; exact ⟨h1, h2, h3⟩
  replace hi := Lib.hid hi
  replace hz0 := Lib.hid hz0
  replace hz1 := Lib.hid hz1
  replace hz2 := Lib.hid hz2
  clear hi2
  obtain ⟨o1, o2, o3⟩ := hok
  obtain ⟨L, hL⟩ : ∃ L, Hid (l.length = L) := ⟨_, rfl⟩
  have hLl := hL.out
  rw [hLl] at hl o1 ⊢
  clear hLl
  have hmx : maxLen = 9223372036854775807 := rfl
  rw [hmx] at o2
  clear hmx
  obtain ⟨r, hr⟩ : ∃ r, ins ltI x l = r := ⟨_, rfl⟩
  rw [hr]
  replace hr := Lib.hid hr
  replace hz := Lib.hid hz
  replace o3 := Lib.hid o3
  go_enter Tryd.func59, Tryd.ntmps59
  go_wp2_with fail
  go_loopw [5] (fun i wr => ∃ k : Nat, k ≤ L ∧ i = .int .i64 k ∧ Hid (∀ j, j < k → j < l.length → ltI (l.getD j 0) x = true) ∧ Hid (wr = w)) (fun i _ => L - (intOf i).toNat)
  case atStart => exact ⟨0, Nat.zero_le _, rfl, fun j hj => absurd hj (Nat.not_lt_zero j), by first | rfl | trivial⟩
  case round =>
    obtain ⟨k, hk, rfl, hno, hB⟩ := hrel
    obtain rfl : wr = w := hB.out
    clear hB
    by_cases hlt : k < L
    · have hkl : k < l.length := by rw [hL.out]; exact hlt
      obtain ⟨b, off, rfl, hb, hc⟩ := hP (by intro e; subst e; simp at hkl)
      have c0 := hc k hkl
      have hins := Lib.hid (ins_at linI x 0 l k hkl hno.out)
      have hnx : Hid (ltI (l.getD k 0) x = true → ∀ j, j < k + 1 → j < l.length → ltI (l.getD j 0) x = true) := fun h j hj hl => by
        by_cases e : j = k
        · rw [e]; exact h
        · exact hno.out j (by omega) hl
      generalize l.getD k 0 = y at c0 hins hnx
      by_cases h1 : y < x
      · have hd : decide (y < x) = true := decide_eq_true h1
        have hnx2 := Lib.hid (hnx.out hd)
        clear hins hnx hc
        go_wp2_with fail
        go_roundw
        case rel => exact ⟨k + 1, by omega, by go_num, hnx2.out, by first | rfl | trivial⟩
        case measure => simp [intOf]; omega
      · have hd : decide (y < x) = false := decide_eq_false h1
        by_cases h2 : y = x
        · subst h2
          have e := (hins.out hd).2 hd
          rw [hr.out] at e
          subst e
          clear hins hnx hc hd
          go_wp2_with fail
          go_ret
          exact ⟨⟨some ⟨b, off, none⟩, c, by rw [hL.out]; rfl, hP, by rw [hL.out]; exact ⟨o1, o2, o3.out⟩⟩, Below.refl _ _⟩
        · have hd2 : decide (y = x) = false := decide_eq_false h2
          have hd3 : (y == x) = false := beq_eq_false_iff_ne.2 h2
          have e := (hins.out hd).1 (decide_eq_true (by omega))
          rw [hr.out] at e
          replace e := Lib.hid e
          clear hins hnx
          have hkc : k ≤ c := by omega
          have hkc2 : (k : Int) ≤ (c : Int) := by omega
          have hkL : (k : Int) ≤ (L : Int) := by omega
          have hck : ¬ c = k := by omega
          have hrow1 : Hid (∀ W, Below wr.heap.size wr W → ∀ ad : Addr, some (⟨b, off, none⟩ : Addr) = some ad → ∀ j u, ((l.take k).map (Value.int .i64))[j]? = some u → W.cell? (ad.add j) = some u) := fun W hW ad had => by
            injection had with had
            subst had
            exact irow_news (k := 0) (hc.block (hW.block b hb)) (take_at l k)
          have hrow2 : Hid (∀ W, Below wr.heap.size wr W → ∀ ad : Addr, some (⟨b, off + k, none⟩ : Addr) = some ad → ∀ j u, ((l.drop k).map (Value.int .i64))[j]? = some u → W.cell? (ad.add j) = some u) := fun W hW ad had => by
            injection had with had
            subst had
            exact irow_news (k := k) (hc.block (hW.block b hb)) (drop_at l k)
          have hlt1 : ((l.take k).map (Value.int .i64)).length = k * 1 := by rw [List.length_map, List.length_take, hL.out, Nat.mul_one]; omega
          have hlt2 : ((l.drop k).map (Value.int .i64)).length = (L - k) * 1 := by rw [List.length_map, List.length_drop, hL.out, Nat.mul_one]
          have hbA : Hid (Below wr.heap.size wr wr.drew) := (Below.refl _ _).drew
          have hbB : Hid (Below wr.heap.size wr (wr.drew.alloc (.cells #[.int .i64 x] 3))) := (Below.refl wr.heap.size wr).drew.alloc (Nat.le_refl _) _
          have hsB : Hid (wr.heap.size + 1 ≤ (wr.drew.alloc (.cells #[.int .i64 x] 3)).heap.size) := by show _ ≤ _; rw [World.size_alloc]; exact Nat.le_refl _
          have hxB : Hid (∀ W, Below (wr.heap.size + 1) (wr.drew.alloc (.cells #[.int .i64 x] 3)) W → ∀ j u, [Value.int .i64 x][j]? = some u → W.cell? ((⟨wr.heap.size, 0, none⟩ : Addr).add j) = some u) := fun W hW j u hj => (hW.cell (p := (⟨wr.heap.size, 0, none⟩ : Addr).add j) (by rw [Addr.add_lit]; show wr.heap.size < wr.heap.size + 1; omega)).trans (news_int wr.drew x _ j u hj)
          go_wp2_with fail
          go_region_law (first
            | (refine step_append_sl rfl (.const (.slice none 0 0)) (.tmp 35) 74 rfl wr.heap.size 3 i0 (.int .i64 0) 1 8 Tryd.underlying74 hi.out hz0.out hz1.out hz2.out rfl (by decide) (.slice none 0 0) 0 [] (by go_simp) (World.ownsRow_nil _ _ _ _) (some ⟨b, off, none⟩) k c ((l.take k).map (Value.int .i64)) (by go_simp) (fun h => by cases h) hlt1 (hrow1.out _ hbA.out) (ints_one _) (by unfold maxLen; omega) (by omega) hbA.out.size ?_
               intro v1 w1 hown1 hg1
               have hb1 : Hid (Below wr.heap.size wr w1) := hg1 _ _ hbA.out hbA.out.size (fun _ h => by cases h)
               replace hown1 := Lib.hid hown1
               have hown1a := Lib.hid (own_later hown1.out (later_alloc w1 (.cells #[.int .i64 x] 3)))
               have hb1a : Hid (Below wr.heap.size wr (w1.alloc (.cells #[.int .i64 x] 3))) := hb1.out.alloc hb1.out.size _
               have hx1a : Hid (∀ j u, [Value.int .i64 x][j]? = some u → (w1.alloc (.cells #[.int .i64 x] 3)).cell? ((⟨w1.heap.size, 0, none⟩ : Addr).add j) = some u) := news_int w1 x _
               clear hg1)
            | (refine step_append_sl rfl (.const (.slice none 0 0)) (.tmp 35) 74 rfl (wr.heap.size + 1) 3 i0 (.int .i64 0) 1 8 Tryd.underlying74 hi.out hz0.out hz1.out hz2.out rfl (by decide) (.slice none 0 0) 0 [] (by go_simp) (World.ownsRow_nil _ _ _ _) (some ⟨b, off, none⟩) k c ((l.take k).map (Value.int .i64)) (by go_simp) (fun h => by cases h) hlt1 (hrow1.out _ hbB.out) (ints_one _) (by unfold maxLen; omega) (by omega) hsB.out ?_
               intro v1 w1 hown1 hg1
               have hb1 : Hid (Below wr.heap.size wr w1) := hg1 _ _ hbB.out hbB.out.size (fun _ h => by cases h)
               have hx1 : Hid (∀ j u, [Value.int .i64 x][j]? = some u → w1.cell? ((⟨wr.heap.size, 0, none⟩ : Addr).add j) = some u) := hxB.out w1 (hg1 (wr.heap.size + 1) (wr.drew.alloc (.cells #[.int .i64 x] 3)) (Below.refl _ _) hsB.out (fun _ h => by cases h))
               replace hown1 := Lib.hid hown1
               clear hg1)
            | (refine step_append_sl rfl (.tmp 36) (.tmp 38) 74 rfl (wr.heap.size + 1) 3 i0 (.int .i64 0) 1 8 Tryd.underlying74 hi.out hz0.out hz1.out hz2.out rfl (by decide) v1 (0 + k) ([] ++ ((l.take k).map (Value.int .i64))) (by go_simp) hown1.out (some ⟨wr.heap.size, 0, none⟩) 1 1 [Value.int .i64 x] (by go_simp) (fun h => by cases h) rfl (fun ad h => by injection h with h; subst h; exact hx1.out) (news_int1 x) (by unfold maxLen; omega) (by omega) (show wr.heap.size + 1 ≤ w1.heap.size from World.block_lt_of_cell? _ _ (hx1.out 0 _ rfl)) ?_
               intro v2 w2 hown2 hg2
               have hb2 : Hid (Below wr.heap.size wr w2) := hg2 _ _ hb1.out hb1.out.size (fun k h => Nat.le_of_succ_le (own_block hown1.out k h))
               replace hown2 := Lib.hid hown2
               clear hg2)
            | (refine step_append_sl rfl (.tmp 36) (.tmp 38) 74 rfl wr.heap.size 3 i0 (.int .i64 0) 1 8 Tryd.underlying74 hi.out hz0.out hz1.out hz2.out rfl (by decide) v1 (0 + k) ([] ++ ((l.take k).map (Value.int .i64))) (by go_simp) hown1a.out (some ⟨w1.heap.size, 0, none⟩) 1 1 [Value.int .i64 x] (by go_simp) (fun h => by cases h) rfl (fun ad h => by injection h with h; subst h; exact hx1a.out) (news_int1 x) (by unfold maxLen; omega) (by omega) hb1a.out.size ?_
               intro v2 w2 hown2 hg2
               have hb2 : Hid (Below wr.heap.size wr w2) := hg2 _ _ hb1a.out hb1a.out.size (own_block hown1a.out)
               replace hown2 := Lib.hid hown2
               clear hg2)
            | (refine step_append_sl rfl (.tmp 39) (.tmp 42) 74 rfl _ 3 i0 (.int .i64 0) 1 8 Tryd.underlying74 hi.out hz0.out hz1.out hz2.out rfl (by decide) v2 (0 + k + 1) ([] ++ ((l.take k).map (Value.int .i64)) ++ [Value.int .i64 x]) (by go_simp) hown2.out (some ⟨b, off + k, none⟩) (L - k) (c - k) ((l.drop k).map (Value.int .i64)) (by go_simp) (fun h => by cases h) hlt2 (hrow2.out _ hb2.out) (ints_one _) (by unfold maxLen; omega) (by omega) (own_base hown2.out (by decide) (by omega)) ?_
               intro v3 w3 hown3 hg3
               have hb3 : Hid (Below wr.heap.size wr w3) := hg3 _ _ hb2.out hb2.out.size (fun k h => by have := own_block hown2.out k h; omega)
               replace hown3 := Lib.hid hown3
               clear hg3))
          all_goals
            have h9 := hown3.out
            have e9 : [] ++ (l.take k).map (Value.int .i64) ++ [.int .i64 x] ++ (l.drop k).map (Value.int .i64) = r.map (Value.int .i64) := by rw [e.out]; simp
            have n9 : 0 + k + 1 + (L - k) = r.length := by rw [e.out]; have := hL.out; simp; omega
            rw [e9, n9] at h9
            obtain ⟨A5, c5, e5, h5, -⟩ := nms_own h9
            subst e5
            have hok5 := own_ok h9
            clear hown3 h9
            go_wp2_with fail
            all_goals
              go_ret
              exact ⟨⟨A5, c5, rfl, h5, hok5⟩, hb3.out⟩
    · obtain rfl : k = L := by omega
      have e : Hid (r = l.take k ++ [x] ++ l.drop k) := by
        show _ = _
        rw [← hr.out, ins_end linI x 0 l fun j hj => hno.out j (by rw [← hL.out]; exact hj) hj, List.take_of_length_le (by rw [hL.out]; exact Nat.le_refl _), List.drop_eq_nil_of_le (by rw [hL.out]; exact Nat.le_refl _), List.append_nil]
      by_cases hl0 : l = []
      · obtain ⟨rfl, rfl⟩ := hz.out hl0
        have hk0 : k = 0 := by rw [← hL.out, hl0]; rfl
        subst hk0
        have hrow1 : Hid (∀ W, Below wr.heap.size wr W → ∀ ad : Addr, none = some ad → ∀ j u, ((l.take 0).map (Value.int .i64))[j]? = some u → W.cell? (ad.add j) = some u) := fun W hW ad had => by cases had
        have hrow2 : Hid (∀ W, Below wr.heap.size wr W → ∀ ad : Addr, none = some ad → ∀ j u, ((l.drop 0).map (Value.int .i64))[j]? = some u → W.cell? (ad.add j) = some u) := fun W hW ad had => by cases had
        have hlt1 : ((l.take 0).map (Value.int .i64)).length = 0 * 1 := by rw [hl0]; rfl
        have hlt2 : ((l.drop 0).map (Value.int .i64)).length = 0 * 1 := by rw [hl0]; rfl
        have hbA : Hid (Below wr.heap.size wr wr.drew) := (Below.refl _ _).drew
        have hbB : Hid (Below wr.heap.size wr (wr.drew.alloc (.cells #[.int .i64 x] 3))) := (Below.refl wr.heap.size wr).drew.alloc (Nat.le_refl _) _
        have hsB : Hid (wr.heap.size + 1 ≤ (wr.drew.alloc (.cells #[.int .i64 x] 3)).heap.size) := by show _ ≤ _; rw [World.size_alloc]; exact Nat.le_refl _
        have hxB : Hid (∀ W, Below (wr.heap.size + 1) (wr.drew.alloc (.cells #[.int .i64 x] 3)) W → ∀ j u, [Value.int .i64 x][j]? = some u → W.cell? ((⟨wr.heap.size, 0, none⟩ : Addr).add j) = some u) := fun W hW j u hj => (hW.cell (p := (⟨wr.heap.size, 0, none⟩ : Addr).add j) (by rw [Addr.add_lit]; show wr.heap.size < wr.heap.size + 1; omega)).trans (news_int wr.drew x _ j u hj)
        go_wp2_with fail
        go_region_law (first
          | (refine step_append_sl rfl (.const (.slice none 0 0)) (.tmp 35) 74 rfl wr.heap.size 3 i0 (.int .i64 0) 1 8 Tryd.underlying74 hi.out hz0.out hz1.out hz2.out rfl (by decide) (.slice none 0 0) 0 [] (by go_simp) (World.ownsRow_nil _ _ _ _) none 0 0 ((l.take 0).map (Value.int .i64)) (by go_simp) (fun _ => ⟨rfl, rfl⟩) hlt1 (hrow1.out _ hbA.out) (ints_one _) (by unfold maxLen; omega) (by omega) hbA.out.size ?_
             intro v1 w1 hown1 hg1
             have hb1 : Hid (Below wr.heap.size wr w1) := hg1 _ _ hbA.out hbA.out.size (fun _ h => by cases h)
             replace hown1 := Lib.hid hown1
             have hown1a := Lib.hid (own_later hown1.out (later_alloc w1 (.cells #[.int .i64 x] 3)))
             have hb1a : Hid (Below wr.heap.size wr (w1.alloc (.cells #[.int .i64 x] 3))) := hb1.out.alloc hb1.out.size _
             have hx1a : Hid (∀ j u, [Value.int .i64 x][j]? = some u → (w1.alloc (.cells #[.int .i64 x] 3)).cell? ((⟨w1.heap.size, 0, none⟩ : Addr).add j) = some u) := news_int w1 x _
             clear hg1)
          | (refine step_append_sl rfl (.const (.slice none 0 0)) (.tmp 35) 74 rfl (wr.heap.size + 1) 3 i0 (.int .i64 0) 1 8 Tryd.underlying74 hi.out hz0.out hz1.out hz2.out rfl (by decide) (.slice none 0 0) 0 [] (by go_simp) (World.ownsRow_nil _ _ _ _) none 0 0 ((l.take 0).map (Value.int .i64)) (by go_simp) (fun _ => ⟨rfl, rfl⟩) hlt1 (hrow1.out _ hbB.out) (ints_one _) (by unfold maxLen; omega) (by omega) hsB.out ?_
             intro v1 w1 hown1 hg1
             have hb1 : Hid (Below wr.heap.size wr w1) := hg1 _ _ hbB.out hbB.out.size (fun _ h => by cases h)
             have hx1 : Hid (∀ j u, [Value.int .i64 x][j]? = some u → w1.cell? ((⟨wr.heap.size, 0, none⟩ : Addr).add j) = some u) := hxB.out w1 (hg1 (wr.heap.size + 1) (wr.drew.alloc (.cells #[.int .i64 x] 3)) (Below.refl _ _) hsB.out (fun _ h => by cases h))
             replace hown1 := Lib.hid hown1
             clear hg1)
          | (refine step_append_sl rfl (.tmp 36) (.tmp 38) 74 rfl (wr.heap.size + 1) 3 i0 (.int .i64 0) 1 8 Tryd.underlying74 hi.out hz0.out hz1.out hz2.out rfl (by decide) v1 (0 + 0) ([] ++ ((l.take 0).map (Value.int .i64))) (by go_simp) hown1.out (some ⟨wr.heap.size, 0, none⟩) 1 1 [Value.int .i64 x] (by go_simp) (fun h => by cases h) rfl (fun ad h => by injection h with h; subst h; exact hx1.out) (news_int1 x) (by unfold maxLen; omega) (by omega) (show wr.heap.size + 1 ≤ w1.heap.size from World.block_lt_of_cell? _ _ (hx1.out 0 _ rfl)) ?_
             intro v2 w2 hown2 hg2
             have hb2 : Hid (Below wr.heap.size wr w2) := hg2 _ _ hb1.out hb1.out.size (fun k h => Nat.le_of_succ_le (own_block hown1.out k h))
             replace hown2 := Lib.hid hown2
             clear hg2)
          | (refine step_append_sl rfl (.tmp 36) (.tmp 38) 74 rfl wr.heap.size 3 i0 (.int .i64 0) 1 8 Tryd.underlying74 hi.out hz0.out hz1.out hz2.out rfl (by decide) v1 (0 + 0) ([] ++ ((l.take 0).map (Value.int .i64))) (by go_simp) hown1a.out (some ⟨w1.heap.size, 0, none⟩) 1 1 [Value.int .i64 x] (by go_simp) (fun h => by cases h) rfl (fun ad h => by injection h with h; subst h; exact hx1a.out) (news_int1 x) (by unfold maxLen; omega) (by omega) hb1a.out.size ?_
             intro v2 w2 hown2 hg2
             have hb2 : Hid (Below wr.heap.size wr w2) := hg2 _ _ hb1a.out hb1a.out.size (own_block hown1a.out)
             replace hown2 := Lib.hid hown2
             clear hg2)
          | (refine step_append_sl rfl (.tmp 39) (.tmp 42) 74 rfl _ 3 i0 (.int .i64 0) 1 8 Tryd.underlying74 hi.out hz0.out hz1.out hz2.out rfl (by decide) v2 (0 + 0 + 1) ([] ++ ((l.take 0).map (Value.int .i64)) ++ [Value.int .i64 x]) (by go_simp) hown2.out none 0 0 ((l.drop 0).map (Value.int .i64)) (by go_simp) (fun _ => ⟨rfl, rfl⟩) hlt2 (hrow2.out _ hb2.out) (ints_one _) (by unfold maxLen; omega) (by omega) (own_base hown2.out (by decide) (by omega)) ?_
             intro v3 w3 hown3 hg3
             have hb3 : Hid (Below wr.heap.size wr w3) := hg3 _ _ hb2.out hb2.out.size (fun k h => by have := own_block hown2.out k h; omega)
             replace hown3 := Lib.hid hown3
             clear hg3))
        all_goals
          have h9 := hown3.out
          have e9 : [] ++ (l.take 0).map (Value.int .i64) ++ [.int .i64 x] ++ (l.drop 0).map (Value.int .i64) = r.map (Value.int .i64) := by rw [e.out]; simp
          have n9 : 0 + 0 + 1 + 0 = r.length := by rw [e.out]; have := hL.out; simp; omega
          rw [e9, n9] at h9
          obtain ⟨A5, c5, e5, h5, -⟩ := nms_own h9
          subst e5
          have hok5 := own_ok h9
          clear hown3 h9
          go_wp2_with fail
          all_goals
            go_ret
            exact ⟨⟨A5, c5, rfl, h5, hok5⟩, hb3.out⟩
      · obtain ⟨b, off, rfl, hb, hc⟩ := hP hl0
        have hkc0 : 0 < k := by rw [← hL.out]; exact List.length_pos_iff.2 hl0
        have hkc : k ≤ c := by omega
        have hkc2 : (k : Int) ≤ (c : Int) := by omega
        have hrow1 : Hid (∀ W, Below wr.heap.size wr W → ∀ ad : Addr, some (⟨b, off, none⟩ : Addr) = some ad → ∀ j u, ((l.take k).map (Value.int .i64))[j]? = some u → W.cell? (ad.add j) = some u) := fun W hW ad had => by
          injection had with had
          subst had
          exact irow_news (k := 0) (hc.block (hW.block b hb)) (take_at l k)
        have hrow2 : Hid (∀ W, Below wr.heap.size wr W → ∀ ad : Addr, (if c = k then some (⟨b, off, none⟩ : Addr) else some ⟨b, off + k, none⟩) = some ad → ∀ j u, ([] : List Value)[j]? = some u → W.cell? (ad.add j) = some u) := fun W hW ad had j u hj => by simp at hj
        have hlt1 : ((l.take k).map (Value.int .i64)).length = k * 1 := by rw [List.length_map, List.length_take, hL.out, Nat.mul_one]; omega
        have hlt2 : ([] : List Value).length = 0 * 1 := rfl
        have hbA : Hid (Below wr.heap.size wr wr.drew) := (Below.refl _ _).drew
        have hbB : Hid (Below wr.heap.size wr (wr.drew.alloc (.cells #[.int .i64 x] 3))) := (Below.refl wr.heap.size wr).drew.alloc (Nat.le_refl _) _
        have hsB : Hid (wr.heap.size + 1 ≤ (wr.drew.alloc (.cells #[.int .i64 x] 3)).heap.size) := by show _ ≤ _; rw [World.size_alloc]; exact Nat.le_refl _
        have hxB : Hid (∀ W, Below (wr.heap.size + 1) (wr.drew.alloc (.cells #[.int .i64 x] 3)) W → ∀ j u, [Value.int .i64 x][j]? = some u → W.cell? ((⟨wr.heap.size, 0, none⟩ : Addr).add j) = some u) := fun W hW j u hj => (hW.cell (p := (⟨wr.heap.size, 0, none⟩ : Addr).add j) (by rw [Addr.add_lit]; show wr.heap.size < wr.heap.size + 1; omega)).trans (news_int wr.drew x _ j u hj)
        go_wp2_with fail
        go_region_law (first
          | (refine step_append_sl rfl (.const (.slice none 0 0)) (.tmp 35) 74 rfl wr.heap.size 3 i0 (.int .i64 0) 1 8 Tryd.underlying74 hi.out hz0.out hz1.out hz2.out rfl (by decide) (.slice none 0 0) 0 [] (by go_simp) (World.ownsRow_nil _ _ _ _) (some ⟨b, off, none⟩) k c ((l.take k).map (Value.int .i64)) (by go_simp) (fun h => by cases h) hlt1 (hrow1.out _ hbA.out) (ints_one _) (by unfold maxLen; omega) (by omega) hbA.out.size ?_
             intro v1 w1 hown1 hg1
             have hb1 : Hid (Below wr.heap.size wr w1) := hg1 _ _ hbA.out hbA.out.size (fun _ h => by cases h)
             replace hown1 := Lib.hid hown1
             have hown1a := Lib.hid (own_later hown1.out (later_alloc w1 (.cells #[.int .i64 x] 3)))
             have hb1a : Hid (Below wr.heap.size wr (w1.alloc (.cells #[.int .i64 x] 3))) := hb1.out.alloc hb1.out.size _
             have hx1a : Hid (∀ j u, [Value.int .i64 x][j]? = some u → (w1.alloc (.cells #[.int .i64 x] 3)).cell? ((⟨w1.heap.size, 0, none⟩ : Addr).add j) = some u) := news_int w1 x _
             clear hg1)
          | (refine step_append_sl rfl (.const (.slice none 0 0)) (.tmp 35) 74 rfl (wr.heap.size + 1) 3 i0 (.int .i64 0) 1 8 Tryd.underlying74 hi.out hz0.out hz1.out hz2.out rfl (by decide) (.slice none 0 0) 0 [] (by go_simp) (World.ownsRow_nil _ _ _ _) (some ⟨b, off, none⟩) k c ((l.take k).map (Value.int .i64)) (by go_simp) (fun h => by cases h) hlt1 (hrow1.out _ hbB.out) (ints_one _) (by unfold maxLen; omega) (by omega) hsB.out ?_
             intro v1 w1 hown1 hg1
             have hb1 : Hid (Below wr.heap.size wr w1) := hg1 _ _ hbB.out hbB.out.size (fun _ h => by cases h)
             have hx1 : Hid (∀ j u, [Value.int .i64 x][j]? = some u → w1.cell? ((⟨wr.heap.size, 0, none⟩ : Addr).add j) = some u) := hxB.out w1 (hg1 (wr.heap.size + 1) (wr.drew.alloc (.cells #[.int .i64 x] 3)) (Below.refl _ _) hsB.out (fun _ h => by cases h))
             replace hown1 := Lib.hid hown1
             clear hg1)
          | (refine step_append_sl rfl (.tmp 36) (.tmp 38) 74 rfl (wr.heap.size + 1) 3 i0 (.int .i64 0) 1 8 Tryd.underlying74 hi.out hz0.out hz1.out hz2.out rfl (by decide) v1 (0 + k) ([] ++ ((l.take k).map (Value.int .i64))) (by go_simp) hown1.out (some ⟨wr.heap.size, 0, none⟩) 1 1 [Value.int .i64 x] (by go_simp) (fun h => by cases h) rfl (fun ad h => by injection h with h; subst h; exact hx1.out) (news_int1 x) (by unfold maxLen; omega) (by omega) (show wr.heap.size + 1 ≤ w1.heap.size from World.block_lt_of_cell? _ _ (hx1.out 0 _ rfl)) ?_
             intro v2 w2 hown2 hg2
             have hb2 : Hid (Below wr.heap.size wr w2) := hg2 _ _ hb1.out hb1.out.size (fun k h => Nat.le_of_succ_le (own_block hown1.out k h))
             replace hown2 := Lib.hid hown2
             clear hg2)
          | (refine step_append_sl rfl (.tmp 36) (.tmp 38) 74 rfl wr.heap.size 3 i0 (.int .i64 0) 1 8 Tryd.underlying74 hi.out hz0.out hz1.out hz2.out rfl (by decide) v1 (0 + k) ([] ++ ((l.take k).map (Value.int .i64))) (by go_simp) hown1a.out (some ⟨w1.heap.size, 0, none⟩) 1 1 [Value.int .i64 x] (by go_simp) (fun h => by cases h) rfl (fun ad h => by injection h with h; subst h; exact hx1a.out) (news_int1 x) (by unfold maxLen; omega) (by omega) hb1a.out.size ?_
             intro v2 w2 hown2 hg2
             have hb2 : Hid (Below wr.heap.size wr w2) := hg2 _ _ hb1a.out hb1a.out.size (own_block hown1a.out)
             replace hown2 := Lib.hid hown2
             clear hg2)
          | (refine step_append_sl rfl (.tmp 39) (.tmp 42) 74 rfl _ 3 i0 (.int .i64 0) 1 8 Tryd.underlying74 hi.out hz0.out hz1.out hz2.out rfl (by decide) v2 (0 + k + 1) ([] ++ ((l.take k).map (Value.int .i64)) ++ [Value.int .i64 x]) (by go_simp) hown2.out (if c = k then some ⟨b, off, none⟩ else some ⟨b, off + k, none⟩) 0 (c - k) ([] : List Value) (by go_simp) (fun h => by split at h <;> cases h) hlt2 (hrow2.out _ hb2.out) (fun u h => by cases h) (by unfold maxLen; omega) (by omega) (own_base hown2.out (by decide) (by omega)) ?_
             intro v3 w3 hown3 hg3
             have hb3 : Hid (Below wr.heap.size wr w3) := hg3 _ _ hb2.out hb2.out.size (fun k h => by have := own_block hown2.out k h; omega)
             replace hown3 := Lib.hid hown3
             clear hg3))
        all_goals
          have h9 := hown3.out
          have e9 : [] ++ (l.take k).map (Value.int .i64) ++ [.int .i64 x] ++ ([] : List Value) = r.map (Value.int .i64) := by rw [e.out, List.drop_eq_nil_of_le (by rw [hL.out]; exact Nat.le_refl _)]; simp
          have n9 : 0 + k + 1 + 0 = r.length := by rw [e.out]; have := hL.out; simp; omega
          rw [e9, n9] at h9
          obtain ⟨A5, c5, e5, h5, -⟩ := nms_own h9
          subst e5
          have hok5 := own_ok h9
          clear hown3 h9
          go_wp2_with fail
          all_goals
            go_ret
            exact ⟨⟨A5, c5, rfl, h5, hok5⟩, hb3.out⟩
end Go.Proofs.YtlhfdedjboanfaaDoor

namespace Go.At
theorem ins_ne {α : Type} {lt : α → α → Bool} (x : α) : ∀ l : List α, ins lt x l ≠ []
  | [] => by simp [ins]
  | y :: r => by
    unfold ins
    split
    · simp
    · split <;> simp
theorem pickV_yes {a : Int} (h : 0 ≤ a) : pickV a = [a] := by
  have e : isV a = true := by unfold isV; rw [decide_eq_false (by omega)]; rfl
  unfold pickV; rw [e]; rfl
theorem pickV_no {a : Int} (h : ¬ 0 ≤ a) : pickV a = [] := by
  have e : isV a = false := by unfold isV; rw [decide_eq_true (by omega)]; rfl
  unfold pickV; rw [e]; rfl
theorem pickP_yes {a : Int} (h : a < 0) : pickP a = [-1 - a] := by
  have e : isP a = true := decide_eq_true h
  unfold pickP; rw [e]; rfl
theorem pickP_no {a : Int} (h : ¬ a < 0) : pickP a = [] := by
  have e : isP a = false := decide_eq_false h
  unfold pickP; rw [e]; rfl
theorem ord_app {α : Type} {lt : α → α → Bool} (l m : List α) : ordL lt (l ++ m) = m.foldl (fun o x => ins lt x o) (ordL lt l) := by simp [ordL]
/-- one more picked -/
def addL (f : Int → List Int) (a : Int) (m : List Int) : List Int := (f a).foldl (fun o x => ins ltI x o) m
theorem add_step (f : Int → List Int) (l : List Pr) (k : Nat) (x y : Int) (h : l.take (k + 1) = l.take k ++ [(x, y)]) :
    ordL ltI ((atomsL (l.take (k + 1))).flatMap f) = addL f y (addL f x (ordL ltI ((atomsL (l.take k)).flatMap f))) := by
  rw [h, atoms_snoc, List.flatMap_append, ord_app]
  simp [addL]
end Go.At
namespace Go.Proofs.YtlhfdedjboanfaaDoor
open Go.RowKit Go.Shelf Go.At
attribute [local go_sem] Oper.semAt_some

set_option maxRecDepth 100000 in
set_option maxHeartbeats 1000000 in
theorem refVars_any (A : Option Addr) (l : List Pr) (c : Nat) (w : World) (hP : Prs w A l) (h6 : ∀ p ∈ l, I64 p.1 ∧ I64 p.2) (hl : l.length ≤ 1048576) :
    Calls Tryd.prog 34 #[.slice A l.length c] w fun e w' => (∃ A c, e = .returned (.slice A (varsL l).length c) ∧ Nms w' A (varsL l)) ∧ Below w.heap.size w w' := by
  obtain ⟨L, hL⟩ : ∃ L, Hid (l.length = L) := ⟨_, rfl⟩
  have hLl := hL.out
  rw [hLl] at hl ⊢
  clear hLl
  replace h6 := Lib.hid h6
  go_enter Tryd.func34, Tryd.ntmps34
  go_wp2_with fail
  go_loopw [3, 4] (fun v i wr => ∃ (k : Nat) (Am : Option Addr) (cm : Nat) (m : List Int), k ≤ L ∧ i = .int .i64 k ∧ v = .slice Am m.length cm ∧ Hid (m = ordL ltI ((atomsL (l.take k)).flatMap pickV)) ∧ Hid (Nms wr Am m) ∧ Hid (OkS Am m.length cm) ∧ Hid (m = [] → Am = none ∧ cm = 0) ∧ Hid (Below w.heap.size w wr)) (fun _ i _ => L - (intOf i).toNat)
  case atStart => exact ⟨0, none, 0, [], Nat.zero_le _, rfl, rfl, rfl, Nms.nil _ _, ⟨Nat.le_refl _, Nat.zero_le _, fun _ => rfl⟩, fun _ => ⟨rfl, rfl⟩, Below.refl _ _⟩
  case round =>
    obtain ⟨k, Am, cm, m, hk, rfl, rfl, hm, hN, hO, hZ, hB⟩ := hrel
    by_cases hlt : k < L
    · have hkl : k < l.length := by rw [hL.out]; exact hlt
      obtain ⟨b, off, rfl, hb, hc⟩ := hP (by intro e; subst e; simp at hkl)
      obtain ⟨c0, c1⟩ := hc k hkl
      clear hc
      have htk := take_snoc l (0, 0) k hkl
      have h7 := h6.out (l.getD k (0, 0)) (by rw [List.getD_eq_getElem?_getD, List.getElem?_eq_getElem hkl]; exact List.getElem_mem _)
      have hml : m.length ≤ 2097152 := by
        rw [hm.out]
        have h8 := ord_len (lt := ltI) ((atomsL (l.take k)).flatMap pickV)
        have h9 := pick_len pickV_len (atomsL (l.take k))
        rw [atoms_len, List.length_take] at h9
        omega
      generalize l.getD k (0, 0) = q at c0 c1 htk h7
      obtain ⟨x, y⟩ := q
      dsimp only at c0 c1 h7
      have hstep := add_step pickV l k x y htk
      rw [← hm.out] at hstep
      replace hstep := Lib.hid hstep
      have hkeep : Hid (∀ W, Below w.heap.size w W → W.cell? ⟨b, off + k * 2, none⟩ = some (.int .i64 x) ∧ W.cell? ⟨b, off + k * 2 + 1, none⟩ = some (.int .i64 y)) := fun W hW => ⟨(hW.cell (p := ⟨b, off + k * 2, none⟩) hb).trans c0, (hW.cell (p := ⟨b, off + k * 2 + 1, none⟩) hb).trans c1⟩
      clear htk hm c0 c1
      obtain ⟨c0, c1⟩ := hkeep.out wr hB.out
      have hx6 := Lib.hid h7.1
      have hy6 := Lib.hid h7.2
      clear h7
      by_cases hx : (0 ≤ x)
      · by_cases hy : (0 ≤ y)
        · have hdx : decide (0 ≤ x) = true := decide_eq_true hx
          have hdy : decide (0 ≤ y) = true := decide_eq_true hy
          have hpx : pickV x = [x] := pickV_yes hx
          have hpy : pickV y = [y] := pickV_yes hy
          have hnew : Hid ((ins ltI y (ins ltI x m)) = ordL ltI ((atomsL (l.take (k + 1))).flatMap pickV)) := by show _ = _; rw [hstep.out]; unfold addL; rw [hpx, hpy]; rfl
          clear hpx hpy hstep
          have k1 := Lib.hid (add_any Am m cm x wr (hN.out) (hO.out) (hZ.out) (by omega))
          go_wp2_with (first | (go_at_call 59; with_reducible refine k1.out.mono ?_; rintro e w1 ⟨⟨A1, c1', rfl, hP1, hok1⟩, hbb1⟩; replace hP1 := Lib.hid hP1; replace hok1 := Lib.hid hok1; have hB1 := Lib.hid ((hB.out).trans (hbb1.mono (hB.out).size)); clear hbb1; obtain ⟨c0, c1⟩ := hkeep.out w1 hB1.out))
          have k2 := Lib.hid (add_any A1 (ins ltI x m) c1' y w1 (hP1.out) (hok1.out) (fun h => absurd h (ins_ne _ _)) (by have := ins_len (lt := ltI) x m; omega))
          go_wp2_with (first | (go_at_call 59; with_reducible refine k2.out.mono ?_; rintro e w2 ⟨⟨A2, c2', rfl, hP2, hok2⟩, hbb2⟩; replace hP2 := Lib.hid hP2; replace hok2 := Lib.hid hok2; have hB2 := Lib.hid ((hB1.out).trans (hbb2.mono (hB1.out).size)); clear hbb2; obtain ⟨c0, c1⟩ := hkeep.out w2 hB2.out))
          go_roundw
          case rel => exact ⟨k + 1, A2, c2', _, by omega, by go_num, rfl, hnew.out, hP2.out, hok2.out, fun h => absurd h (ins_ne _ _), hB2.out⟩
          case measure => simp [intOf]; omega
        · have hdx : decide (0 ≤ x) = true := decide_eq_true hx
          have hdy : decide (0 ≤ y) = false := decide_eq_false hy
          have hpx : pickV x = [x] := pickV_yes hx
          have hpy : pickV y = [] := pickV_no hy
          have hnew : Hid ((ins ltI x m) = ordL ltI ((atomsL (l.take (k + 1))).flatMap pickV)) := by show _ = _; rw [hstep.out]; unfold addL; rw [hpx, hpy]; rfl
          clear hpx hpy hstep
          have k1 := Lib.hid (add_any Am m cm x wr (hN.out) (hO.out) (hZ.out) (by omega))
          go_wp2_with (first | (go_at_call 59; with_reducible refine k1.out.mono ?_; rintro e w1 ⟨⟨A1, c1', rfl, hP1, hok1⟩, hbb1⟩; replace hP1 := Lib.hid hP1; replace hok1 := Lib.hid hok1; have hB1 := Lib.hid ((hB.out).trans (hbb1.mono (hB.out).size)); clear hbb1; obtain ⟨c0, c1⟩ := hkeep.out w1 hB1.out))
          go_roundw
          case rel => exact ⟨k + 1, A1, c1', _, by omega, by go_num, rfl, hnew.out, hP1.out, hok1.out, fun h => absurd h (ins_ne _ _), hB1.out⟩
          case measure => simp [intOf]; omega
      · by_cases hy : (0 ≤ y)
        · have hdx : decide (0 ≤ x) = false := decide_eq_false hx
          have hdy : decide (0 ≤ y) = true := decide_eq_true hy
          have hpx : pickV x = [] := pickV_no hx
          have hpy : pickV y = [y] := pickV_yes hy
          have hnew : Hid ((ins ltI y m) = ordL ltI ((atomsL (l.take (k + 1))).flatMap pickV)) := by show _ = _; rw [hstep.out]; unfold addL; rw [hpx, hpy]; rfl
          clear hpx hpy hstep
          have k1 := Lib.hid (add_any Am m cm y wr (hN.out) (hO.out) (hZ.out) (by omega))
          go_wp2_with (first | (go_at_call 59; with_reducible refine k1.out.mono ?_; rintro e w1 ⟨⟨A1, c1', rfl, hP1, hok1⟩, hbb1⟩; replace hP1 := Lib.hid hP1; replace hok1 := Lib.hid hok1; have hB1 := Lib.hid ((hB.out).trans (hbb1.mono (hB.out).size)); clear hbb1; obtain ⟨c0, c1⟩ := hkeep.out w1 hB1.out))
          go_roundw
          case rel => exact ⟨k + 1, A1, c1', _, by omega, by go_num, rfl, hnew.out, hP1.out, hok1.out, fun h => absurd h (ins_ne _ _), hB1.out⟩
          case measure => simp [intOf]; omega
        · have hdx : decide (0 ≤ x) = false := decide_eq_false hx
          have hdy : decide (0 ≤ y) = false := decide_eq_false hy
          have hpx : pickV x = [] := pickV_no hx
          have hpy : pickV y = [] := pickV_no hy
          have hnew : Hid (m = ordL ltI ((atomsL (l.take (k + 1))).flatMap pickV)) := by show _ = _; rw [hstep.out]; unfold addL; rw [hpx, hpy]; rfl
          clear hpx hpy hstep
          go_wp2_with fail
          go_roundw
          case rel => exact ⟨k + 1, Am, cm, m, by omega, by go_num, rfl, hnew.out, hN.out, hO.out, hZ.out, hB.out⟩
          case measure => simp [intOf]; omega
    · obtain rfl : k = L := by omega
      have hmv := hm.out
      rw [List.take_of_length_le (by rw [hL.out]; exact Nat.le_refl _)] at hmv
      have hmv2 : m = varsL l := hmv
      go_wp2_with fail
      go_ret
      rw [← hmv2]
      exact ⟨⟨Am, cm, rfl, hN.out⟩, hB.out⟩

set_option maxRecDepth 100000 in
set_option maxHeartbeats 1000000 in
theorem refPoints_any (A : Option Addr) (l : List Pr) (c : Nat) (w : World) (hP : Prs w A l) (h6 : ∀ p ∈ l, I64 p.1 ∧ I64 p.2) (hl : l.length ≤ 1048576) :
    Calls Tryd.prog 41 #[.slice A l.length c] w fun e w' => (∃ A c, e = .returned (.slice A (pointsL l).length c) ∧ Nms w' A (pointsL l)) ∧ Below w.heap.size w w' := by
  obtain ⟨L, hL⟩ : ∃ L, Hid (l.length = L) := ⟨_, rfl⟩
  have hLl := hL.out
  rw [hLl] at hl ⊢
  clear hLl
  replace h6 := Lib.hid h6
  go_enter Tryd.func41, Tryd.ntmps41
  go_wp2_with fail
  go_loopw [3, 4] (fun v i wr => ∃ (k : Nat) (Am : Option Addr) (cm : Nat) (m : List Int), k ≤ L ∧ i = .int .i64 k ∧ v = .slice Am m.length cm ∧ Hid (m = ordL ltI ((atomsL (l.take k)).flatMap pickP)) ∧ Hid (Nms wr Am m) ∧ Hid (OkS Am m.length cm) ∧ Hid (m = [] → Am = none ∧ cm = 0) ∧ Hid (Below w.heap.size w wr)) (fun _ i _ => L - (intOf i).toNat)
  case atStart => exact ⟨0, none, 0, [], Nat.zero_le _, rfl, rfl, rfl, Nms.nil _ _, ⟨Nat.le_refl _, Nat.zero_le _, fun _ => rfl⟩, fun _ => ⟨rfl, rfl⟩, Below.refl _ _⟩
  case round =>
    obtain ⟨k, Am, cm, m, hk, rfl, rfl, hm, hN, hO, hZ, hB⟩ := hrel
    by_cases hlt : k < L
    · have hkl : k < l.length := by rw [hL.out]; exact hlt
      obtain ⟨b, off, rfl, hb, hc⟩ := hP (by intro e; subst e; simp at hkl)
      obtain ⟨c0, c1⟩ := hc k hkl
      clear hc
      have htk := take_snoc l (0, 0) k hkl
      have h7 := h6.out (l.getD k (0, 0)) (by rw [List.getD_eq_getElem?_getD, List.getElem?_eq_getElem hkl]; exact List.getElem_mem _)
      have hml : m.length ≤ 2097152 := by
        rw [hm.out]
        have h8 := ord_len (lt := ltI) ((atomsL (l.take k)).flatMap pickP)
        have h9 := pick_len pickP_len (atomsL (l.take k))
        rw [atoms_len, List.length_take] at h9
        omega
      generalize l.getD k (0, 0) = q at c0 c1 htk h7
      obtain ⟨x, y⟩ := q
      dsimp only at c0 c1 h7
      have hstep := add_step pickP l k x y htk
      rw [← hm.out] at hstep
      replace hstep := Lib.hid hstep
      have hkeep : Hid (∀ W, Below w.heap.size w W → W.cell? ⟨b, off + k * 2, none⟩ = some (.int .i64 x) ∧ W.cell? ⟨b, off + k * 2 + 1, none⟩ = some (.int .i64 y)) := fun W hW => ⟨(hW.cell (p := ⟨b, off + k * 2, none⟩) hb).trans c0, (hW.cell (p := ⟨b, off + k * 2 + 1, none⟩) hb).trans c1⟩
      clear htk hm c0 c1
      obtain ⟨c0, c1⟩ := hkeep.out wr hB.out
      have hx6 := Lib.hid h7.1
      have hy6 := Lib.hid h7.2
      clear h7
      by_cases hx : (x < 0)
      · by_cases hy : (y < 0)
        · have hdx : decide (x < 0) = true := decide_eq_true hx
          have hdy : decide (y < 0) = true := decide_eq_true hy
          have hpx : pickP x = [(-1 - x)] := pickP_yes hx
          have hpy : pickP y = [(-1 - y)] := pickP_yes hy
          have hnew : Hid ((ins ltI (-1 - y) (ins ltI (-1 - x) m)) = ordL ltI ((atomsL (l.take (k + 1))).flatMap pickP)) := by show _ = _; rw [hstep.out]; unfold addL; rw [hpx, hpy]; rfl
          clear hpx hpy hstep
          have kpx : ∀ W, Calls Tryd.prog 70 #[.int .i64 x] W fun e w' => e = .returned (.int .i64 (pointOfT x)) ∧ W = w' := fun W => refPointOf_any x W hx6.out
          have kpy : ∀ W, Calls Tryd.prog 70 #[.int .i64 y] W fun e w' => e = .returned (.int .i64 (pointOfT y)) ∧ W = w' := fun W => refPointOf_any y W hy6.out
          rw [show pointOfT x = -1 - x from if_pos hx] at kpx
          rw [show pointOfT y = -1 - y from if_pos hy] at kpy
          have k1 := Lib.hid (add_any Am m cm (-1 - x) wr (hN.out) (hO.out) (hZ.out) (by omega))
          go_wp2_with (first | (go_at_call 70; refine (kpx _).mono ?_; rintro e W' ⟨rfl, hW'⟩; cases hW') | (go_at_call 59; with_reducible refine k1.out.mono ?_; rintro e w1 ⟨⟨A1, c1', rfl, hP1, hok1⟩, hbb1⟩; replace hP1 := Lib.hid hP1; replace hok1 := Lib.hid hok1; have hB1 := Lib.hid ((hB.out).trans (hbb1.mono (hB.out).size)); clear hbb1; obtain ⟨c0, c1⟩ := hkeep.out w1 hB1.out))
          have k2 := Lib.hid (add_any A1 (ins ltI (-1 - x) m) c1' (-1 - y) w1 (hP1.out) (hok1.out) (fun h => absurd h (ins_ne _ _)) (by have := ins_len (lt := ltI) (-1 - x) m; omega))
          go_wp2_with (first | (go_at_call 70; refine (kpy _).mono ?_; rintro e W' ⟨rfl, hW'⟩; cases hW') | (go_at_call 59; with_reducible refine k2.out.mono ?_; rintro e w2 ⟨⟨A2, c2', rfl, hP2, hok2⟩, hbb2⟩; replace hP2 := Lib.hid hP2; replace hok2 := Lib.hid hok2; have hB2 := Lib.hid ((hB1.out).trans (hbb2.mono (hB1.out).size)); clear hbb2; obtain ⟨c0, c1⟩ := hkeep.out w2 hB2.out))
          go_roundw
          case rel => exact ⟨k + 1, A2, c2', _, by omega, by go_num, rfl, hnew.out, hP2.out, hok2.out, fun h => absurd h (ins_ne _ _), hB2.out⟩
          case measure => simp [intOf]; omega
        · have hdx : decide (x < 0) = true := decide_eq_true hx
          have hdy : decide (y < 0) = false := decide_eq_false hy
          have hpx : pickP x = [(-1 - x)] := pickP_yes hx
          have hpy : pickP y = [] := pickP_no hy
          have hnew : Hid ((ins ltI (-1 - x) m) = ordL ltI ((atomsL (l.take (k + 1))).flatMap pickP)) := by show _ = _; rw [hstep.out]; unfold addL; rw [hpx, hpy]; rfl
          clear hpx hpy hstep
          have kpx : ∀ W, Calls Tryd.prog 70 #[.int .i64 x] W fun e w' => e = .returned (.int .i64 (pointOfT x)) ∧ W = w' := fun W => refPointOf_any x W hx6.out
          have kpy : ∀ W, Calls Tryd.prog 70 #[.int .i64 y] W fun e w' => e = .returned (.int .i64 (pointOfT y)) ∧ W = w' := fun W => refPointOf_any y W hy6.out
          rw [show pointOfT x = -1 - x from if_pos hx] at kpx
          clear kpy
          have k1 := Lib.hid (add_any Am m cm (-1 - x) wr (hN.out) (hO.out) (hZ.out) (by omega))
          go_wp2_with (first | (go_at_call 70; refine (kpx _).mono ?_; rintro e W' ⟨rfl, hW'⟩; cases hW') | (go_at_call 59; with_reducible refine k1.out.mono ?_; rintro e w1 ⟨⟨A1, c1', rfl, hP1, hok1⟩, hbb1⟩; replace hP1 := Lib.hid hP1; replace hok1 := Lib.hid hok1; have hB1 := Lib.hid ((hB.out).trans (hbb1.mono (hB.out).size)); clear hbb1; obtain ⟨c0, c1⟩ := hkeep.out w1 hB1.out))
          go_roundw
          case rel => exact ⟨k + 1, A1, c1', _, by omega, by go_num, rfl, hnew.out, hP1.out, hok1.out, fun h => absurd h (ins_ne _ _), hB1.out⟩
          case measure => simp [intOf]; omega
      · by_cases hy : (y < 0)
        · have hdx : decide (x < 0) = false := decide_eq_false hx
          have hdy : decide (y < 0) = true := decide_eq_true hy
          have hpx : pickP x = [] := pickP_no hx
          have hpy : pickP y = [(-1 - y)] := pickP_yes hy
          have hnew : Hid ((ins ltI (-1 - y) m) = ordL ltI ((atomsL (l.take (k + 1))).flatMap pickP)) := by show _ = _; rw [hstep.out]; unfold addL; rw [hpx, hpy]; rfl
          clear hpx hpy hstep
          have kpx : ∀ W, Calls Tryd.prog 70 #[.int .i64 x] W fun e w' => e = .returned (.int .i64 (pointOfT x)) ∧ W = w' := fun W => refPointOf_any x W hx6.out
          have kpy : ∀ W, Calls Tryd.prog 70 #[.int .i64 y] W fun e w' => e = .returned (.int .i64 (pointOfT y)) ∧ W = w' := fun W => refPointOf_any y W hy6.out
          clear kpx
          rw [show pointOfT y = -1 - y from if_pos hy] at kpy
          have k1 := Lib.hid (add_any Am m cm (-1 - y) wr (hN.out) (hO.out) (hZ.out) (by omega))
          go_wp2_with (first | (go_at_call 70; refine (kpy _).mono ?_; rintro e W' ⟨rfl, hW'⟩; cases hW') | (go_at_call 59; with_reducible refine k1.out.mono ?_; rintro e w1 ⟨⟨A1, c1', rfl, hP1, hok1⟩, hbb1⟩; replace hP1 := Lib.hid hP1; replace hok1 := Lib.hid hok1; have hB1 := Lib.hid ((hB.out).trans (hbb1.mono (hB.out).size)); clear hbb1; obtain ⟨c0, c1⟩ := hkeep.out w1 hB1.out))
          go_roundw
          case rel => exact ⟨k + 1, A1, c1', _, by omega, by go_num, rfl, hnew.out, hP1.out, hok1.out, fun h => absurd h (ins_ne _ _), hB1.out⟩
          case measure => simp [intOf]; omega
        · have hdx : decide (x < 0) = false := decide_eq_false hx
          have hdy : decide (y < 0) = false := decide_eq_false hy
          have hpx : pickP x = [] := pickP_no hx
          have hpy : pickP y = [] := pickP_no hy
          have hnew : Hid (m = ordL ltI ((atomsL (l.take (k + 1))).flatMap pickP)) := by show _ = _; rw [hstep.out]; unfold addL; rw [hpx, hpy]; rfl
          clear hpx hpy hstep
          have kpx : ∀ W, Calls Tryd.prog 70 #[.int .i64 x] W fun e w' => e = .returned (.int .i64 (pointOfT x)) ∧ W = w' := fun W => refPointOf_any x W hx6.out
          have kpy : ∀ W, Calls Tryd.prog 70 #[.int .i64 y] W fun e w' => e = .returned (.int .i64 (pointOfT y)) ∧ W = w' := fun W => refPointOf_any y W hy6.out
          clear kpx
          clear kpy
          go_wp2_with fail
          go_roundw
          case rel => exact ⟨k + 1, Am, cm, m, by omega, by go_num, rfl, hnew.out, hN.out, hO.out, hZ.out, hB.out⟩
          case measure => simp [intOf]; omega
    · obtain rfl : k = L := by omega
      have hmv := hm.out
      rw [List.take_of_length_le (by rw [hL.out]; exact Nat.le_refl _)] at hmv
      have hmv2 : m = pointsL l := hmv
      go_wp2_with fail
      go_ret
      rw [← hmv2]
      exact ⟨⟨Am, cm, rfl, hN.out⟩, hB.out⟩
end Go.Proofs.YtlhfdedjboanfaaDoor
namespace Go.At
theorem find_at {l : List Pr} {a : Int} : ∀ {k : Nat}, k < l.length → (∀ j, j < k → (l.getD j (0, 0)).1 ≠ a) → (l.getD k (0, 0)).1 = a → l.find? (fun x => x.1 == a) = some (l.getD k (0, 0)) := by
  induction l with
  | nil => intro k hk; simp at hk
  | cons x r ih =>
    intro k hk h e
    match k, hk, h, e with
    | 0, _, _, e =>
      have e : x.1 = a := e
      rw [List.find?_cons_of_pos (by simp [e])]; rfl
    | k + 1, hk, h, e =>
      have h0 : x.1 ≠ a := h 0 (by omega)
      rw [List.find?_cons_of_neg (by simp [h0])]
      exact ih (k := k) (by simpa using hk) (fun j hj => h (j + 1) (by omega)) e
theorem find_not {l : List Pr} {a : Int} (h : ∀ j, j < l.length → (l.getD j (0, 0)).1 ≠ a) : l.find? (fun x => x.1 == a) = none := by
  rw [List.find?_eq_none]
  intro x hx
  obtain ⟨j, hj, rfl⟩ := List.getElem_of_mem hx
  have := h j hj
  rw [List.getD_eq_getElem?_getD, List.getElem?_eq_getElem hj] at this
  simpa using this
end Go.At
namespace Go.Proofs.YtlhfdedjboanfaaDoor
open Go.RowKit Go.Shelf Go.At Go.Sv
attribute [local go_sem] Oper.semAt_some

theorem known_points (n : Nat) (l : List Pr) : l.all (knP n) = (pointsL l).all (pnt n) := by
  rw [Bool.eq_iff_iff, List.all_eq_true, List.all_eq_true]
  have key : ∀ a : Int, kn n a = true ↔ (a < 0 → pnt n (-1 - a) = true) := fun a => by
    unfold kn isP
    by_cases h : a < 0
    · rw [decide_eq_true h]; simp [h]
    · rw [decide_eq_false h]; simp [h]
  constructor
  · intro h q hq
    obtain ⟨h0, hm⟩ := (points_mem l q).1 hq
    obtain ⟨p, hp, e⟩ := (atoms_mem l _).1 hm
    have h1 := h p hp
    unfold knP at h1
    rw [Bool.and_eq_true, key, key] at h1
    have e2 : -1 - (-1 - q) = q := by omega
    rcases e with e | e
    · have := h1.1 (by omega); rwa [← e, e2] at this
    · have := h1.2 (by omega); rwa [← e, e2] at this
  · intro h p hp
    unfold knP
    rw [Bool.and_eq_true, key, key]
    have at' : ∀ a : Int, a = p.1 ∨ a = p.2 → a < 0 → pnt n (-1 - a) = true := fun a e h0 =>
      h _ ((points_mem l _).2 ⟨by omega, by rw [show -1 - (-1 - a) = a by omega]; exact (atoms_mem l a).2 ⟨p, hp, e⟩⟩)
    exact ⟨at' _ (.inl rfl), at' _ (.inr rfl)⟩
theorem points_i64 {l : List Pr} (h6 : ∀ p ∈ l, I64 p.1 ∧ I64 p.2) : ∀ q ∈ pointsL l, I64 q := fun q hq => by
  obtain ⟨h0, hm⟩ := (points_mem l q).1 hq
  obtain ⟨p, hp, e⟩ := (atoms_mem l _).1 hm
  have := h6 p hp
  unfold I64 at this ⊢
  rcases e with e | e <;> omega
theorem points_len (l : List Pr) : (pointsL l).length ≤ 2 * l.length := by
  have h8 := ord_len (lt := ltI) ((atomsL l).flatMap pickP)
  have h9 := pick_len pickP_len (atomsL l)
  rw [atoms_len] at h9
  unfold pointsL
  omega

theorem refpoint_any (A B : Option Addr) (n m c d : Nat) (p : Int) (w : World) :
    Calls Tryd.prog 42 #[.agg #[.slice A n c, .slice B m d], .int .i64 p] w fun e w' => e = .returned (.bool (pnt n p)) ∧ Below w.heap.size w w' := by
  have hb := Lib.hid (later_alloc w (.cells #[.slice A n c, .slice B m d] 30))
  unfold pnt
  by_cases h1 : 0 ≤ p
  · have d1 : decide (0 ≤ p) = true := decide_eq_true h1
    rw [d1, Bool.true_and]
    go_enter Tryd.func42, Tryd.ntmps42
    go_wp2_with fail
    go_ret
    exact ⟨rfl, hb.out⟩
  · have d1 : decide (0 ≤ p) = false := decide_eq_false h1
    rw [d1, Bool.false_and]
    go_enter Tryd.func42, Tryd.ntmps42
    go_wp2_with fail
    go_ret
    exact ⟨rfl, hb.out⟩

set_option maxRecDepth 100000 in
set_option maxHeartbeats 4000000 in
theorem refKnown_any (A B : Option Addr) (ns : List ByteArray) (us : List Nat) (c d : Nat) (C : Option Addr) (l : List Pr) (cc : Nat) (w : World) (hE : L.Env w) (hL : L.LatAt w A B c ns us) (hP : Prs w C l) (h6 : ∀ p ∈ l, I64 p.1 ∧ I64 p.2) (hl : l.length ≤ 1048576) :
    Calls Tryd.prog 16 #[.agg #[.slice A ns.length c, .slice B us.length d], .slice C l.length cc] w fun e w' => e = .returned (.bool (knownT ns us l)) ∧ Below w.heap.size w w' := by
  have hb0 := later_alloc w (.cells #[.slice A ns.length c, .slice B us.length d] 30)
  have hx0 := World.alloc_heap_new w (.cells #[.slice A ns.length c, .slice B us.length d] 30)
  obtain ⟨W0, hW0⟩ : ∃ W, w.alloc (.cells #[.slice A ns.length c, .slice B us.length d] 30) = W := ⟨_, rfl⟩
  rw [hW0] at hb0 hx0
  have keyR := Lib.hid (L.refright_any A B ns us c d W0 (hE.later hb0) (hL.later hb0))
  have kpo := Lib.hid (fun (W : World) (h : Below W0.heap.size W0 W) => refPoints_any C l cc W ((hP.later hb0).later h) h6 hl)
  have kpt := Lib.hid (fun (p : Int) (W : World) => refpoint_any A B ns.length us.length c d p W)
  have z1 : W0.heap.size = w.heap.size + 1 := by rw [← hW0, World.size_alloc]
  have b0 : W0.cell? ⟨w.heap.size, 0, none⟩ = some (.slice A ns.length c) := cell_of_row _ _ 0 _ _ _ hx0
  have b1 : W0.cell? ⟨w.heap.size, 1, none⟩ = some (.slice B us.length d) := cell_of_row _ _ 1 _ _ _ hx0
  have kb := Lib.hid (fun (W : World) (h : Below W0.heap.size W0 W) => And.intro ((h.cell (p := ⟨w.heap.size, 0, none⟩) (by show w.heap.size < _; omega)).trans b0) ((h.cell (p := ⟨w.heap.size, 1, none⟩) (by show w.heap.size < _; omega)).trans b1))
  have hkn := Lib.hid (known_points ns.length l)
  have hXl := points_len l
  replace hb0 := Lib.hid hb0
  replace hx0 := Lib.hid hx0
  replace hE := Lib.hid hE
  replace hL := Lib.hid hL
  replace hP := Lib.hid hP
  replace h6 := Lib.hid h6
  obtain ⟨N, hN⟩ : ∃ N, ns.length = N := ⟨_, rfl⟩
  obtain ⟨U, hU⟩ : ∃ U, us.length = U := ⟨_, rfl⟩
  obtain ⟨Q, hQ⟩ : ∃ Q, l.length = Q := ⟨_, rfl⟩
  obtain ⟨R, hR⟩ : ∃ R, knownT ns us l = R := ⟨_, rfl⟩
  obtain ⟨ps, hps⟩ : ∃ ps, pointsL l = ps := ⟨_, rfl⟩
  rw [hps] at kpo hkn hXl
  obtain ⟨X, hX⟩ : ∃ X, ps.length = X := ⟨_, rfl⟩
  rw [hN, hU] at keyR hW0 kpt
  rw [hN, hU] at kb
  rw [hN] at b0 hkn
  rw [hU] at b1
  rw [hQ, hX] at kpo
  rw [hN, hU, hQ, hR]
  rw [hQ] at hl hXl
  rw [hX] at hXl
  replace hN := Lib.hid hN
  replace hU := Lib.hid hU
  replace hQ := Lib.hid hQ
  replace hR := Lib.hid hR
  replace hps := Lib.hid hps
  replace hX := Lib.hid hX
  replace z1 := Lib.hid z1
  cases hr : L.rightB ns us with
  | false =>
    rw [hr] at keyR
    have hR2 : Hid (R = false) := by show R = false; rw [← hR.out]; unfold knownT; rw [hr]; rfl
    replace hr := Lib.hid hr
    go_enter Tryd.func16, Tryd.ntmps16
    go_wp2_with (go_at_call 40; refine keyR.out.mono ?_; rintro e w' ⟨rfl, hb2⟩)
    go_ret
    exact ⟨ret_bool hR2.out.symm, hb0.out.trans (hb2.mono hb0.out.size)⟩
  | true =>
    rw [hr] at keyR
    have hkT : Hid (R = ps.all (pnt N)) := by
      show R = _
      rw [← hR.out, ← hkn.out, ← hN.out]
      unfold knownT
      rw [hr, Bool.true_and]; rfl
    replace hr := Lib.hid hr
    go_enter Tryd.func16, Tryd.ntmps16
    go_wp2_with (first
      | (go_at_call 40; refine keyR.out.mono ?_; rintro e w1 ⟨rfl, hb2⟩)
      | (go_at_call 41; refine (kpo.out _ hb2).mono ?_; rintro e w2 ⟨⟨V, cv, rfl, hV⟩, hb3⟩))
    have hB2 := Lib.hid (below_on hb2 hb3)
    have hV2 := Lib.hid hV
    clear hb2 hb3 hV b0 b1 kpo keyR
    go_loopw [6] (fun i W => ∃ k : Nat, k ≤ X ∧ i = .int .i64 k ∧ Hid ((ps.take k).all (pnt N) = true) ∧ Hid (Below w2.heap.size w2 W)) (fun i _ => X - (intOf i).toNat)
    case atStart => exact ⟨0, Nat.zero_le _, rfl, rfl, Below.refl _ _⟩
    case round =>
      obtain ⟨k, hk, rfl, hall, hB⟩ := hrel
      by_cases hlt : k < X
      · have hkl : k < ps.length := by rw [hX.out]; exact hlt
        have hO := Lib.hid (below_on hB2.out hB.out)
        obtain ⟨b, off, rfl, hbk, hc⟩ := (hV2.out.later hB.out) (by intro e; subst e; simp at hkl)
        have c0 := hc k hkl
        clear hc hW0
        have ht := all_take ps 0 (pnt N) k hkl
        have hno := fun h => all_no ps 0 (pnt N) k hkl h
        generalize ps.getD k 0 = x at c0 ht hno
        obtain ⟨f, hf⟩ : ∃ f, pnt N x = f := ⟨_, rfl⟩
        have kx := Lib.hid (fun (W : World) => kpt.out x W)
        rw [hf] at kx ht hno
        replace hf := Lib.hid hf
        replace ht := Lib.hid ht
        replace hno := Lib.hid hno
        have hkeep : Hid (∀ W : World, Below wr.heap.size wr W → (W.cell? ⟨w.heap.size, 0, none⟩ = some (.slice A N c) ∧ W.cell? ⟨w.heap.size, 1, none⟩ = some (.slice B U d)) ∧ W.cell? ⟨b, off + k, none⟩ = some (.int .i64 x)) := fun W h => ⟨kb.out W (below_on hO.out h), (h.cell (p := ⟨b, off + k, none⟩) hbk).trans c0⟩
        have hG : Hid (Below wr.heap.size wr wr) := Below.refl _ _
        have hji : ((k : Nat) : Int) < ((X : Nat) : Int) := by omega
        have hjd : decide (((k : Nat) : Int) < ((X : Nat) : Int)) = true := decide_eq_true hji
        clear c0
        go_wp2_with fail
        go_region_held3 (fun W => (W.cell? ⟨w.heap.size, 0, none⟩ = some (.slice A N c) ∧ W.cell? ⟨w.heap.size, 1, none⟩ = some (.slice B U d)) ∧ W.cell? ⟨b, off + k, none⟩ = some (.int .i64 x)) (exact hkeep.out _ (by repeat (first | with_reducible exact hG.out | with_reducible refine Below.drew ?_)))
          (first | (go_at_call 42; refine (kx.out _).mono ?_; rintro e w3 ⟨rfl, hb5⟩; replace hG : Hid (Below wr.heap.size wr w3) := below_on (by repeat (first | with_reducible exact hG.out | with_reducible refine Below.drew ?_)) hb5; clear hb5))
        all_goals
          have hB3 : Hid (Below w2.heap.size w2 w3) := below_on hB.out hG.out
          cases f with
          | false =>
            have hR2 : Hid (R = false) := hkT.out.trans (hno.out rfl)
            go_wp2_with fail
            go_ret
            exact ⟨ret_bool hR2.out.symm, below_on hb0.out (below_on hB2.out hB3.out)⟩
          | true =>
            go_wp2_with fail
            go_roundw
            case rel => exact ⟨k + 1, by omega, by go_num, by show _ = _; rw [ht.out, hall.out]; rfl, hB3.out⟩
            case measure => simp [intOf]; omega
      · obtain rfl : k = X := by omega
        have hR2 : Hid (R = true) := by
          show R = true
          have h1 := hall.out
          rw [List.take_of_length_le (by rw [hX.out]; exact Nat.le_refl _)] at h1
          rw [hkT.out, h1]
        go_wp2_with fail
        go_ret
        exact ⟨ret_bool hR2.out.symm, below_on hb0.out (below_on hB2.out hB.out)⟩

set_option maxRecDepth 100000 in
set_option maxHeartbeats 4000000 in
theorem refValue_any (A B : Option Addr) (ns : List ByteArray) (us : List Nat) (c d : Nat) (C : Option Addr) (l : List Pr) (cc : Nat) (a : Int) (ha : I64 a) (w : World) (hE : L.Env w) (hL : L.LatAt w A B c ns us) (hP : Prs w C l) (hl : l.length ≤ 8796093022208) :
    Calls Tryd.prog 18 #[.agg #[.slice A ns.length c, .slice B us.length d], .slice C l.length cc, .int .i64 a] w fun e w' => e = .returned (.int .i64 (valueT ns us l a)) ∧ Below w.heap.size w w' := by
  have hb0 := later_alloc w (.cells #[.slice A ns.length c, .slice B us.length d] 30)
  have hx0 := World.alloc_heap_new w (.cells #[.slice A ns.length c, .slice B us.length d] 30)
  obtain ⟨W0, hW0⟩ : ∃ W, w.alloc (.cells #[.slice A ns.length c, .slice B us.length d] 30) = W := ⟨_, rfl⟩
  rw [hW0] at hb0 hx0
  have kpt := Lib.hid (fun (p : Int) (W : World) => refpoint_any A B ns.length us.length c d p W)
  have kbt := Lib.hid (fun (W : World) (h : Below W0.heap.size W0 W) => L.refBottom_any A B ns us c d W ((hE.later hb0).later h) ((hL.later hb0).later h))
  have hP0 := Lib.hid (hP.later hb0)
  have z1 : W0.heap.size = w.heap.size + 1 := by rw [← hW0, World.size_alloc]
  have b0 : W0.cell? ⟨w.heap.size, 0, none⟩ = some (.slice A ns.length c) := cell_of_row _ _ 0 _ _ _ hx0
  have b1 : W0.cell? ⟨w.heap.size, 1, none⟩ = some (.slice B us.length d) := cell_of_row _ _ 1 _ _ _ hx0
  have kb := Lib.hid (fun (W : World) (h : Below W0.heap.size W0 W) => And.intro ((h.cell (p := ⟨w.heap.size, 0, none⟩) (by show w.heap.size < _; omega)).trans b0) ((h.cell (p := ⟨w.heap.size, 1, none⟩) (by show w.heap.size < _; omega)).trans b1))
  replace hb0 := Lib.hid hb0
  replace hx0 := Lib.hid hx0
  replace hE := Lib.hid hE
  replace hL := Lib.hid hL
  replace hP := Lib.hid hP
  obtain ⟨N, hN⟩ : ∃ N, ns.length = N := ⟨_, rfl⟩
  obtain ⟨U, hU⟩ : ∃ U, us.length = U := ⟨_, rfl⟩
  obtain ⟨Q, hQ⟩ : ∃ Q, l.length = Q := ⟨_, rfl⟩
  obtain ⟨R, hR⟩ : ∃ R, valueT ns us l a = R := ⟨_, rfl⟩
  obtain ⟨Z, hZ⟩ : ∃ Z, L.bottomI ns us = Z := ⟨_, rfl⟩
  rw [hN, hU] at hW0 kpt kb kbt
  rw [hZ] at kbt
  rw [hN] at b0
  rw [hU] at b1
  rw [hN, hU, hQ, hR]
  rw [hQ] at hl
  unfold valueT at hR
  rw [hN, hZ] at hR
  replace hN := Lib.hid hN
  replace hU := Lib.hid hU
  replace hQ := Lib.hid hQ
  replace hZ := Lib.hid hZ
  replace z1 := Lib.hid z1
  obtain ⟨a1, a2⟩ := ha
  by_cases h0 : a < 0
  · rw [if_pos h0] at hR
    have hd0 : decide (a < 0) = true := decide_eq_true h0
    have hwa : IntKind.i64.wrap (-1 - a) = -1 - a := wrap_i ⟨by omega, by omega⟩
    obtain ⟨f, hf⟩ : ∃ f, pnt N (-1 - a) = f := ⟨_, rfl⟩
    have kx := Lib.hid (fun (W : World) => kpt.out (-1 - a) W)
    rw [hf] at hR kx
    replace hf := Lib.hid hf
    replace hR := Lib.hid hR
    cases f with
    | true =>
      go_enter Tryd.func18, Tryd.ntmps18
      go_wp2_with (go_at_call 42; refine (kx.out _).mono ?_; rintro e w3 ⟨rfl, hb5⟩)
      go_ret
      exact ⟨ret_int hR.out, below_on hb0.out hb5⟩
    | false =>
      go_enter Tryd.func18, Tryd.ntmps18
      go_wp2_with (go_at_call 42; refine (kx.out _).mono ?_; rintro e w3 ⟨rfl, hb5⟩)
      go_ret
      exact ⟨ret_int hR.out, below_on hb0.out hb5⟩
  · rw [if_neg h0] at hR
    have hd0 : decide (a < 0) = false := decide_eq_false h0
    replace hR := Lib.hid hR
    go_enter Tryd.func18, Tryd.ntmps18
    go_wp2_with fail
    go_loopw [7] (fun i W => ∃ k : Nat, k ≤ Q ∧ i = .int .i64 k ∧ Hid (∀ j, j < k → (l.getD j (0, 0)).1 ≠ a) ∧ Hid (Below W0.heap.size W0 W)) (fun i _ => Q - (intOf i).toNat)
    case atStart => exact ⟨0, Nat.zero_le _, rfl, (fun j hj => absurd hj (Nat.not_lt_zero _)), Below.refl _ _⟩
    case round =>
      obtain ⟨k, hk, rfl, hall, hB⟩ := hrel
      by_cases hlt : k < Q
      · have hkl : k < l.length := by rw [hQ.out]; exact hlt
        obtain ⟨b, off, rfl, hbk, hc⟩ := (hP0.out.later hB.out) (by intro e; subst e; simp at hkl)
        obtain ⟨c0, c1⟩ := hc k hkl
        clear hc hW0 b0 b1
        have hfind := fun e => find_at hkl hall.out e
        have hnext : (l.getD k (0, 0)).1 ≠ a → ∀ j, j < k + 1 → (l.getD j (0, 0)).1 ≠ a := fun e j hj => by
          by_cases hjk : j < k
          · exact hall.out j hjk
          · obtain rfl : j = k := by omega
            exact e
        generalize l.getD k (0, 0) = x at c0 c1 hfind hnext
        obtain ⟨v, p⟩ := x
        dsimp only at c0 c1 hfind hnext
        obtain ⟨b0, b1⟩ := kb.out wr hB.out
        have hji : ((k : Nat) : Int) < ((Q : Nat) : Int) := by omega
        have hjd : decide (((k : Nat) : Int) < ((Q : Nat) : Int)) = true := decide_eq_true hji
        by_cases hva : v = a
        · have hv2 : (v == a) = true := by simp [hva]
          have hR2 := hR.out
          rw [hfind hva] at hR2
          simp only at hR2
          obtain ⟨f, hf⟩ : ∃ f, pnt N p = f := ⟨_, rfl⟩
          have kx := Lib.hid (fun (W : World) => kpt.out p W)
          rw [hf] at hR2 kx
          replace hf := Lib.hid hf
          replace hR2 := Lib.hid hR2
          replace hva := Lib.hid hva
          replace hfind := Lib.hid hfind
          replace hnext := Lib.hid hnext
          have hkeep : Hid (∀ W : World, Below wr.heap.size wr W → (W.cell? ⟨w.heap.size, 0, none⟩ = some (.slice A N c) ∧ W.cell? ⟨w.heap.size, 1, none⟩ = some (.slice B U d)) ∧ W.cell? ⟨b, off + k * 2 + 1, none⟩ = some (.int .i64 p)) := fun W h => ⟨kb.out W (below_on hB.out h), (h.cell (p := ⟨b, off + k * 2 + 1, none⟩) hbk).trans c1⟩
          have hG : Hid (Below wr.heap.size wr wr) := Below.refl _ _
          cases f with
          | true =>
            go_wp2_with fail
            go_region_held3 (fun W => (W.cell? ⟨w.heap.size, 0, none⟩ = some (.slice A N c) ∧ W.cell? ⟨w.heap.size, 1, none⟩ = some (.slice B U d)) ∧ W.cell? ⟨b, off + k * 2 + 1, none⟩ = some (.int .i64 p)) (exact hkeep.out _ (by repeat (first | with_reducible exact hG.out | with_reducible refine Below.drew ?_)))
              (first | (go_at_call 42; refine (kx.out _).mono ?_; rintro e w3 ⟨rfl, hb5⟩; replace hG : Hid (Below wr.heap.size wr w3) := below_on (by repeat (first | with_reducible exact hG.out | with_reducible refine Below.drew ?_)) hb5; clear hb5))
            all_goals
              have hb6 := hG
              obtain ⟨-, c1⟩ := hkeep.out w3 hb6.out
              go_wp2_with fail
              go_ret
              exact ⟨ret_int hR2.out, below_on hb0.out (below_on hB.out hb6.out)⟩
          | false =>
            go_wp2_with fail
            go_region_held3 (fun W => (W.cell? ⟨w.heap.size, 0, none⟩ = some (.slice A N c) ∧ W.cell? ⟨w.heap.size, 1, none⟩ = some (.slice B U d)) ∧ W.cell? ⟨b, off + k * 2 + 1, none⟩ = some (.int .i64 p)) (exact hkeep.out _ (by repeat (first | with_reducible exact hG.out | with_reducible refine Below.drew ?_)))
              (first | (go_at_call 42; refine (kx.out _).mono ?_; rintro e w3 ⟨rfl, hb5⟩; replace hG : Hid (Below wr.heap.size wr w3) := below_on (by repeat (first | with_reducible exact hG.out | with_reducible refine Below.drew ?_)) hb5; clear hb5))
            all_goals
              have hb6 := hG
              go_wp2_with fail
              go_ret
              exact ⟨ret_int hR2.out, below_on hb0.out (below_on hB.out hb6.out)⟩
        · have hv2 : (v == a) = false := by simp [hva]
          have hn2 := Lib.hid (hnext hva)
          replace hva := Lib.hid hva
          replace hfind := Lib.hid hfind
          replace hnext := Lib.hid hnext
          go_wp2_with fail
          go_roundw
          case rel => exact ⟨k + 1, by omega, by go_num, hn2.out, hB.out⟩
          case measure => simp [intOf]; omega
      · obtain rfl : k = Q := by omega
        have hR2 : Hid (Z = R) := by
          have h1 := hR.out
          rw [find_not (fun j hj => hall.out j (by rw [← hQ.out]; exact hj))] at h1
          exact h1
        obtain ⟨b0, b1⟩ := kb.out wr hB.out
        clear hW0
        go_wp2_with (go_at_call 35; refine (kbt.out _ hB.out).mono ?_; rintro e w3 ⟨rfl, hb5⟩)
        go_ret
        exact ⟨ret_int hR2.out, below_on hb0.out (below_on hB.out hb5)⟩
end Go.Proofs.YtlhfdedjboanfaaDoor
namespace Go.Proofs.YtlhfdedjboanfaaDoor
open Go.RowKit Go.Shelf Go.At Go.Sv
attribute [local go_sem] Oper.semAt_some

theorem info_rsol : (Tryd.prog.info? 41).map (fun i => (i.zero, i.size, i.bytes)) = some (some (.agg #[.int .i64 0, .int .i64 0]), 2, 16) := by kernel_rfl
/-- a point put in -/
theorem cells_put (c : List Pr) (x : Nat → Nat) {b : Nat} (y : Nat) (hb : b < (varsL c).length) : (cellsP (solL c x)).set (b * 2 + 1) (.int .i64 (y : Nat)) = cellsP (solL c (upd x b y)) := by
  refine List.ext_getElem? fun j => ?_
  rw [List.getElem?_set]
  have hl : (cellsP (solL c x)).length = (varsL c).length * 2 := by rw [cellsP_len, sol_len]
  by_cases hj : j < (varsL c).length * 2
  · obtain ⟨e0, e1⟩ := cellsP_get (solL c x) (j / 2) (by rw [sol_len]; omega)
    obtain ⟨f0, f1⟩ := cellsP_get (solL c (upd x b y)) (j / 2) (by rw [sol_len]; omega)
    rw [sol_get _ _ (by omega)] at e0 e1 f0 f1
    rcases (show j % 2 = 0 ∨ j % 2 = 1 by omega) with h | h
    · rw [show j / 2 * 2 = j by omega] at e0 f0
      rw [if_neg (by omega), e0, f0]
    · rw [show j / 2 * 2 + 1 = j by omega] at e1 f1
      rw [f1]
      by_cases hjb : j / 2 = b
      · rw [if_pos (by omega), if_pos (by rw [hl]; omega), hjb, upd_same]
      · rw [if_neg (by omega), e1, upd_other _ _ hjb]
  · rw [if_neg (by omega), List.getElem?_eq_none (by rw [hl]; omega), List.getElem?_eq_none (by rw [cellsP_len, sol_len]; omega)]
theorem sol_prs {W : World} {base n c : Nat} {ty : TypeId} {A : Option Addr} {l : List Pr} {x : Nat → Nat} (h : W.ownsRow base ty 2 (.slice A n c) n (cellsP (solL l x))) (hn : (varsL l).length = n) : Prs W A (solL l x) := by
  subst hn
  rw [← sol_len l x] at h
  obtain ⟨A', c', e, hP, -⟩ := prs_own h
  cases e
  exact hP

set_option maxRecDepth 100000 in
set_option maxHeartbeats 4000000 in
theorem refSolves_any (A B : Option Addr) (ns : List ByteArray) (us : List Nat) (c d : Nat) (C : Option Addr) (l : List Pr) (cc : Nat) (D : Option Addr) (s : List Pr) (cd : Nat) (w : World) (hE : L.Env w) (hL : L.LatAt w A B c ns us)
    (hP : Prs w C l) (h6 : ∀ p ∈ l, I64 p.1 ∧ I64 p.2) (hl : l.length ≤ 1048576) (hS : Prs w D s) (hls : s.length ≤ 8796093022208) :
    Calls Tryd.prog 20 #[.agg #[.slice A ns.length c, .slice B us.length d], .slice C l.length cc, .slice D s.length cd] w fun e w' => e = .returned (.bool (solvesT ns us l s)) ∧ Below w.heap.size w w' := by
  have hb0 := later_alloc w (.cells #[.slice A ns.length c, .slice B us.length d] 30)
  have hx0 := World.alloc_heap_new w (.cells #[.slice A ns.length c, .slice B us.length d] 30)
  obtain ⟨W0, hW0⟩ : ∃ W, w.alloc (.cells #[.slice A ns.length c, .slice B us.length d] 30) = W := ⟨_, rfl⟩
  rw [hW0] at hb0 hx0
  have z1 : W0.heap.size = w.heap.size + 1 := by rw [← hW0, World.size_alloc]
  have b0 : W0.cell? ⟨w.heap.size, 0, none⟩ = some (.slice A ns.length c) := cell_of_row _ _ 0 _ _ _ hx0
  have b1 : W0.cell? ⟨w.heap.size, 1, none⟩ = some (.slice B us.length d) := cell_of_row _ _ 1 _ _ _ hx0
  have kb := Lib.hid (fun (W : World) (h : Below W0.heap.size W0 W) => And.intro ((h.cell (p := ⟨w.heap.size, 0, none⟩) (by show w.heap.size < _; omega)).trans b0) ((h.cell (p := ⟨w.heap.size, 1, none⟩) (by show w.heap.size < _; omega)).trans b1))
  have kK := Lib.hid (refKnown_any A B ns us c d C l cc W0 (hE.later hb0) (hL.later hb0) (hP.later hb0) h6 hl)
  have kpt := Lib.hid (fun (p : Int) (W : World) => refpoint_any A B ns.length us.length c d p W)
  have kV := Lib.hid (fun (W : World) (h : Below W0.heap.size W0 W) (a : Int) (ha : I64 a) => refValue_any A B ns us c d D s cd a ha W ((hE.later hb0).later h) ((hL.later hb0).later h) ((hS.later hb0).later h) hls)
  have kL := Lib.hid (fun (W : World) (h : Below W0.heap.size W0 W) (a b : Int) => L.refleq_any A B us ns.length c d a b W ((hL.later hb0).later h).words hL.w64 hL.ulen)
  have kP := Lib.hid (fun (W : World) (h : Below W0.heap.size W0 W) => (hP.later hb0).later h)
  have kS := Lib.hid (fun (W : World) (h : Below W0.heap.size W0 W) => (hS.later hb0).later h)
  replace hb0 := Lib.hid hb0
  replace hx0 := Lib.hid hx0
  replace hE := Lib.hid hE
  replace hL := Lib.hid hL
  replace hP := Lib.hid hP
  replace h6 := Lib.hid h6
  replace hS := Lib.hid hS
  replace z1 := Lib.hid z1
  obtain ⟨N, hN⟩ : ∃ N, ns.length = N := ⟨_, rfl⟩
  obtain ⟨U, hU⟩ : ∃ U, us.length = U := ⟨_, rfl⟩
  obtain ⟨Q, hQ⟩ : ∃ Q, l.length = Q := ⟨_, rfl⟩
  obtain ⟨X, hX⟩ : ∃ X, s.length = X := ⟨_, rfl⟩
  obtain ⟨R, hR⟩ : ∃ R, solvesT ns us l s = R := ⟨_, rfl⟩
  rw [hN, hU] at kb hW0 kpt kL
  rw [hN, hU, hQ] at kK
  rw [hN, hU, hX] at kV
  rw [hN] at b0
  rw [hU] at b1
  rw [hN, hU, hQ, hX, hR]
  rw [hQ] at hl
  rw [hX] at hls
  unfold solvesT at hR
  rw [hN] at hR
  replace hN := Lib.hid hN
  replace hU := Lib.hid hU
  replace hQ := Lib.hid hQ
  replace hX := Lib.hid hX
  cases hk : knownT ns us l with
  | false =>
    rw [hk] at kK hR
    have hR2 : Hid (R = false) := by show R = false; rw [← hR]; rfl
    replace hk := Lib.hid hk
    replace hR := Lib.hid hR
    go_enter Tryd.func20, Tryd.ntmps20
    go_wp2_with (go_at_call 16; refine kK.out.mono ?_; rintro e w' ⟨rfl, hb2⟩)
    go_ret
    exact ⟨ret_bool hR2.out.symm, below_on hb0.out hb2⟩
  | true =>
    rw [hk] at kK hR
    rw [Bool.true_and] at hR
    replace hk := Lib.hid hk
    replace hR := Lib.hid hR
    go_enter Tryd.func20, Tryd.ntmps20
    go_wp2_with (go_at_call 16; refine kK.out.mono ?_; rintro e w1 ⟨rfl, hb2⟩)
    have hB1 := Lib.hid hb2
    clear hb2 kK b0 b1
    go_loopw [7] (fun i W => ∃ k : Nat, k ≤ X ∧ i = .int .i64 k ∧ Hid ((s.take k).all (fun x => pnt N x.2) = true) ∧ Hid (Below W0.heap.size W0 W)) (fun i _ => X - (intOf i).toNat)
    case atStart => exact ⟨0, Nat.zero_le _, rfl, rfl, hB1.out⟩
    case round =>
      obtain ⟨k, hk9, rfl, hall, hB⟩ := hrel
      by_cases hlt : k < X
      · have hkl : k < s.length := by rw [hX.out]; exact hlt
        obtain ⟨b, off, rfl, hbk, hc⟩ := (kS.out wr hB.out) (by intro e; subst e; simp at hkl)
        obtain ⟨-, c1⟩ := hc k hkl
        clear hc hW0
        have ht := all_take s (0, 0) (fun x => pnt N x.2) k hkl
        have hno := fun h => all_no s (0, 0) (fun x => pnt N x.2) k hkl h
        generalize s.getD k (0, 0) = x at c1 ht hno
        obtain ⟨x0, p⟩ := x
        dsimp only at c1 ht hno
        obtain ⟨f, hf⟩ : ∃ f, pnt N p = f := ⟨_, rfl⟩
        have kx := Lib.hid (fun (W : World) => kpt.out p W)
        rw [hf] at kx ht hno
        replace hf := Lib.hid hf
        replace ht := Lib.hid ht
        replace hno := Lib.hid hno
        have hkeep : Hid (∀ W : World, Below wr.heap.size wr W → (W.cell? ⟨w.heap.size, 0, none⟩ = some (.slice A N c) ∧ W.cell? ⟨w.heap.size, 1, none⟩ = some (.slice B U d)) ∧ W.cell? ⟨b, off + k * 2 + 1, none⟩ = some (.int .i64 p)) := fun W h => ⟨kb.out W (below_on hB.out h), (h.cell (p := ⟨b, off + k * 2 + 1, none⟩) hbk).trans c1⟩
        have hG : Hid (Below wr.heap.size wr wr) := Below.refl _ _
        have hji : ((k : Nat) : Int) < ((X : Nat) : Int) := by omega
        have hjd : decide (((k : Nat) : Int) < ((X : Nat) : Int)) = true := decide_eq_true hji
        clear c1
        go_wp2_with fail
        go_region_held3 (fun W => (W.cell? ⟨w.heap.size, 0, none⟩ = some (.slice A N c) ∧ W.cell? ⟨w.heap.size, 1, none⟩ = some (.slice B U d)) ∧ W.cell? ⟨b, off + k * 2 + 1, none⟩ = some (.int .i64 p)) (exact hkeep.out _ (by repeat (first | with_reducible exact hG.out | with_reducible refine Below.drew ?_)))
          (first | (go_at_call 42; refine (kx.out _).mono ?_; rintro e w3 ⟨rfl, hb5⟩; replace hG : Hid (Below wr.heap.size wr w3) := below_on (by repeat (first | with_reducible exact hG.out | with_reducible refine Below.drew ?_)) hb5; clear hb5))
        all_goals
          have hB3 : Hid (Below W0.heap.size W0 w3) := below_on hB.out hG.out
          cases f with
          | false =>
            have hR2 : Hid (R = false) := by show R = false; rw [← hR.out, hno.out rfl]; rfl
            go_wp2_with fail
            go_ret
            exact ⟨ret_bool hR2.out.symm, below_on hb0.out hB3.out⟩
          | true =>
            go_wp2_with fail
            go_roundw
            case rel => exact ⟨k + 1, by omega, by go_num, by show _ = _; rw [ht.out, hall.out]; rfl, hB3.out⟩
            case measure => simp [intOf]; omega
      · obtain rfl : k = X := by omega
        have hsa : Hid (s.all (fun x => pnt N x.2) = true) := by
          have h1 := hall.out
          rw [List.take_of_length_le (by rw [hX.out]; exact Nat.le_refl _)] at h1
          exact h1
        have hBs := hB
        clear hW0
        go_wp2_with fail
        go_loopw [8] (fun i W => ∃ j : Nat, j ≤ Q ∧ i = .int .i64 j ∧ Hid ((l.take j).all (holdsT ns us s) = true) ∧ Hid (Below W0.heap.size W0 W)) (fun i _ => Q - (intOf i).toNat)
        case atStart => exact ⟨0, Nat.zero_le _, rfl, rfl, hB.out⟩
        case round =>
          clear hB hBs hall
          obtain ⟨j, hj9, rfl, hall, hB⟩ := hrel
          by_cases hlt2 : j < Q
          · have hjl : j < l.length := by rw [hQ.out]; exact hlt2
            obtain ⟨b, off, rfl, hbk, hc⟩ := (kP.out wr hB.out) (by intro e; subst e; simp at hjl)
            obtain ⟨c0, c1⟩ := hc j hjl
            clear hc
            have ht := all_take l (0, 0) (holdsT ns us s) j hjl
            have hno := fun h => all_no l (0, 0) (holdsT ns us s) j hjl h
            have hmem : l.getD j (0, 0) ∈ l := by rw [List.getD_eq_getElem?_getD, List.getElem?_eq_getElem hjl]; exact List.getElem_mem _
            have h6k := h6.out _ hmem
            generalize l.getD j (0, 0) = p at c0 c1 ht hno h6k
            obtain ⟨x, y⟩ := p
            dsimp only at c0 c1 h6k
            have kxy := Lib.hid (fun (a : Int) (ha : a = x ∨ a = y) (W : World) (h : Below W0.heap.size W0 W) => kV.out W h a (by rcases ha with rfl | rfl; exact h6k.1; exact h6k.2))
            have hxy : Hid (holdsT ns us s (x, y) = L.leqB N us (valueT ns us s x) (valueT ns us s y)) := by show _ = _; rw [← hN.out]; rfl
            generalize valueT ns us s = g at kxy hxy
            obtain ⟨f, hf⟩ : ∃ f, L.leqB N us (g x) (g y) = f := ⟨_, rfl⟩
            have kLx := Lib.hid (fun (W : World) (h : Below W0.heap.size W0 W) => kL.out W h (g x) (g y))
            rw [hf] at kLx hxy
            replace hf := Lib.hid hf
            have ht := Lib.hid ht
            have hno := Lib.hid hno
            have hkeep : Hid (∀ W : World, Below wr.heap.size wr W → (W.cell? ⟨w.heap.size, 0, none⟩ = some (.slice A N c) ∧ W.cell? ⟨w.heap.size, 1, none⟩ = some (.slice B U d)) ∧ W.cell? ⟨b, off + j * 2, none⟩ = some (.int .i64 x) ∧ W.cell? ⟨b, off + j * 2 + 1, none⟩ = some (.int .i64 y)) := fun W h =>
              ⟨kb.out W (below_on hB.out h), (h.cell (p := ⟨b, off + j * 2, none⟩) hbk).trans c0, (h.cell (p := ⟨b, off + j * 2 + 1, none⟩) hbk).trans c1⟩
            have hG : Hid (Below wr.heap.size wr wr.drew) := (Below.refl _ _).drew
            have hji : ((j : Nat) : Int) < ((Q : Nat) : Int) := by omega
            have hjd : decide (((j : Nat) : Int) < ((Q : Nat) : Int)) = true := decide_eq_true hji
            clear c0 c1 hmem h6k
            go_wp2_with fail
            go_region_held3 (fun W => (W.cell? ⟨w.heap.size, 0, none⟩ = some (.slice A N c) ∧ W.cell? ⟨w.heap.size, 1, none⟩ = some (.slice B U d)) ∧ W.cell? ⟨b, off + j * 2, none⟩ = some (.int .i64 x) ∧ W.cell? ⟨b, off + j * 2 + 1, none⟩ = some (.int .i64 y))
              (exact hkeep.out _ hG.out)
              (first
                | (go_at_call 18; refine (kxy.out _ (by first | exact .inl rfl | exact .inr rfl) _ (below_on hB.out hG.out)).mono ?_; rintro e w9 ⟨rfl, hb6⟩; replace hG : Hid (Below wr.heap.size wr w9) := below_on hG.out hb6; clear hb6)
                | (go_at_call 36; refine (kLx.out _ (below_on hB.out hG.out)).mono ?_; rintro e w9 ⟨rfl, hb6⟩; replace hG : Hid (Below wr.heap.size wr w9) := below_on hG.out hb6; clear hb6))
            all_goals
              cases f with
              | true =>
                go_wp2_with fail
                go_roundw
                case rel => exact ⟨j + 1, by omega, by go_num, by show _ = _; rw [ht.out, hall.out, hxy.out]; rfl, below_on hB.out hG.out⟩
                case measure => simp [intOf]; omega
              | false =>
                have hR2 : Hid (R = false) := by
                  show R = false
                  rw [← hR.out, hno.out hxy.out, Bool.and_false]
                go_wp2_with fail
                go_ret
                exact ⟨ret_bool hR2.out.symm, below_on hb0.out (below_on hB.out hG.out)⟩
          · obtain rfl : j = Q := by omega
            have hR2 : Hid (R = true) := by
              show R = true
              have h1 := hall.out
              rw [List.take_of_length_le (by rw [hQ.out]; exact Nat.le_refl _)] at h1
              rw [← hR.out, hsa.out, h1]; rfl
            go_wp2_with fail
            go_ret
            exact ⟨ret_bool hR2.out.symm, below_on hb0.out hB.out⟩
end Go.Proofs.YtlhfdedjboanfaaDoor
namespace Go.Proofs.YtlhfdedjboanfaaDoor
open Go.RowKit Go.Shelf Go.At Go.Sv
attribute [local go_sem] Oper.semAt_some

theorem rows_lt {us : List Nat} (h : L.W64 us) (i : Nat) : Lt.row us i < 2 ^ 64 := h i
set_option maxRecDepth 100000 in
set_option maxHeartbeats 8000000 in
theorem refLeast_any (A B : Option Addr) (ns : List ByteArray) (us : List Nat) (c d : Nat) (C : Option Addr) (l : List Pr) (cc : Nat) (w : World) (hE : L.Env w) (hL : L.LatAt w A B c ns us)
    (hP : Prs w C l) (h6 : ∀ p ∈ l, I64 p.1 ∧ I64 p.2) (hl : l.length ≤ 1048576) :
    Calls Tryd.prog 13 #[.agg #[.slice A ns.length c, .slice B us.length d], .slice C l.length cc] w fun e w' => (∃ A' c' r ok, e = .returned (.tuple #[.slice A' r.length c', .bool ok]) ∧ Prs w' A' r ∧ LeastT ns us l r ok) ∧ Below w.heap.size w w' := by
  have hb0 := later_alloc w (.cells #[.slice A ns.length c, .slice B us.length d] 30)
  have hx0 := World.alloc_heap_new w (.cells #[.slice A ns.length c, .slice B us.length d] 30)
  obtain ⟨W0, hW0⟩ : ∃ W, w.alloc (.cells #[.slice A ns.length c, .slice B us.length d] 30) = W := ⟨_, rfl⟩
  rw [hW0] at hb0 hx0
  have z1 : W0.heap.size = w.heap.size + 1 := by rw [← hW0, World.size_alloc]
  have b0 : W0.cell? ⟨w.heap.size, 0, none⟩ = some (.slice A ns.length c) := cell_of_row _ _ 0 _ _ _ hx0
  have b1 : W0.cell? ⟨w.heap.size, 1, none⟩ = some (.slice B us.length d) := cell_of_row _ _ 1 _ _ _ hx0
  have kb := Lib.hid (fun (W : World) (h : Below W0.heap.size W0 W) => And.intro ((h.cell (p := ⟨w.heap.size, 0, none⟩) (by show w.heap.size < _; omega)).trans b0) ((h.cell (p := ⟨w.heap.size, 1, none⟩) (by show w.heap.size < _; omega)).trans b1))
  have kK := Lib.hid (refKnown_any A B ns us c d C l cc W0 (hE.later hb0) (hL.later hb0) (hP.later hb0) h6 hl)
  have kVs := Lib.hid (fun (W : World) (h : Below W0.heap.size W0 W) => refVars_any C l cc W ((hP.later hb0).later h) h6 hl)
  have kBt := Lib.hid (fun (W : World) (h : Below W0.heap.size W0 W) => L.refBottom_any A B ns us c d W ((hE.later hb0).later h) ((hL.later hb0).later h))
  have kV := Lib.hid (fun (W : World) (h : Below W0.heap.size W0 W) (D : Option Addr) (s : List Pr) (cd : Nat) (hS : Prs W D s) (hls : s.length ≤ 8796093022208) (a : Int) (ha : I64 a) => refValue_any A B ns us c d D s cd a ha W ((hE.later hb0).later h) ((hL.later hb0).later h) hS hls)
  have kL := Lib.hid (fun (W : World) (h : Below W0.heap.size W0 W) (a b : Int) => L.refleq_any A B us ns.length c d a b W ((hL.later hb0).later h).words hL.w64 hL.ulen)
  have kJ := Lib.hid (fun (W : World) (h : Below W0.heap.size W0 W) (a b : Int) => L.refJoin_any A B ns us c d a b W ((hE.later hb0).later h) ((hL.later hb0).later h))
  have kP := Lib.hid (fun (W : World) (h : Below W0.heap.size W0 W) => (hP.later hb0).later h)
  have h64 := hL.w64
  replace hb0 := Lib.hid hb0
  replace hx0 := Lib.hid hx0
  replace hE := Lib.hid hE
  replace hL := Lib.hid hL
  replace hP := Lib.hid hP
  replace h6 := Lib.hid h6
  replace z1 := Lib.hid z1
  obtain ⟨N, hN⟩ : ∃ N, ns.length = N := ⟨_, rfl⟩
  obtain ⟨U, hU⟩ : ∃ U, us.length = U := ⟨_, rfl⟩
  obtain ⟨Q, hQ⟩ : ∃ Q, l.length = Q := ⟨_, rfl⟩
  rw [hN, hU] at kb hW0 kL kBt kV kJ
  rw [hN, hU, hQ] at kK
  rw [hQ] at kVs
  rw [hN] at b0
  rw [hU] at b1
  rw [hN, hU, hQ]
  rw [hQ] at hl
  replace hN := Lib.hid hN
  replace hU := Lib.hid hU
  replace hQ := Lib.hid hQ
  cases hk : knownT ns us l with
  | false =>
    rw [hk] at kK
    have hno := Lib.hid (least_none hk)
    replace hk := Lib.hid hk
    replace h64 := Lib.hid h64
    go_enter Tryd.func13, Tryd.ntmps13
    go_wp2_with (go_at_call 16; refine kK.out.mono ?_; rintro e w' ⟨rfl, hb2⟩)
    go_ret2
    exact ⟨⟨none, 0, [], false, rfl, Prs.nil _ _, hno.out⟩, below_on hb0.out hb2⟩
  | true =>
    rw [hk] at kK
    obtain ⟨J, M, zz, tt, hT⟩ := L.told_of h64 (known_parts hk).1
    rw [hT.bottom] at kBt
    have hz64 : zz < 64 := by
      have h1 := told_z hT
      have h2 := hT.lat.ord.l64
      omega
    obtain ⟨vs, hvs⟩ : ∃ vs, varsL l = vs := ⟨_, rfl⟩
    obtain ⟨n, hn⟩ : ∃ n, vs.length = n := ⟨_, rfl⟩
    rw [hvs, hn] at kVs
    have hvn : (varsL l).length = n := by rw [hvs, hn]
    have hnl : n ≤ 2097152 := by
      have h1 := ord_len (lt := ltI) ((atomsL l).flatMap pickV)
      have h2 := pick_len pickV_len (atomsL l)
      rw [atoms_len, hQ.out] at h2
      rw [← hvn]
      unfold varsL
      omega
    have hbot := Lib.hid (lw_bottom (c := l) hT)
    have hstep := Lib.hid (fun (x : Nat → Nat) (h : Lw ns us l x) (p : Pr) (hp : p ∈ l) (hn : holdsT ns us (solL l x) p = false) (h2 : 0 ≤ p.2) => lw_step hT hk h hp hn h2)
    have hdone := Lib.hid (fun (x : Nat → Nat) (h : Lw ns us l x) (hh : ∀ p ∈ l, holdsT ns us (solL l x) p = true) => lw_done hT hk h hh)
    have hstop := Lib.hid (fun (x : Nat → Nat) (h : Lw ns us l x) (p : Pr) (hp : p ∈ l) (hn : holdsT ns us (solL l x) p = false) (h2 : p.2 < 0) => lw_stop hT hk h hp hn h2)
    have hinj := Lib.hid (fun (i j : Nat) (hi : i < (varsL l).length) (hj : j < (varsL l).length) (e : (varsL l).getD i 0 = (varsL l).getD j 0) => vars_inj hi hj e)
    rw [hvs, hn] at hinj
    have hget := Lib.hid (fun (x : Nat → Nat) (k : Nat) (hk : k < (varsL l).length) => sol_get l x hk)
    rw [hvs, hn] at hget
    have hput := Lib.hid (fun (x : Nat → Nat) (b y : Nat) (hb : b < (varsL l).length) => cells_put l x y hb)
    rw [hvs, hn] at hput
    have hsp := Lib.hid (fun (W : World) (cA : Nat) (D : Option Addr) (x : Nat → Nat) (base : Nat) (h : W.ownsRow base 41 2 (.slice D n cA) n (cellsP (solL l x))) => sol_prs h hvn)
    have hslen := Lib.hid (fun (x : Nat → Nat) => (sol_len l x).trans hvn)
    obtain ⟨i0, hi, hi2⟩ := Option.map_eq_some_iff.1 info_rsol
    obtain ⟨hz0, hz1, hz2⟩ : i0.zero = some (.agg #[.int .i64 0, .int .i64 0]) ∧ i0.size = 2 ∧ i0.bytes = 16 := by
      injection hi2 with h1 h2; injection h2 with h2 h3; exact ⟨h1, h2, h3⟩
    clear hi2
    replace hi := Lib.hid hi
    replace hz0 := Lib.hid hz0
    replace hz1 := Lib.hid hz1
    replace hz2 := Lib.hid hz2
    replace hk := Lib.hid hk
    replace hT := Lib.hid hT
    replace h64 := Lib.hid h64
    replace hvs := Lib.hid hvs
    replace hn := Lib.hid hn
    replace hvn := Lib.hid hvn
    go_enter Tryd.func13, Tryd.ntmps13
    go_wp2_with (first
      | (go_at_call 16; refine kK.out.mono ?_; rintro e w1 ⟨rfl, hb2⟩)
      | (go_at_call 34; refine (kVs.out _ hb2).mono ?_; rintro e w2 ⟨⟨V, cv, rfl, hV⟩, hb3⟩; have hB2 := Lib.hid (below_on hb2 hb3); obtain ⟨b0, b1⟩ := kb.out _ hB2.out; replace hV := Lib.hid hV; clear hb2 hb3)
      | (go_at_call 35; refine (kBt.out _ hB2.out).mono ?_; rintro e w3 ⟨rfl, hb4⟩))
    have hB3 := Lib.hid (below_on hB2.out hb4)
    have hV3 := Lib.hid (hV.out.later hb4)
    clear hb4 hV b0 b1 kK kVs kBt hW0
    go_loopw [7, 9] (fun v i W => ∃ k : Nat, k ≤ n ∧ i = .int .i64 k ∧ Hid (W.ownsRow w3.heap.size 41 2 v k (cellsP ((solL l fun _ => zz).take k))) ∧ Hid (Below w3.heap.size w3 W)) (fun _ i _ => n - (intOf i).toNat)
    case atStart => exact ⟨0, Nat.zero_le _, rfl, ⟨rfl, .inl ⟨rfl, rfl⟩⟩, Below.refl _ _⟩
    case round =>
      obtain ⟨k, hk9, rfl, hown, hB⟩ := hrel
      by_cases hlt : k < n
      · have hkl : k < vs.length := by rw [hn.out]; exact hlt
        obtain ⟨b, off, rfl, hbk, hc⟩ := (hV3.out.later hB.out) (by intro e; subst e; simp at hkl)
        have c0 := hc k hkl
        clear hc
        have htk2 : Hid (cellsP ((solL l fun _ => zz).take (k + 1)) = cellsP ((solL l fun _ => zz).take k) ++ [.int .i64 (vs.getD k 0), .int .i64 (zz : Nat)]) := by
          show _ = _
          rw [take_snoc _ (0, 0) k (by rw [hslen.out]; exact hlt), cellsP_append, hget.out _ k hlt]; rfl
        generalize vs.getD k 0 = v0 at c0 htk2
        have hji : ((k : Nat) : Int) < ((n : Nat) : Int) := by omega
        have hjd : decide (((k : Nat) : Int) < ((n : Nat) : Int)) = true := decide_eq_true hji
        have hbA : Hid (Below w3.heap.size w3 (wr.alloc (.cells #[.int .i64 v0, .int .i64 (zz : Nat)] 41))) := below_al hB.out _
        have ho9 := Lib.hid (own_later hown.out (later_alloc wr (.cells #[.int .i64 v0, .int .i64 (zz : Nat)] 41)))
        have hbs : Hid (w3.heap.size ≤ (wr.alloc (.cells #[.int .i64 v0, .int .i64 (zz : Nat)] 41)).heap.size) := hbA.out.size
        go_wp2_with (at_builtin; refine wpList_append_own _ rfl _ _ 36 rfl w3.heap.size 41 i0 (.agg #[.int .i64 0, .int .i64 0]) 2 16 Tryd.underlying36 hi.out hz0.out hz1.out hz2.out rfl (by decide) _ _ _ rfl ho9.out ⟨wr.heap.size, 0, none⟩ 1 1 [.int .i64 v0, .int .i64 (zz : Nat)] rfl rfl (news_pair wr v0 (zz : Nat) _) (news_pair1 v0 (zz : Nat)) (by unfold maxLen; omega) (by omega) hbs.out ?_)
        intro v2 w8 ho2 hg2 _
        have ho3 : Hid (w8.ownsRow w3.heap.size 41 2 v2 (k + 1) (cellsP ((solL l fun _ => zz).take (k + 1)))) := by
          show w8.ownsRow _ _ _ _ _ _
          rw [htk2.out]
          exact ho2
        have hb8 : Hid (Below w3.heap.size w3 w8) := hbA.out.grown hg2 hbA.out.size (own_block ho9.out)
        clear ho2 hg2
        go_wp2_with fail
        go_roundw
        case rel => exact ⟨k + 1, by omega, by go_num, ho3.out, hb8.out⟩
        case measure => simp [intOf]; omega
      · obtain rfl : k = n := by omega
        have ho := hown.out
        rw [List.take_of_length_le (by rw [hslen.out]; exact Nat.le_refl _)] at ho
        obtain ⟨A7, c7, e7, -, -⟩ := prs_own (l := solL l fun _ => zz) (by rw [hslen.out]; exact ho)
        rw [hslen.out] at e7
        subst e7
        have hle7 : k ≤ c7 := (own_ok ho).1
        have hmx7 : c7 ≤ 9223372036854775807 := (own_ok ho).2.1
        obtain ⟨x0, hx0e⟩ : ∃ x : Nat → Nat, (fun _ => zz) = x := ⟨_, rfl⟩
        rw [hx0e] at ho hbot
        have hO0 := Lib.hid ho
        have hBs := hB
        replace hx0e := Lib.hid hx0e
        clear hown ho
        go_wp2_with fail
        go_loopg [10] (total (fun i => Lt.row us (x0 i)) k * 2 + 1) (fun g p W => ∃ (x : Nat → Nat) (ag : Bool), p = .bool ag ∧ Hid (Lw ns us l x) ∧ Hid (W.ownsRow w3.heap.size 41 2 (.slice A7 k c7) k (cellsP (solL l x))) ∧ Hid (total (fun i => Lt.row us (x i)) k * 2 + (if ag = true then 1 else 0) ≤ g) ∧ Hid (ag = false → ∀ p ∈ l, holdsT ns us (solL l x) p = true) ∧ Hid (Below w3.heap.size w3 W))
        case atStart => exact ⟨x0, true, rfl, hbot.out, hO0.out, Nat.le_refl _, (fun h => by cases h), hBs.out⟩
        case round =>
          clear hB hBs hO0
          obtain ⟨x, ag, rfl, hLw, hox, hg, hdn, hBx⟩ := hrel
          cases ag with
          | false =>
            have hret : Hid (Ending.returned (.tuple #[.slice A7 k c7, .bool true]) = Ending.returned (.tuple #[.slice A7 (solL l x).length c7, .bool true])) := by show _ = _; rw [hslen.out]
            have hpr := Lib.hid (hsp.out _ c7 A7 x _ hox.out)
            go_wp2_with fail
            go_ret2
            exact ⟨⟨A7, c7, solL l x, .inr ⟨hret.out, hpr.out, hdone.out x hLw.out (hdn.out (by first | rfl | trivial))⟩⟩, below_on hb0.out (below_on hB3.out hBx.out)⟩
          | true =>
            cases gk with
            | zero => exfalso; have h1 := hg.out; rw [if_pos rfl] at h1; omega
            | succ g =>
              have hg1 : Hid (total (fun i => Lt.row us (x i)) k * 2 ≤ g) := by have h1 := hg.out; rw [if_pos rfl] at h1; show _ ≤ _; omega
              go_wp2_with fail
              go_loopg [10, 11] Q (fun g2 p i W => ∃ (x2 : Nat → Nat) (ag2 : Bool) (j : Nat), p = .bool ag2 ∧ i = .int .i64 j ∧ j ≤ Q ∧ Hid (Q - j ≤ g2) ∧ Hid (Lw ns us l x2) ∧ Hid (W.ownsRow w3.heap.size 41 2 (.slice A7 k c7) k (cellsP (solL l x2))) ∧ Hid (total (fun i => Lt.row us (x2 i)) k * 2 + (if ag2 = true then 1 else 0) ≤ g) ∧ Hid (ag2 = false → ∀ i, i < j → holdsT ns us (solL l x2) (l.getD i (0, 0)) = true) ∧ Hid (Below w3.heap.size w3 W))
              case atStart => exact ⟨x, false, 0, rfl, rfl, Nat.zero_le _, by show _ ≤ _; omega, hLw.out, hox.out, by show _ ≤ _; rw [if_neg (by decide)]; exact hg1.out, (fun _ i hi => absurd hi (Nat.not_lt_zero _)), hBx.out⟩
              case round =>
                clear hLw hox hg hdn hBx hg1
                obtain ⟨x2, ag2, j, rfl, rfl, hj9, hg2, hLw2, hox2, htot, hdn2, hB2⟩ := hrel
                rename World => wy
                by_cases hlt : j < Q
                · have hjl : j < l.length := by rw [hQ.out]; exact hlt
                  have hOy := Lib.hid (below_on hB3.out hB2.out)
                  obtain ⟨b, off, rfl, hbk, hc⟩ := (kP.out wy hOy.out) (by intro e; subst e; simp at hjl)
                  obtain ⟨c0, c1⟩ := hc j hjl
                  clear hc
                  have hmem : l.getD j (0, 0) ∈ l := by rw [List.getD_eq_getElem?_getD, List.getElem?_eq_getElem hjl]; exact List.getElem_mem _
                  have h6k := h6.out _ hmem
                  have hnext := fun (e : holdsT ns us (solL l x2) (l.getD j (0, 0)) = true) => (fun h i hi => by
                    by_cases hij : i < j
                    · exact hdn2.out h i hij
                    · obtain rfl : i = j := by omega
                      exact e : ag2 = false → ∀ i, i < j + 1 → holdsT ns us (solL l x2) (l.getD i (0, 0)) = true)
                  obtain ⟨p, hp⟩ : ∃ p, l.getD j (0, 0) = p := ⟨_, rfl⟩
                  have hnext2 := fun (e : holdsT ns us (solL l x2) p = true) => hnext (by rw [hp]; exact e)
                  rw [hp] at c0 c1 hmem h6k
                  obtain ⟨px, py⟩ := p
                  dsimp only at c0 c1 h6k
                  replace hp := Lib.hid hp
                  have hS2 := Lib.hid (hsp.out wy c7 A7 x2 _ hox2.out)
                  have kVx := Lib.hid (fun (a : Int) (ha : a = px ∨ a = py) (W : World) (h : Below wy.heap.size wy W) => kV.out W (below_on hOy.out h) A7 (solL l x2) c7 (hS2.out.later h) (by rw [hslen.out]; omega) a (by rcases ha with rfl | rfl; exact h6k.1; exact h6k.2))
                  rw [hslen.out] at kVx
                  have hxy : holdsT ns us (solL l x2) (px, py) = L.leqB N us (valueT ns us (solL l x2) px) (valueT ns us (solL l x2) py) := by rw [← hN.out]; rfl
                  have hst2 := hstep.out x2 hLw2.out (px, py) hmem
                  have hsp2 := hstop.out x2 hLw2.out (px, py) hmem
                  dsimp only at hst2 hsp2
                  have kVa := Lib.hid (kVx.out px (.inl rfl))
                  have kVb := Lib.hid (kVx.out py (.inr rfl))
                  generalize valueT ns us (solL l x2) px = va at kVa hxy hst2
                  generalize valueT ns us (solL l x2) py = vb at kVb hxy hst2
                  obtain ⟨f, hf⟩ : ∃ f, L.leqB N us va vb = f := ⟨_, rfl⟩
                  have kLx := Lib.hid (fun (W : World) (h : Below wy.heap.size wy W) => kL.out W (below_on hOy.out h) va vb)
                  have kJx := Lib.hid (fun (W : World) (h : Below wy.heap.size wy W) => kJ.out W (below_on hOy.out h) va vb)
                  rw [hf] at kLx hxy
                  replace hf := Lib.hid hf
                  replace hxy := Lib.hid hxy
                  replace hst2 := Lib.hid hst2
                  replace hsp2 := Lib.hid hsp2
                  replace hnext2 := Lib.hid hnext2
                  have hkeep : Hid (∀ W : World, Below wy.heap.size wy W → (W.cell? ⟨w.heap.size, 0, none⟩ = some (.slice A N c) ∧ W.cell? ⟨w.heap.size, 1, none⟩ = some (.slice B U d)) ∧ W.cell? ⟨b, off + j * 2, none⟩ = some (.int .i64 px) ∧ W.cell? ⟨b, off + j * 2 + 1, none⟩ = some (.int .i64 py)) := fun W h =>
                    ⟨kb.out W (below_on hOy.out h), (h.cell (p := ⟨b, off + j * 2, none⟩) hbk).trans c0, (h.cell (p := ⟨b, off + j * 2 + 1, none⟩) hbk).trans c1⟩
                  have hG : Hid (Below wy.heap.size wy wy) := Below.refl _ _
                  have hji : ((j : Nat) : Int) < ((Q : Nat) : Int) := by omega
                  have hjd : decide (((j : Nat) : Int) < ((Q : Nat) : Int)) = true := decide_eq_true hji
                  clear c0 c1 hmem h6k kVx hnext
                  go_wp2_with fail
                  go_region_held3 (fun W => (W.cell? ⟨w.heap.size, 0, none⟩ = some (.slice A N c) ∧ W.cell? ⟨w.heap.size, 1, none⟩ = some (.slice B U d)) ∧ W.cell? ⟨b, off + j * 2, none⟩ = some (.int .i64 px) ∧ W.cell? ⟨b, off + j * 2 + 1, none⟩ = some (.int .i64 py)) (exact hkeep.out _ (by repeat (first | with_reducible exact hG.out | with_reducible refine Below.drew ?_)))
                    (first | (go_at_call 18; refine (kVa.out _ (by repeat (first | with_reducible exact hG.out | with_reducible refine Below.drew ?_))).mono ?_; rintro e w5 ⟨rfl, hb5⟩; replace hG : Hid (Below wy.heap.size wy w5) := below_on (by repeat (first | with_reducible exact hG.out | with_reducible refine Below.drew ?_)) hb5; clear hb5))
                  go_wp2_with fail
                  go_region_held3 (fun W => (W.cell? ⟨w.heap.size, 0, none⟩ = some (.slice A N c) ∧ W.cell? ⟨w.heap.size, 1, none⟩ = some (.slice B U d)) ∧ W.cell? ⟨b, off + j * 2, none⟩ = some (.int .i64 px) ∧ W.cell? ⟨b, off + j * 2 + 1, none⟩ = some (.int .i64 py)) (exact hkeep.out _ (by repeat (first | with_reducible exact hG.out | with_reducible refine Below.drew ?_)))
                    (first | (go_at_call 18; refine (kVb.out _ (by repeat (first | with_reducible exact hG.out | with_reducible refine Below.drew ?_))).mono ?_; rintro e w6 ⟨rfl, hb6⟩; replace hG : Hid (Below wy.heap.size wy w6) := below_on (by repeat (first | with_reducible exact hG.out | with_reducible refine Below.drew ?_)) hb6; clear hb6))
                  obtain ⟨⟨b0, b1⟩, -, -⟩ := hkeep.out w6 hG.out
                  go_wp2_with fail
                  refine (kLx.out w6 hG.out).mono ?_
                  rintro e w7 ⟨rfl, hb7⟩
                  have hG7 := Lib.hid (below_on hG.out hb7)
                  obtain ⟨-, c0, c1⟩ := hkeep.out w7 hG7.out
                  clear hb7 b0 b1 hG
                  cases f with
                  | true =>
                    go_wp2_with fail
                    cases gk with
                    | zero => exfalso; have h1 := hg2.out; omega
                    | succ g3 =>
                      have hg4 : Hid (Q - (j + 1) ≤ g3) := by have h1 := hg2.out; show _ ≤ _; omega
                      go_roundg g3
                      case measure => omega
                      case rel => exact ⟨x2, ag2, j + 1, rfl, by go_num, by omega, hg4.out, hLw2.out, own_later hox2.out hG7.out, htot.out, hnext2.out hxy.out, below_on hB2.out hG7.out⟩
                  | false =>
                    by_cases hneg : py < 0
                    · have hdn0 : decide (py < 0) = true := decide_eq_true hneg
                      have hLs := Lib.hid (hsp2.out hxy.out hneg)
                      go_wp2_with fail
                      go_ret2
                      exact ⟨⟨none, 0, [], false, rfl, Prs.nil _ _, hLs.out⟩, below_on hb0.out (below_on hOy.out hG7.out)⟩
                    · have hdn0 : decide (py < 0) = false := decide_eq_false hneg
                      obtain ⟨b2, y, hb2, eb2, eJ, hLw3, htl⟩ := hst2.out hxy.out (by omega)
                      rw [hvs.out] at hb2 eb2 htl
                      rw [hn.out] at hb2 htl
                      rw [eJ] at kJx
                      obtain ⟨g7, rfl, hg7, -⟩ := own_cellAt hox2.out (by omega)
                      have hcv : Hid (∀ W : World, Below wy.heap.size wy W → ∀ i, i < k → W.cell? ⟨g7, i * 2, none⟩ = some (.int .i64 (vs.getD i 0))) := fun W h i hi => by
                        obtain ⟨g', e', -, hc'⟩ := own_cellAt (own_later hox2.out h) (by omega)
                        cases e'
                        obtain ⟨e0, -⟩ := cellsP_get (solL l x2) i (by rw [hslen.out]; exact hi)
                        rw [hget.out x2 i hi] at e0
                        exact (hc' _ _ e0).1
                      have hcs : Hid (∀ W : World, Below wy.heap.size wy W → W.cell? ⟨g7, b2 * 2 + 1, none⟩ = some (.int .i64 (x2 b2 : Nat)) ∧ W.frozen? ⟨g7, b2 * 2 + 1, none⟩ = false) := fun W h => by
                        obtain ⟨g', e', -, hc'⟩ := own_cellAt (own_later hox2.out h) (by omega)
                        cases e'
                        obtain ⟨-, e1⟩ := cellsP_get (solL l x2) b2 (by rw [hslen.out]; exact hb2)
                        rw [hget.out x2 b2 hb2] at e1
                        exact hc' _ _ e1
                      have hox3 : Hid (∀ W : World, Below wy.heap.size wy W → (W.setCell ⟨g7, b2 * 2 + 1, none⟩ (.int .i64 (y : Nat))).ownsRow w3.heap.size 41 2 (.slice (some ⟨g7, 0, none⟩) k c7) k (cellsP (solL l (upd x2 b2 y)))) := fun W h => by
                        have h1 := own_setAt (own_later hox2.out h) (b2 * 2 + 1) (.int .i64 (y : Nat))
                        rw [hput.out x2 b2 y hb2] at h1
                        exact h1
                      have hne := Lib.hid (fun (i : Nat) (hi : i < b2) (e : vs.getD i 0 = py) => (by
                        have h1 := hinj.out i b2 (by omega) hb2 (e.trans eb2.symm)
                        omega : False))
                      have htl2 : Hid (total (fun i => Lt.row us (upd x2 b2 y i)) k * 2 + 1 ≤ g) := by
                        have h1 := htot.out
                        show _ ≤ _
                        omega
                      have hLw4 := Lib.hid hLw3
                      have heb := Lib.hid eb2
                      have hlo := Lib.hid hg7
                      clear hLw3 htl eJ eb2 hst2 hsp2 hg7
                      go_wp2_with fail
                      go_loopw [14] (fun i W => ∃ m : Nat, m ≤ b2 ∧ i = .int .i64 m ∧ Hid (Below w7.heap.size w7 W)) (fun i _ => b2 - (intOf i).toNat)
                      case atStart => exact ⟨0, Nat.zero_le _, rfl, Below.refl _ _⟩
                      case round =>
                        clear c0 c1
                        obtain ⟨m, hm, rfl, hB4⟩ := hrel
                        rename World => wz
                        have hGz := Lib.hid (below_on hG7.out hB4.out)
                        have d0 := hcv.out wz hGz.out m (by omega)
                        obtain ⟨-, -, c1⟩ := hkeep.out wz hGz.out
                        have hmk : ((m : Nat) : Int) < ((k : Nat) : Int) := by omega
                        have hmk2 : m < k := by omega
                        by_cases hmb : m < b2
                        · have hv1 : (vs.getD m 0 == py) = false := by rw [beq_eq_false_iff_ne]; exact hne.out m hmb
                          have hv2 : (vs.getD m 0 != py) = true := by show (!(vs.getD m 0 == py)) = true; rw [hv1]; rfl
                          generalize vs.getD m 0 = vm at d0 hv1 hv2
                          go_wp2_with fail
                          go_quiet (fail)
                          all_goals
                            go_wp2_with fail
                            go_roundw
                            case rel => exact ⟨m + 1, by omega, by go_num, belowN hB4.out _⟩
                            case measure => simp [intOf]; omega
                        · obtain rfl : m = b2 := by omega
                          rw [heb.out] at d0
                          have hv1 : (py == py) = true := by simp
                          have hv2 : (py != py) = false := by simp
                          go_wp2_with fail
                          go_quiet (fail)
                          all_goals
                            have hGn : Hid (Below wy.heap.size wy (wz.drewN nq)) := belowN hGz.out _
                            obtain ⟨W5, hW5⟩ : ∃ W, wz.drewN nq = W := ⟨_, rfl⟩
                            rw [hW5] at hGn ⊢
                            clear hW5 d0 c1
                            obtain ⟨⟨b0, b1⟩, -, -⟩ := hkeep.out W5 hGn.out
                            go_wp2_with fail
                            refine (kJx.out W5 hGn.out).mono ?_
                            rintro e w8 ⟨rfl, hb8⟩
                            have hG8 := Lib.hid (below_on hGn.out hb8)
                            obtain ⟨s1, s2⟩ := hcs.out w8 hG8.out
                            have hoF := Lib.hid (hox3.out w8 hG8.out)
                            have hbF : Hid (Below w3.heap.size w3 (w8.setCell ⟨g7, m * 2 + 1, none⟩ (.int .i64 (y : Nat)))) := (below_on hB2.out hG8.out).setCell (p := ⟨g7, m * 2 + 1, none⟩) hlo.out _
                            clear hb8 b0 b1
                            go_wp2_with fail
                            cases gk with
                            | zero => exfalso; have h1 := hg2.out; omega
                            | succ g3 =>
                              have hg4 : Hid (Q - (j + 1) ≤ g3) := by have h1 := hg2.out; show _ ≤ _; omega
                              go_roundg g3
                              case measure => omega
                              case rel => exact ⟨upd x2 m y, true, j + 1, rfl, by go_num, by omega, hg4.out, hLw4.out, hoF.out, htl2.out, (fun h => by cases h), hbF.out⟩
                · obtain rfl : j = Q := by omega
                  have hdn3 : Hid (ag2 = false → ∀ p ∈ l, holdsT ns us (solL l x2) p = true) := fun h p hp => by
                    obtain ⟨i, hi, rfl⟩ := List.getElem_of_mem hp
                    have h1 := hdn2.out h i (by rw [hQ.out] at hi; exact hi)
                    rw [List.getD_eq_getElem?_getD, List.getElem?_eq_getElem hi] at h1
                    exact h1
                  go_wp2_with fail
                  go_roundg g
                  case measure => omega
                  case rel => exact ⟨x2, ag2, rfl, hLw2.out, hox2.out, htot.out, hdn3.out, hB2.out⟩
end Go.Proofs.YtlhfdedjboanfaaDoor
namespace Go.Proofs.YtlhfdedjboanfaaDoor.L
open Go.RowKit Go.Shelf Go.Lt
theorem store_two {W : World} {B : Nat} {a b : Value} (u v : Value) (h0 : W.cell? ⟨B, 0, none⟩ = some a) (h1 : W.cell? ⟨B, 1, none⟩ = some b) :
    ((W.setCell ⟨B, 0, none⟩ u).setCell ⟨B, 1, none⟩ v).cell? ⟨B, 0, none⟩ = some u ∧ ((W.setCell ⟨B, 0, none⟩ u).setCell ⟨B, 1, none⟩ v).cell? ⟨B, 1, none⟩ = some v := by
  have e0 : (W.setCell ⟨B, 0, none⟩ u).cell? ⟨B, 0, none⟩ = some u := World.cell?_setCell_same' _ _ _ (by rw [h0]; rfl)
  have e1 : (W.setCell ⟨B, 0, none⟩ u).cell? ⟨B, 1, none⟩ = some b := (World.cell?_setCell_other W ⟨B, 0, none⟩ ⟨B, 1, none⟩ u (by simp)).trans h1
  exact ⟨(World.cell?_setCell_other _ ⟨B, 1, none⟩ ⟨B, 0, none⟩ v (by simp)).trans e0, World.cell?_setCell_same' _ _ _ (by rw [e1]; rfl)⟩

theorem cell_store {W : World} {C : Nat} {a b u v x : Value} {q : Addr} (h0 : W.cell? ⟨C, 0, none⟩ = some a) (h1 : W.cell? ⟨C, 1, none⟩ = some b) (hx : W.cell? q = some x) (ha : x ≠ a) (hb : x ≠ b) :
    ((W.setCell ⟨C, 0, none⟩ u).setCell ⟨C, 1, none⟩ v).cell? q = some x := by
  have n0 : (⟨C, 0, none⟩ : Addr) ≠ q := by rintro rfl; rw [hx] at h0; exact ha (Option.some.inj h0)
  have n1 : (⟨C, 1, none⟩ : Addr) ≠ q := by rintro rfl; rw [hx] at h1; exact hb (Option.some.inj h1)
  exact (World.cell?_setCell_other _ ⟨C, 1, none⟩ q v n1).trans ((World.cell?_setCell_other _ ⟨C, 0, none⟩ q u n0).trans hx)
theorem Strs.take {W : World} {B : Nat} {A : Option Addr} {ss : List ByteArray} (h : Strs W B A ss) (k : Nat) : Strs W B A (ss.take k) := fun hn => by
  obtain ⟨b, off, hA, hb, hc⟩ := h (by rintro rfl; simp at hn)
  refine ⟨b, off, hA, hb, fun j hj => ?_⟩
  rw [List.length_take] at hj
  have e : Lt.nm (ss.take k) j = Lt.nm ss j := by
    unfold Lt.nm
    rw [List.getD_eq_getElem?_getD, List.getD_eq_getElem?_getD, List.getElem?_take_of_lt (by omega)]
  rw [e]
  exact hc j (by omega)
theorem Words.take {W : World} {B : Nat} {A : Option Addr} {us : List Nat} (h : Words W B A us) (k : Nat) : Words W B A (us.take k) := fun hn => by
  obtain ⟨b, off, hA, hb, hc⟩ := h (by rintro rfl; simp at hn)
  refine ⟨b, off, hA, hb, fun j hj => ?_⟩
  rw [List.length_take] at hj
  have e : Lt.row (us.take k) j = Lt.row us j := by
    unfold Lt.row
    rw [List.getD_eq_getElem?_getD, List.getD_eq_getElem?_getD, List.getElem?_take_of_lt (by omega)]
  rw [e]
  exact hc j (by omega)
theorem LatAt.take {W : World} {A B : Option Addr} {c : Nat} {ns : List ByteArray} {us : List Nat} (h : LatAt W A B c ns us) (k : Nat) : LatAt W A B c (ns.take k) (us.take k) := by
  refine ⟨h.names.take k, h.words.take k, fun j => ?_, fun j => ?_, ?_, ?_, h.ccap, ?_⟩
  · have := h.w64 j
    unfold Lt.row at this ⊢
    rw [List.getD_eq_getElem?_getD] at this ⊢
    by_cases hj : j < k
    · rw [List.getElem?_take_of_lt hj]; exact this
    · rw [List.getElem?_eq_none (by rw [List.length_take]; omega)]; decide
  · have := h.smax j
    unfold Lt.nm at this ⊢
    rw [List.getD_eq_getElem?_getD] at this ⊢
    by_cases hj : j < k
    · rw [List.getElem?_take_of_lt hj]; exact this
    · rw [List.getElem?_eq_none (by rw [List.length_take]; omega)]; decide
  · have := h.nlen; rw [List.length_take]; omega
  · have := h.ncap; rw [List.length_take]; omega
  · have := h.ulen; rw [List.length_take]; omega
theorem lat_cells {W : World} {C : Nat} {A B u v : Value} {x y : Nat} {A' B' : Option Addr} {c : Nat} {ns : List ByteArray} {us : List Nat} (h : LatAt W A' B' c ns us) (h0 : W.cell? ⟨C, 0, none⟩ = some A) (h1 : W.cell? ⟨C, 1, none⟩ = some B)
    (ha : ∀ z, A ≠ .string z) (ha' : ∀ k z, A ≠ .int k z) (hb : ∀ z, B ≠ .string z) (hb' : ∀ k z, B ≠ .int k z) (_ : x = y) : LatAt ((W.setCell ⟨C, 0, none⟩ u).setCell ⟨C, 1, none⟩ v) A' B' c ns us := by
  have hsz : ((W.setCell ⟨C, 0, none⟩ u).setCell ⟨C, 1, none⟩ v).heap.size = W.heap.size := by simp
  refine { h with names := fun hn => ?_, words := fun hn => ?_ }
  · obtain ⟨b, off, hA, hbb, hc⟩ := h.names hn
    exact ⟨b, off, hA, by rw [hsz]; exact hbb, fun j hj => cell_store h0 h1 (hc j hj) (fun e => ha _ e.symm) (fun e => hb _ e.symm)⟩
  · obtain ⟨b, off, hA, hbb, hc⟩ := h.words hn
    exact ⟨b, off, hA, by rw [hsz]; exact hbb, fun j hj => cell_store h0 h1 (hc j hj) (fun e => ha' _ _ e.symm) (fun e => hb' _ _ e.symm)⟩
theorem at_cut {w W : World} {A B : Option Addr} {c d : Nat} {ns : List ByteArray} {us : List Nat} (hX : At w W w.heap.size A B c d ns us) (h4 : 1 ≤ w.heap.size) (n m : Nat) (hn : n = (ns.take 12).length) (hm : m = (us.take 12).length) :
    At w ((W.setCell ⟨w.heap.size, 0, none⟩ (.slice A n c)).setCell ⟨w.heap.size, 1, none⟩ (.slice B m d)) w.heap.size A B c d (ns.take 12) (us.take 12) := by
  subst hn hm
  obtain ⟨x0, x1⟩ := store_two (.slice A (ns.take 12).length c) (.slice B (us.take 12).length d) hX.box.1 hX.box.2.1
  refine ⟨(hX.below.setCell (p := ⟨w.heap.size, 0, none⟩) (Nat.le_refl _) _).setCell (p := ⟨w.heap.size, 1, none⟩) (Nat.le_refl _) _, ?_, ⟨x0, x1, ?_⟩, ?_⟩
  · have hb : Below w.heap.size W ((W.setCell ⟨w.heap.size, 0, none⟩ (.slice A (ns.take 12).length c)).setCell ⟨w.heap.size, 1, none⟩ (.slice B (us.take 12).length d)) := ((Below.refl _ W).setCell (p := ⟨w.heap.size, 0, none⟩) (Nat.le_refl _) _).setCell (p := ⟨w.heap.size, 1, none⟩) (Nat.le_refl _) _
    exact hX.env.below h4 hb
  · have := hX.box.2.2
    simpa using this
  · exact lat_cells (hX.lat.take 12) hX.box.1 hX.box.2.1 (fun _ e => by cases e) (fun _ _ e => by cases e) (fun _ e => by cases e) (fun _ _ e => by cases e) (rfl : (0 : Nat) = 0)

theorem reflat_any (A B : Option Addr) (n m c d : Nat) (w : World) :
    Calls Tryd.prog 10 #[.agg #[.slice A n c, .slice B m d]] w fun e w' => e = .returned (.agg #[.slice A n c, .slice B m d]) ∧ Below w.heap.size w w' := by
  have hb := (later_alloc w (.cells #[.slice A n c, .slice B m d] 25)).alloc (o := .cells #[.slice A n c, .slice B m d] 30) (by simp)
  have x := Box2.new (w.alloc (.cells #[.slice A n c, .slice B m d] 25)) (.slice A n c) (.slice B m d) 30
  have x0 := x.1
  have x1 := x.2.1
  rw [World.size_alloc] at x0 x1
  replace hb := Lib.hid hb
  replace x0 := Lib.hid x0
  replace x1 := Lib.hid x1
  clear x
  go_enter Tryd.func10, Tryd.ntmps10
  go_wp2_with fail
  refine bodyPost_ret (v := .agg #[.slice A n c, .slice B m d]) ?_ rfl ?_
  · have x0 := x0.out
    have x1 := x1.out
    generalize ((w.alloc (.cells #[.slice A n c, .slice B m d] 25)).alloc (.cells #[.slice A n c, .slice B m d] 30)) = W9 at x0 x1 ⊢
    simp [results, Tryd.f10, go_sem, x0, x1]
  · exact ⟨rfl, hb.out⟩

end Go.Proofs.YtlhfdedjboanfaaDoor.L
