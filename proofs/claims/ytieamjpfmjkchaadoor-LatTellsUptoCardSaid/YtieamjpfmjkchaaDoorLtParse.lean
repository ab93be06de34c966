/-
  lat.Parse. Conditions: a text shorter than 4294967281 bytes (the library's contracts bear that bound); the library's variables lie as laid.
-/
import Derived.Test.YtieamjpfmjkchaaDoorLtEnds
import Derived.Test.YtieamjpfmjkchaaDoorLtRead
import Derived.Lib.SplitLaws
namespace Go.Proofs.YtieamjpfmjkchaaDoor
open Go.RowKit Go.Shelf Go.Lt

def nl : ByteArray := ⟨#[10]⟩
def sp : ByteArray := ⟨#[32]⟩
def headB (s : ByteArray) : ByteArray := ⟨(Lib.cut s.data.toList nl.data.toList).1.toArray⟩
def restB (s : ByteArray) : ByteArray := ⟨(Lib.cut s.data.toList nl.data.toList).2.1.toArray⟩
def foundB (s : ByteArray) : Bool := (Lib.cut s.data.toList nl.data.toList).2.2
def spaces (s : ByteArray) : Nat := Lib.countB (headB s) sp
def pnames (s : ByteArray) : List ByteArray := Lib.splitB sp 0 (spaces s) (headB s)
def prows (s : ByteArray) : List Nat := rowsL (restB s) (spaces s + 1)
/-- which error a text has -/
def parseErr (s : ByteArray) : Nat :=
  if 63 < spaces s then 1
  else if namedB (pnames s) = false then 2
  else if rowsOk (restB s) (spaces s + 1) = false then 2
  else if ordered (prows s) = false then 3
  else if complete (prows s) = false then 4
  else 0

theorem pnames_length (s : ByteArray) : (pnames s).length = spaces s + 1 := Lib.splitB_all sp (by decide) 0 _ _ rfl
theorem prows_length (s : ByteArray) : (prows s).length = spaces s + 1 := rowsL_length _ _
theorem headB_size (s : ByteArray) : (headB s).size ≤ s.size := by
  unfold headB Lib.cut
  show (List.toArray _).size ≤ s.data.size
  split
  · rw [List.size_toArray, List.length_take, Array.length_toList]; omega
  · rw [List.size_toArray, Array.length_toList]; exact Nat.le_refl _
theorem restB_size (s : ByteArray) : (restB s).size ≤ s.size := by
  unfold restB Lib.cut
  show (List.toArray _).size ≤ s.data.size
  split
  · rw [List.size_toArray, List.length_drop, Array.length_toList]; omega
  · rw [List.size_toArray]; exact Nat.zero_le _
theorem splitB_sizes (sep : ByteArray) (save : Nat) (hsv : save = 0) : ∀ (k : Nat) (s x : ByteArray), x ∈ Lib.splitB sep save k s → x.size ≤ s.size
  | 0, s, x, h => by
    rw [Lib.splitB_zero] at h
    obtain rfl := List.mem_singleton.1 h
    exact Nat.le_refl _
  | k + 1, s, x, h => by
    unfold Lib.splitB at h
    split at h
    · obtain rfl := List.mem_singleton.1 h
      exact Nat.le_refl _
    · rcases List.mem_cons.1 h with rfl | h
      · rw [ByteArray.size_extract]; omega
      · have := splitB_sizes sep save hsv k _ x h
        rw [ByteArray.size_extract] at this
        omega
theorem pnames_smax (s : ByteArray) (hs : s.size ≤ 9223372036854775807) : SMax (pnames s) := fun j => by
  unfold Lt.nm
  rw [List.getD_eq_getElem?_getD]
  by_cases hj : j < (pnames s).length
  · rw [List.getElem?_eq_getElem hj]
    have h1 := splitB_sizes sp 0 rfl _ _ _ (List.getElem_mem hj)
    have h2 := headB_size s
    show (pnames s)[j].size ≤ _
    omega
  · rw [List.getElem?_eq_none (by omega)]
    decide
theorem prows_lt (s : ByteArray) (h : spaces s ≤ 63) : W64 (prows s) := W64.of fun u hu => by
  unfold prows rowsL at hu
  obtain ⟨a, _, rfl⟩ := List.mem_map.1 hu
  have h5 := lineBits_lt (restB s) (a * (spaces s + 1 + 1)) (spaces s + 1)
  have h6 : 2 ^ (spaces s + 1) ≤ 2 ^ 64 := Nat.pow_le_pow_right (by omega) (by omega)
  have h7 : (2 : Nat) ^ 64 = 18446744073709551616 := by decide
  omega
theorem prows_in (s : ByteArray) : ∀ a, a < (prows s).length → row (prows s) a < 2 ^ (prows s).length := fun a ha => by
  rw [prows_length] at ha ⊢
  unfold prows
  rw [row_rowsL _ _ _ ha]
  exact lineBits_lt _ _ _
theorem prows_within (s : ByteArray) (h : spaces s ≤ 63) : within (prows s) = true := by
  unfold within
  rw [List.all_eq_true]
  intro r hr
  obtain ⟨a, ha, rfl⟩ := List.getElem_of_mem hr
  have h1 := prows_in s a ha
  have e : (prows s)[a] = row (prows s) a := by
    unfold row
    rw [List.getD_eq_getElem?_getD, List.getElem?_eq_getElem ha]; rfl
  rw [e]
  have hl : (prows s).length ≤ 64 := by rw [prows_length]; omega
  refine (sub_iff (prows_lt s h a) (all_lt hl)).2 fun b hb => ?_
  rw [all_bit]
  exact decide_eq_true (testBit_lt h1 hb)
theorem strs_new (w : World) (l : List ByteArray) (t : TypeId) : Strs (w.alloc (.cells (l.map Value.string).toArray t)) (w.heap.size + 1) (some ⟨w.heap.size, 0, none⟩) l := fun _ =>
  ⟨w.heap.size, 0, rfl, by omega, fun j hj => by
    have h := World.alloc_heap_new w (.cells (l.map Value.string).toArray t)
    rw [Nat.zero_add, cell_of_row _ w.heap.size j _ _ _ h]
    unfold Lt.nm
    rw [List.getD_eq_getElem?_getD, List.getElem?_eq_getElem hj]
    simp [hj]⟩

def ParsePost (s : ByteArray) (w : World) (e : Ending) (w' : World) : Prop :=
  Below w.heap.size w w' ∧
  ((parseErr s = 0 ∧ ∃ A B, e = .returned (.tuple #[.agg #[.slice A (pnames s).length (pnames s).length, .slice B (prows s).length (prows s).length], .int .i64 0]) ∧ LatAt w' A B (pnames s).length (pnames s) (prows s)) ∨
   (parseErr s ≠ 0 ∧ e = .returned (.tuple #[.agg #[.slice none 0 0, .slice none 0 0], .int .i64 (parseErr s : Nat)])))

theorem cut_any (s : ByteArray) (w : World) (hE : Env w) (hs : s.size < 4294967281) :
    Calls Tryd.prog 34 #[.string s, .string ⟨#[10]⟩] w fun e w' => e = .returned (.tuple #[.string (headB s), .string (restB s), .bool (foundB s)]) ∧ Hid (∃ n, w' = w.drewN n) := by
  obtain ⟨m, hm⟩ := hE.2.1
  exact Tryd.strings_Cut s nl m w hs hm
theorem count_any (s : ByteArray) (w : World) (hE : Env w) (hs : s.size < 4294967281) :
    Calls Tryd.prog 35 #[.string (headB s), .string ⟨#[32]⟩] w fun e w' => e = .returned (.int .i64 (spaces s : Nat)) ∧ w = w' := by
  obtain ⟨m, hm⟩ := hE.2.1
  exact (Tryd.strings_Count_any (headB s) sp m w (by have := headB_size s; omega) hm (by decide)).mono fun e w' ⟨h1, h2⟩ => ⟨h1, h2.symm⟩
theorem split_any (s : ByteArray) (w : World) (hE : Env w) (hs : s.size < 4294967281) :
    Calls Tryd.prog 36 #[.string (headB s), .string ⟨#[32]⟩] w fun e w' => e = .returned (.slice (some ⟨w.heap.size, 0, none⟩) (pnames s).length (pnames s).length) ∧ Hid (w' = w.alloc (.cells ((pnames s).map Value.string).toArray 9)) := by
  obtain ⟨m, hm⟩ := hE.2.1
  have := Tryd.strings_Split (headB s) sp m w (by have := headB_size s; omega) hm (by decide)
  rw [pnames_length]
  exact this

/-- the cell of the result, as it was laid -/
def Res (B : Nat) (W : World) : Prop :=
  (W.cell? ⟨B, 0, none⟩ = some (.slice none 0 0) ∧ W.cell? ⟨B, 1, none⟩ = some (.slice none 0 0)) ∧ (W.frozen? ⟨B, 0, none⟩ = false ∧ W.frozen? ⟨B, 1, none⟩ = false) ∧ B < W.heap.size
theorem Res.later {B : Nat} {W W' : World} (h : Res B W) (hb : Below W.heap.size W W') : Res B W' :=
  ⟨⟨(hb.cell (p := ⟨B, 0, none⟩) h.2.2).trans h.1.1, (hb.cell (p := ⟨B, 1, none⟩) h.2.2).trans h.1.2⟩, ⟨(hb.frozen (p := ⟨B, 0, none⟩) h.2.2).trans h.2.1.1, (hb.frozen (p := ⟨B, 1, none⟩) h.2.2).trans h.2.1.2⟩, Nat.lt_of_lt_of_le h.2.2 hb.size⟩
theorem frozen_of_row {W : World} {B : Nat} {cs : Array Value} {t : TypeId} (h : W.heap[B]? = some (.cells cs t (0, 0))) (i : Nat) : W.frozen? ⟨B, i, none⟩ = false := by
  simp [World.frozen?, h]
theorem Res.new (w : World) (t : TypeId) : Res w.heap.size (w.alloc (.cells #[.slice none 0 0, .slice none 0 0] t)) := by
  have h := World.alloc_heap_new w (.cells #[.slice none 0 0, .slice none 0 0] t)
  exact ⟨⟨cell_of_row _ w.heap.size 0 _ _ _ h, cell_of_row _ w.heap.size 1 _ _ _ h⟩, ⟨frozen_of_row h 0, frozen_of_row h 1⟩, by simp⟩
theorem store_two {W : World} {B : Nat} {a b : Value} (u v : Value) (h0 : W.cell? ⟨B, 0, none⟩ = some a) (h1 : W.cell? ⟨B, 1, none⟩ = some b) :
    ((W.setCell ⟨B, 0, none⟩ u).setCell ⟨B, 1, none⟩ v).cell? ⟨B, 0, none⟩ = some u ∧ ((W.setCell ⟨B, 0, none⟩ u).setCell ⟨B, 1, none⟩ v).cell? ⟨B, 1, none⟩ = some v := by
  have e0 : (W.setCell ⟨B, 0, none⟩ u).cell? ⟨B, 0, none⟩ = some u := World.cell?_setCell_same' _ _ _ (by rw [h0]; rfl)
  have e1 : (W.setCell ⟨B, 0, none⟩ u).cell? ⟨B, 1, none⟩ = some b := (World.cell?_setCell_other W ⟨B, 0, none⟩ ⟨B, 1, none⟩ u (by simp)).trans h1
  exact ⟨(World.cell?_setCell_other _ ⟨B, 1, none⟩ ⟨B, 0, none⟩ v (by simp)).trans e0, World.cell?_setCell_same' _ _ _ (by rw [e1]; rfl)⟩

theorem Strs.other {W : World} {B g o C i : Nat} {u : Value} {ss : List ByteArray} (h : Strs W B (some ⟨g, o, none⟩) ss) (hg : g ≠ C) : Strs (W.setCell ⟨C, i, none⟩ u) B (some ⟨g, o, none⟩) ss := fun hn => by
  obtain ⟨b, off, hA, hb, hc⟩ := h hn
  cases hA
  exact ⟨g, o, rfl, hb, fun j hj => (World.cell?_setCell_other W ⟨C, i, none⟩ ⟨g, o + j, none⟩ u (by intro e; injection e with e1; exact hg e1.symm)).trans (hc j hj)⟩
theorem Words.other {W : World} {B g o C i : Nat} {u : Value} {ss : List Nat} (h : Words W B (some ⟨g, o, none⟩) ss) (hg : g ≠ C) : Words (W.setCell ⟨C, i, none⟩ u) B (some ⟨g, o, none⟩) ss := fun hn => by
  obtain ⟨b, off, hA, hb, hc⟩ := h hn
  cases hA
  exact ⟨g, o, rfl, hb, fun j hj => (World.cell?_setCell_other W ⟨C, i, none⟩ ⟨g, o + j, none⟩ u (by intro e; injection e with e1; exact hg e1.symm)).trans (hc j hj)⟩

set_option maxRecDepth 100000 in
set_option maxHeartbeats 4000000 in
theorem parse_any (s : ByteArray) (w : World) (hE : Env w) (hs : s.size < 4294967281) : Calls Tryd.prog 12 #[.string s] w (ParsePost s w) := by
  -- where a call is made: the world is a later one, the result's cell lies as it was laid
  have hcut : ∀ w1, Hid (∃ n, w1 = (w.alloc (.cells #[.slice none 0 0, .slice none 0 0] 25)).drewN n) → Hid (Below w.heap.size w w1) ∧ Res w.heap.size w1 := fun w1 h => by
    obtain ⟨n, rfl⟩ := h.out
    exact ⟨belowN ((Below.refl _ _).alloc (Nat.le_refl _) _) n, Res.new w _⟩
  have HCUT := Lib.hid hcut
  clear hcut
  have k1 := Lib.hid (cut_any s (w.alloc (.cells #[.slice none 0 0, .slice none 0 0] 25)) (hE.later ((Below.refl _ _).alloc (Nat.le_refl _) _)) hs)
  have k2' : ∀ W, Below w.heap.size w W → Calls Tryd.prog 35 #[.string (headB s), .string ⟨#[32]⟩] W fun e w' => e = .returned (.int .i64 (spaces s : Nat)) ∧ W = w' := fun W hb => count_any s W (hE.later hb) hs
  have k2 := Lib.hid k2'
  clear k2'
  have k3' : ∀ W, Below w.heap.size w W → Res w.heap.size W → Calls Tryd.prog 36 #[.string (headB s), .string ⟨#[32]⟩] W fun e w' => e = .returned (.slice (some ⟨W.heap.size, 0, none⟩) (pnames s).length (pnames s).length) ∧ Hid (Strs w' w'.heap.size (some ⟨W.heap.size, 0, none⟩) (pnames s)) ∧ Hid (Below w.heap.size w w') ∧ Res w.heap.size w' := fun W hb hr =>
    (split_any s W (hE.later hb) hs).mono fun e w' ⟨h1, h2⟩ => by
      have h3 := h2.out
      subst h3
      have hb2 : Below W.heap.size W (W.alloc (.cells ((pnames s).map Value.string).toArray 9)) := (Below.refl _ _).alloc (Nat.le_refl _) _
      exact ⟨h1, (by have := strs_new W (pnames s) 9; rwa [← World.size_alloc W (.cells ((pnames s).map Value.string).toArray 9)] at this), hb.trans (hb2.mono hb.size), hr.later hb2⟩
  have k3 := Lib.hid k3'
  clear k3'
  by_cases c1 : 63 < spaces s
  case pos =>
    have hE9 : Hid (parseErr s = 1) := by
      show parseErr s = 1
      unfold parseErr; rw [if_pos c1]
    go_enter Tryd.func12, Tryd.ntmps12
    go_wp2_with (first | (go_at_call 34; refine k1.out.mono ?_; rintro e w1 ⟨rfl, hn⟩; obtain ⟨b1, ⟨r1, r2⟩, ⟨f1, f2⟩, r5⟩ := HCUT.out w1 hn) | (go_at_call 35; refine (k2.out _ b1.out).mono ?_; rintro e w' ⟨rfl, rfl⟩))
    obtain ⟨x0, x1⟩ := store_two (.slice none 0 0) (.slice none 0 0) r1 r2
    have hBe : Below w.heap.size w ((w1.setCell ⟨w.heap.size, 0, none⟩ (.slice none 0 0)).setCell ⟨w.heap.size, 1, none⟩ (.slice none 0 0)) := (b1.out.setCell (p := ⟨w.heap.size, 0, none⟩) (Nat.le_refl _) _).setCell (p := ⟨w.heap.size, 1, none⟩) (Nat.le_refl _) _
    generalize (w1.setCell ⟨w.heap.size, 0, none⟩ (.slice none 0 0)).setCell ⟨w.heap.size, 1, none⟩ (.slice none 0 0) = W9 at x0 x1 hBe ⊢
    refine bodyPost_ret (v := .tuple #[.agg #[.slice none 0 0, .slice none 0 0], .int .i64 1]) ?_ rfl ?_
    · simp [results, Tryd.f12, go_sem, x0, x1]
    · exact ⟨hBe, .inr ⟨by rw [hE9.out]; decide, by rw [hE9.out]; rfl⟩⟩
  have k4' : ∀ (W : World) (A : Option Addr), Strs W W.heap.size A (pnames s) → Calls Tryd.prog 37 #[.slice A (pnames s).length (pnames s).length] W fun e w' => e = .returned (.bool (namedB (pnames s))) ∧ W = w' := fun W A hS =>
    named_any A (pnames s) (pnames s).length W hS (pnames_smax s (by omega)) (by rw [pnames_length]; omega) (Nat.le_refl _) (by rw [pnames_length]; omega)
  have k4 := Lib.hid k4'
  clear k4'
  by_cases c2 : namedB (pnames s) = false
  case pos =>
    have hE9 : Hid (parseErr s = 2) := by
      show parseErr s = 2
      unfold parseErr; rw [if_neg c1, if_pos c2]
    go_enter Tryd.func12, Tryd.ntmps12
    go_wp2_with (first | (go_at_call 34; refine k1.out.mono ?_; rintro e w1 ⟨rfl, hn⟩; obtain ⟨b1, ⟨r1, r2⟩, ⟨f1, f2⟩, r5⟩ := HCUT.out w1 hn) | (go_at_call 35; refine (k2.out _ b1.out).mono ?_; rintro e w' ⟨rfl, rfl⟩) | (go_at_call 36; refine (k3.out _ b1.out ⟨⟨r1, r2⟩, ⟨f1, f2⟩, r5⟩).mono ?_; rintro e w2 ⟨rfl, hS, b2, ⟨r21, r22⟩, ⟨f21, f22⟩, r25⟩) | (go_at_call 37; refine (k4.out _ _ hS.out).mono ?_; rintro e w' ⟨rfl, rfl⟩))
    obtain ⟨x0, x1⟩ := store_two (.slice none 0 0) (.slice none 0 0) r21 r22
    have hBe : Below w.heap.size w ((w2.setCell ⟨w.heap.size, 0, none⟩ (.slice none 0 0)).setCell ⟨w.heap.size, 1, none⟩ (.slice none 0 0)) := (b2.out.setCell (p := ⟨w.heap.size, 0, none⟩) (Nat.le_refl _) _).setCell (p := ⟨w.heap.size, 1, none⟩) (Nat.le_refl _) _
    generalize (w2.setCell ⟨w.heap.size, 0, none⟩ (.slice none 0 0)).setCell ⟨w.heap.size, 1, none⟩ (.slice none 0 0) = W9 at x0 x1 hBe ⊢
    refine bodyPost_ret (v := .tuple #[.agg #[.slice none 0 0, .slice none 0 0], .int .i64 2]) ?_ rfl ?_
    · simp [results, Tryd.f12, go_sem, x0, x1]
    · exact ⟨hBe, .inr ⟨by rw [hE9.out]; decide, by rw [hE9.out]; rfl⟩⟩
  have c2' : namedB (pnames s) = true := by simpa using c2
  have hpl : (pnames s).length ≤ 64 := by rw [pnames_length]; omega
  by_cases c3 : rowsOk (restB s) (spaces s + 1) = false
  case pos =>
    have k5' : ∀ (W : World), Below w.heap.size w W → Res w.heap.size W → Calls Tryd.prog 38 #[.string (restB s), .int .i64 (pnames s).length] W fun e w' => e = .returned (.tuple #[.slice none 0 0, .bool false]) ∧ Hid (Below w.heap.size w w') ∧ Res w.heap.size w' := fun W hb hr => by
      rw [pnames_length]
      refine (readRows_any (restB s) (spaces s + 1) W (by omega) (by omega) (by have := restB_size s; omega)).mono fun e w' h => ?_
      rcases h with ⟨h1, _⟩ | ⟨_, h2, h3⟩
      · rw [c3] at h1; cases h1
      · exact ⟨h2, hb.trans (h3.mono hb.size), hr.later h3⟩
    have k5 := Lib.hid k5'
    clear k5'
    have hE9 : Hid (parseErr s = 2) := by
      show parseErr s = 2
      unfold parseErr; rw [if_neg c1, if_neg c2, if_pos c3]
    go_enter Tryd.func12, Tryd.ntmps12
    go_wp2_with (first | (go_at_call 34; refine k1.out.mono ?_; rintro e w1 ⟨rfl, hn⟩; obtain ⟨b1, ⟨r1, r2⟩, ⟨f1, f2⟩, r5⟩ := HCUT.out w1 hn) | (go_at_call 35; refine (k2.out _ b1.out).mono ?_; rintro e w' ⟨rfl, rfl⟩) | (go_at_call 36; refine (k3.out _ b1.out ⟨⟨r1, r2⟩, ⟨f1, f2⟩, r5⟩).mono ?_; rintro e w2 ⟨rfl, hS, b2, ⟨r21, r22⟩, ⟨f21, f22⟩, r25⟩) | (go_at_call 37; refine (k4.out _ _ hS.out).mono ?_; rintro e w' ⟨rfl, rfl⟩) | (go_at_call 38; refine (k5.out _ b2.out ⟨⟨r21, r22⟩, ⟨f21, f22⟩, r25⟩).mono ?_; rintro e w3 ⟨rfl, b3, ⟨r31, r32⟩, ⟨f31, f32⟩, r35⟩))
    obtain ⟨x0, x1⟩ := store_two (.slice none 0 0) (.slice none 0 0) r31 r32
    have hBe : Below w.heap.size w ((w3.setCell ⟨w.heap.size, 0, none⟩ (.slice none 0 0)).setCell ⟨w.heap.size, 1, none⟩ (.slice none 0 0)) := (b3.out.setCell (p := ⟨w.heap.size, 0, none⟩) (Nat.le_refl _) _).setCell (p := ⟨w.heap.size, 1, none⟩) (Nat.le_refl _) _
    generalize (w3.setCell ⟨w.heap.size, 0, none⟩ (.slice none 0 0)).setCell ⟨w.heap.size, 1, none⟩ (.slice none 0 0) = W9 at x0 x1 hBe ⊢
    refine bodyPost_ret (v := .tuple #[.agg #[.slice none 0 0, .slice none 0 0], .int .i64 2]) ?_ rfl ?_
    · simp [results, Tryd.f12, go_sem, x0, x1]
    · exact ⟨hBe, .inr ⟨by rw [hE9.out]; decide, by rw [hE9.out]; rfl⟩⟩
  have k5' : ∀ (W : World), Below w.heap.size w W → Res w.heap.size W → Calls Tryd.prog 38 #[.string (restB s), .int .i64 (pnames s).length] W fun e w' => e = .returned (.tuple #[.slice (some ⟨W.heap.size, 0, none⟩) (pnames s).length (pnames s).length, .bool true]) ∧ Hid (Words w' w'.heap.size (some ⟨W.heap.size, 0, none⟩) (prows s)) ∧ Hid (Below W.heap.size W w') ∧ Hid (Below w.heap.size w w') ∧ Res w.heap.size w' := fun W hb hr => by
    rw [pnames_length]
    refine (readRows_any (restB s) (spaces s + 1) W (by omega) (by omega) (by have := restB_size s; omega)).mono fun e w' h => ?_
    rcases h with ⟨_, h2, h3, h4⟩ | ⟨h1, _⟩
    · exact ⟨h2, h3, h4, hb.trans (h4.mono hb.size), hr.later h4⟩
    · exact absurd h1 c3
  have k5 := Lib.hid k5'
  clear k5'
  have k6' : ∀ (W : World) (B : Option Addr), Below w.heap.size w W → Words W W.heap.size B (prows s) → Res w.heap.size W → Calls Tryd.prog 39 #[.slice B (pnames s).length (pnames s).length] W fun e w' => e = .returned (.bool (ordered (prows s))) ∧ Hid (Words w' w'.heap.size B (prows s)) ∧ Hid (Below W.heap.size W w') ∧ Hid (Below w.heap.size w w') ∧ Res w.heap.size w' := fun W B hb hw hr => by
    have h := ordered_any B (prows s) (pnames s).length W (hE.later hb) hw (prows_lt s (by omega)) (by rw [prows_length]; omega) (prows_in s)
    rw [prows_length, ← pnames_length] at h
    exact h.mono fun e w' ⟨h1, h2⟩ => ⟨h1, hw.below h2.size h2, h2, hb.trans (h2.mono hb.size), hr.later h2⟩
  have k6 := Lib.hid k6'
  clear k6'
  have k7' : ∀ (W : World) (B : Option Addr), Below w.heap.size w W → Words W W.heap.size B (prows s) → Res w.heap.size W → Calls Tryd.prog 40 #[.slice B (pnames s).length (pnames s).length] W fun e w' => e = .returned (.bool (complete (prows s))) ∧ Hid (Words w' w'.heap.size B (prows s)) ∧ Hid (Below W.heap.size W w') ∧ Hid (Below w.heap.size w w') ∧ Res w.heap.size w' := fun W B hb hw hr => by
    have h := complete_any B (prows s) (pnames s).length W (hE.later hb) hw (prows_lt s (by omega)) (by rw [prows_length]; omega) (prows_in s)
    rw [prows_length, ← pnames_length] at h
    exact h.mono fun e w' ⟨h1, h2⟩ => ⟨h1, hw.below h2.size h2, h2, hb.trans (h2.mono hb.size), hr.later h2⟩
  have k7 := Lib.hid k7'
  clear k7'
  by_cases c4 : ordered (prows s) = false
  case pos =>
    have hE9 : Hid (parseErr s = 3) := by
      show parseErr s = 3
      unfold parseErr; rw [if_neg c1, if_neg c2, if_neg c3, if_pos c4]
    go_enter Tryd.func12, Tryd.ntmps12
    go_wp2_with (first | (go_at_call 34; refine k1.out.mono ?_; rintro e w1 ⟨rfl, hn⟩; obtain ⟨b1, ⟨r1, r2⟩, ⟨f1, f2⟩, r5⟩ := HCUT.out w1 hn) | (go_at_call 35; refine (k2.out _ b1.out).mono ?_; rintro e w' ⟨rfl, rfl⟩) | (go_at_call 36; refine (k3.out _ b1.out ⟨⟨r1, r2⟩, ⟨f1, f2⟩, r5⟩).mono ?_; rintro e w2 ⟨rfl, hS, b2, ⟨r21, r22⟩, ⟨f21, f22⟩, r25⟩) | (go_at_call 37; refine (k4.out _ _ hS.out).mono ?_; rintro e w' ⟨rfl, rfl⟩) | (go_at_call 38; refine (k5.out _ b2.out ⟨⟨r21, r22⟩, ⟨f21, f22⟩, r25⟩).mono ?_; rintro e w3 ⟨rfl, hW3, t3, b3, ⟨r31, r32⟩, ⟨f31, f32⟩, r35⟩) | (go_at_call 39; refine (k6.out _ _ b3.out hW3.out ⟨⟨r31, r32⟩, ⟨f31, f32⟩, r35⟩).mono ?_; rintro e w4 ⟨rfl, hW4, t4, b4, ⟨r41, r42⟩, ⟨f41, f42⟩, r45⟩))
    obtain ⟨x0, x1⟩ := store_two (.slice none 0 0) (.slice none 0 0) r41 r42
    have hBe : Below w.heap.size w ((w4.setCell ⟨w.heap.size, 0, none⟩ (.slice none 0 0)).setCell ⟨w.heap.size, 1, none⟩ (.slice none 0 0)) := (b4.out.setCell (p := ⟨w.heap.size, 0, none⟩) (Nat.le_refl _) _).setCell (p := ⟨w.heap.size, 1, none⟩) (Nat.le_refl _) _
    generalize (w4.setCell ⟨w.heap.size, 0, none⟩ (.slice none 0 0)).setCell ⟨w.heap.size, 1, none⟩ (.slice none 0 0) = W9 at x0 x1 hBe ⊢
    refine bodyPost_ret (v := .tuple #[.agg #[.slice none 0 0, .slice none 0 0], .int .i64 3]) ?_ rfl ?_
    · simp [results, Tryd.f12, go_sem, x0, x1]
    · exact ⟨hBe, .inr ⟨by rw [hE9.out]; decide, by rw [hE9.out]; rfl⟩⟩
  have c4' : ordered (prows s) = true := by simpa using c4
  by_cases c5 : complete (prows s) = false
  case pos =>
    have hE9 : Hid (parseErr s = 4) := by
      show parseErr s = 4
      unfold parseErr; rw [if_neg c1, if_neg c2, if_neg c3, if_neg c4, if_pos c5]
    go_enter Tryd.func12, Tryd.ntmps12
    go_wp2_with (first | (go_at_call 34; refine k1.out.mono ?_; rintro e w1 ⟨rfl, hn⟩; obtain ⟨b1, ⟨r1, r2⟩, ⟨f1, f2⟩, r5⟩ := HCUT.out w1 hn) | (go_at_call 35; refine (k2.out _ b1.out).mono ?_; rintro e w' ⟨rfl, rfl⟩) | (go_at_call 36; refine (k3.out _ b1.out ⟨⟨r1, r2⟩, ⟨f1, f2⟩, r5⟩).mono ?_; rintro e w2 ⟨rfl, hS, b2, ⟨r21, r22⟩, ⟨f21, f22⟩, r25⟩) | (go_at_call 37; refine (k4.out _ _ hS.out).mono ?_; rintro e w' ⟨rfl, rfl⟩) | (go_at_call 38; refine (k5.out _ b2.out ⟨⟨r21, r22⟩, ⟨f21, f22⟩, r25⟩).mono ?_; rintro e w3 ⟨rfl, hW3, t3, b3, ⟨r31, r32⟩, ⟨f31, f32⟩, r35⟩) | (go_at_call 39; refine (k6.out _ _ b3.out hW3.out ⟨⟨r31, r32⟩, ⟨f31, f32⟩, r35⟩).mono ?_; rintro e w4 ⟨rfl, hW4, t4, b4, ⟨r41, r42⟩, ⟨f41, f42⟩, r45⟩) | (go_at_call 40; refine (k7.out _ _ b4.out hW4.out ⟨⟨r41, r42⟩, ⟨f41, f42⟩, r45⟩).mono ?_; rintro e w5 ⟨rfl, hW5, t5, b5, ⟨r51, r52⟩, ⟨f51, f52⟩, r55⟩))
    obtain ⟨x0, x1⟩ := store_two (.slice none 0 0) (.slice none 0 0) r51 r52
    have hBe : Below w.heap.size w ((w5.setCell ⟨w.heap.size, 0, none⟩ (.slice none 0 0)).setCell ⟨w.heap.size, 1, none⟩ (.slice none 0 0)) := (b5.out.setCell (p := ⟨w.heap.size, 0, none⟩) (Nat.le_refl _) _).setCell (p := ⟨w.heap.size, 1, none⟩) (Nat.le_refl _) _
    generalize (w5.setCell ⟨w.heap.size, 0, none⟩ (.slice none 0 0)).setCell ⟨w.heap.size, 1, none⟩ (.slice none 0 0) = W9 at x0 x1 hBe ⊢
    refine bodyPost_ret (v := .tuple #[.agg #[.slice none 0 0, .slice none 0 0], .int .i64 4]) ?_ rfl ?_
    · simp [results, Tryd.f12, go_sem, x0, x1]
    · exact ⟨hBe, .inr ⟨by rw [hE9.out]; decide, by rw [hE9.out]; rfl⟩⟩
  have c5' : complete (prows s) = true := by simpa using c5
  have hE9 : Hid (parseErr s = 0) := by
    show parseErr s = 0
    unfold parseErr; rw [if_neg c1, if_neg c2, if_neg c3, if_neg c4, if_neg c5]
  go_enter Tryd.func12, Tryd.ntmps12
  go_wp2_with (first | (go_at_call 34; refine k1.out.mono ?_; rintro e w1 ⟨rfl, hn⟩; obtain ⟨b1, ⟨r1, r2⟩, ⟨f1, f2⟩, r5⟩ := HCUT.out w1 hn) | (go_at_call 35; refine (k2.out _ b1.out).mono ?_; rintro e w' ⟨rfl, rfl⟩) | (go_at_call 36; refine (k3.out _ b1.out ⟨⟨r1, r2⟩, ⟨f1, f2⟩, r5⟩).mono ?_; rintro e w2 ⟨rfl, hS, b2, ⟨r21, r22⟩, ⟨f21, f22⟩, r25⟩) | (go_at_call 37; refine (k4.out _ _ hS.out).mono ?_; rintro e w' ⟨rfl, rfl⟩) | (go_at_call 38; refine (k5.out _ b2.out ⟨⟨r21, r22⟩, ⟨f21, f22⟩, r25⟩).mono ?_; rintro e w3 ⟨rfl, hW3, t3, b3, ⟨r31, r32⟩, ⟨f31, f32⟩, r35⟩) | (go_at_call 39; refine (k6.out _ _ b3.out hW3.out ⟨⟨r31, r32⟩, ⟨f31, f32⟩, r35⟩).mono ?_; rintro e w4 ⟨rfl, hW4, t4, b4, ⟨r41, r42⟩, ⟨f41, f42⟩, r45⟩) | (go_at_call 40; refine (k7.out _ _ b4.out hW4.out ⟨⟨r41, r42⟩, ⟨f41, f42⟩, r45⟩).mono ?_; rintro e w5 ⟨rfl, hW5, t5, b5, ⟨r51, r52⟩, ⟨f51, f52⟩, r55⟩))
  have z1 : w1.heap.size ≠ w.heap.size := by omega
  have z2 : w2.heap.size ≠ w.heap.size := by omega
  have hs5 : Strs w5 w5.heap.size (some ⟨w1.heap.size, 0, none⟩) (pnames s) := hS.out.below (by have := t3.out.size; have := t4.out.size; have := t5.out.size; omega) ((t3.out.trans (t4.out.mono t3.out.size)).trans (t5.out.mono (by have := t3.out.size; have := t4.out.size; omega)))
  obtain ⟨x0, x1⟩ := store_two (.slice (some ⟨w1.heap.size, 0, none⟩) (pnames s).length (pnames s).length) (.slice (some ⟨w2.heap.size, 0, none⟩) (pnames s).length (pnames s).length) r51 r52
  have hBe : Below w.heap.size w ((w5.setCell ⟨w.heap.size, 0, none⟩ (.slice (some ⟨w1.heap.size, 0, none⟩) (pnames s).length (pnames s).length)).setCell ⟨w.heap.size, 1, none⟩ (.slice (some ⟨w2.heap.size, 0, none⟩) (pnames s).length (pnames s).length)) := (b5.out.setCell (p := ⟨w.heap.size, 0, none⟩) (Nat.le_refl _) _).setCell (p := ⟨w.heap.size, 1, none⟩) (Nat.le_refl _) _
  have hL : LatAt ((w5.setCell ⟨w.heap.size, 0, none⟩ (.slice (some ⟨w1.heap.size, 0, none⟩) (pnames s).length (pnames s).length)).setCell ⟨w.heap.size, 1, none⟩ (.slice (some ⟨w2.heap.size, 0, none⟩) (pnames s).length (pnames s).length)) (some ⟨w1.heap.size, 0, none⟩) (some ⟨w2.heap.size, 0, none⟩) (pnames s).length (pnames s) (prows s) :=
    { names := by have := (hs5.other (C := w.heap.size) (i := 0) (u := .slice (some ⟨w1.heap.size, 0, none⟩) (pnames s).length (pnames s).length) z1).other (C := w.heap.size) (i := 1) (u := .slice (some ⟨w2.heap.size, 0, none⟩) (pnames s).length (pnames s).length) z1; simpa using this
      words := by have := (hW5.out.other (C := w.heap.size) (i := 0) (u := .slice (some ⟨w1.heap.size, 0, none⟩) (pnames s).length (pnames s).length) z2).other (C := w.heap.size) (i := 1) (u := .slice (some ⟨w2.heap.size, 0, none⟩) (pnames s).length (pnames s).length) z2; simpa using this
      w64 := prows_lt s (by omega)
      smax := pnames_smax s (by omega)
      nlen := by rw [pnames_length]; omega
      ncap := Nat.le_refl _
      ccap := by rw [pnames_length]; omega
      ulen := by rw [prows_length]; omega }
  generalize (w5.setCell ⟨w.heap.size, 0, none⟩ (.slice (some ⟨w1.heap.size, 0, none⟩) (pnames s).length (pnames s).length)).setCell ⟨w.heap.size, 1, none⟩ (.slice (some ⟨w2.heap.size, 0, none⟩) (pnames s).length (pnames s).length) = W9 at x0 x1 hBe hL ⊢
  refine bodyPost_ret (v := .tuple #[.agg #[.slice (some ⟨w1.heap.size, 0, none⟩) (pnames s).length (pnames s).length, .slice (some ⟨w2.heap.size, 0, none⟩) (pnames s).length (pnames s).length], .int .i64 0]) ?_ rfl ?_
  · simp [results, Tryd.f12, go_sem, x0, x1]
  · refine ⟨hBe, .inl ⟨hE9.out, some ⟨w1.heap.size, 0, none⟩, some ⟨w2.heap.size, 0, none⟩, ?_, hL⟩⟩
    rw [prows_length, ← pnames_length]
end Go.Proofs.YtieamjpfmjkchaaDoor
