/-
  Size and Depth. Condition: the term can be read, and has at most 4194304 terms.
-/
import Derived.Test.YthidblhkajahdaaDoorTmPlaces
namespace Go.Proofs.YthidblhkajahdaaDoor
open Go.RowKit Go.Shelf Go.Tm
attribute [local go_sem] Oper.semAt_some

/-- what a frame keeps while it ranges over places: what lay ahead of it; the iterator's blocks lie behind B -/
structure Fr (n0 B : Nat) (w : World) (T : List Nat) (W : World) : Prop where
  below : Below n0 w W
  lo : ∀ k, k ∈ T → B ≤ k
  n0B : n0 ≤ B
  sz : B ≤ W.heap.size
theorem Fr.calm {n0 B : Nat} {w : World} {T T' : List Nat} {W W' : World} (h : Fr n0 B w T W) (hc : CalmV B T T' W W') : Fr n0 B w T' W' := by
  have hsz := h.sz
  have hnB := h.n0B
  refine ⟨⟨hc.below.os.trans h.below.os, hc.below.tape.trans h.below.tape, hc.below.output.trans h.below.output, Nat.le_trans h.below.size hc.below.size, fun k hk => ?_⟩, fun k hk => ?_, hnB, Nat.le_trans hsz hc.below.size⟩
  · obtain ⟨o, ho⟩ : ∃ o, W.heap[k]? = some o := ⟨_, Array.getElem?_eq_getElem (by omega)⟩
    exact (hc.same k o ho (fun e => by have := h.lo k e; omega) (.inl (by omega))).trans (ho.symm.trans (h.below.block k hk))
  · rcases hc.fresh k hk with h1 | h1
    · exact h.lo k h1
    · omega
theorem Fr.mine {n0 B : Nat} {w : World} {T T' : List Nat} {W W' : World} (h : Fr n0 B w T W) (hc : CalmV B T T' W W') {b : Nat} {o : Obj} (hb : b < B) (ho : W.heap[b]? = some o) : W'.heap[b]? = some o :=
  hc.same b o ho (fun e => by have := h.lo b e; omega) (.inl hb)
/-- one of the frame's own blocks is written -/
theorem Fr.set {n0 B : Nat} {w : World} {T : List Nat} {W : World} (h : Fr n0 B w T W) {b i : Nat} {v : Value} (hb : b < B) (h0 : n0 ≤ b) {cs : Array Value} {t : TypeId} (_ : W.heap[b]? = some (.cells cs t (0, 0))) :
    KeepsFrom B W (W.setCell ⟨b, i, none⟩ v) ∧ KeepT T W (W.setCell ⟨b, i, none⟩ v) ∧ Below n0 W (W.setCell ⟨b, i, none⟩ v) ∧ Fr n0 B w T (W.setCell ⟨b, i, none⟩ v) := by
  have h1 : Below n0 W (W.setCell ⟨b, i, none⟩ v) := (Below.refl n0 W).setCell (p := ⟨b, i, none⟩) h0 v
  refine ⟨(KeepsOthers.setCell _ _ _).from _, fun k hk => Below.heap_setCell _ _ _ _ (fun e => by have := h.lo k hk; simp at e; omega), h1, ⟨h.below.trans h1, h.lo, h.n0B, by have := h.sz; simpa using this⟩⟩
theorem Fr.start (n0 : Nat) {w W : World} (h : Below n0 w W) (hn : n0 ≤ W.heap.size) : Fr n0 W.heap.size w [] W := ⟨h, fun k hk => by simp at hk, hn, Nat.le_refl _⟩
/-- the loop's mark is taken -/
theorem Fr.mark {n0 B : Nat} {w : World} {T : List Nat} {W : World} (h : Fr n0 B w T W) {D : Nat} (hD : B ≤ D) (o : Obj) : Below n0 w (W.putObj D o) :=
  h.below.trans ((Below.refl n0 W).grown (grownBy_putObj' W D o) (Nat.le_trans h.n0B h.sz) (fun k e => by cases e; have := h.n0B; omega))

theorem wrap_next (n : Int) : wrap64 (wrap64 n + 1) = wrap64 (n + 1) := by
  have h : ∀ x : Int, wrap64 x = (x + 9223372036854775808) % 18446744073709551616 - 9223372036854775808 := fun x => by unfold wrap64; rfl
  rw [h, h, h]; omega
theorem wrap64_small (x : Int) (h1 : -9223372036854775808 ≤ x) (h2 : x ≤ 9223372036854775807) : wrap64 x = x := by
  unfold wrap64; omega

set_option maxRecDepth 100000 in
set_option maxHeartbeats 2000000 in
theorem size_any (t : Go.Tm.T) (A : Option Addr) (c : Nat) (w : World) (hsz : t.size ≤ 4194304) (hT : TmV w (· < w.heap.size) t A c) :
    Calls Tryd.prog 10 #[tmV t A c] w fun e w' => e = .returned (.int .i64 (t.size : Nat)) ∧ Below w.heap.size w w' := by
  unfold tmV
  refine (callsIn_wide (n := 6)).1 ?_
  refine callsIn_of_wp_marks Tryd.func10 rfl trivial ?_ rfl
  simp only [Tryd.ntmps10, List.size_toArray, List.length_cons, List.length_nil, Nat.reduceAdd, Nat.reduceSub, Array.replicate_succ, Array.replicate_zero, List.push_toArray, List.append_toArray, List.nil_append, List.cons_append]
  gi_wp2
  refine ⟨trivial, ?_⟩
  refine (callsIn_wide.2 (places_any t A c _)).mono ?_
  rintro e w' ⟨rfl, rfl⟩
  obtain ⟨W3, hW3⟩ : ∃ W3, ((w.alloc (.cells #[.int .i64 t.kind, .string t.name, .int .i64 t.num, .slice A t.kids.length c] 24)).alloc (.cells #[.int .i64 0] 3)).alloc (.cells #[.int .i64 t.kind, .string t.name, .int .i64 t.num, .slice A t.kids.length c] 24) = W3 := ⟨_, rfl⟩
  have hb3 : Below w.heap.size w W3 := by rw [← hW3]; exact (((Below.refl _ w).alloc (Nat.le_refl _) _).alloc (by simp) _).alloc (by simp; omega) _
  have hsz3 : W3.heap.size = w.heap.size + 3 := by rw [← hW3]; simp
  have htb : W3.heap[w.heap.size + 2]? = some (.cells #[.int .i64 t.kind, .string t.name, .int .i64 t.num, .slice A t.kids.length c] 24 (0, 0)) := by
    rw [← hW3]
    have := World.alloc_heap_new ((w.alloc (.cells #[.int .i64 t.kind, .string t.name, .int .i64 t.num, .slice A t.kids.length c] 24)).alloc (.cells #[.int .i64 0] 3)) (.cells #[.int .i64 t.kind, .string t.name, .int .i64 t.num, .slice A t.kids.length c] 24)
    simpa using this
  have hbx : W3.heap[w.heap.size + 1]? = some (.cells #[.int .i64 0] 3 (0, 0)) := by
    rw [← hW3]
    have := World.alloc_heap_new (w.alloc (.cells #[.int .i64 t.kind, .string t.name, .int .i64 t.num, .slice A t.kids.length c] 24)) (.cells #[.int .i64 0] 3)
    rw [World.size_alloc] at this
    exact (Below.heap_alloc _ _ _ (by simp)).trans this
  have hT3 := hT.below hb3
  simp only [World.size_alloc]
  rw [hW3]
  clear hW3 hT
  gi_wp2
  refine wpIn_rangeV (n₀ := w.heap.size) (gf := 49) (lb := #[.pointer (some ⟨w.heap.size + 2, 0, none⟩)]) rfl (enters_of Tryd.func49 (by kernel_rfl) rfl)
    (places_seq 5 w.heap.size (w.heap.size + 2) t A c W3 hsz (by omega) htb hT3) (Below.refl _ _) (fun _ => rfl) (by omega) PlOk.cells
    (fun pre T W => Fr w.heap.size W3.heap.size w T W ∧ W.heap[w.heap.size + 1]? = some (.cells #[.int .i64 (wrap64 pre.length)] 3 (0, 0)))
    (fun _ _ _ => False)
    (fun pre T T' W W' h hc => ⟨h.1.calm hc, h.1.mine hc (by omega) h.2⟩)
    (fun _ _ _ _ _ _ h _ _ _ => h)
    ⟨Fr.start _ hb3 (by omega), by have e : wrap64 (([] : List Pl).length : Int) = 0 := by rw [wrap64_small _ (by simp) (by simp)]; rfl
                                   rw [e]; exact hbx⟩
    (fun x a' _ => a' = { tmps := #[.agg #[.int .i64 t.kind, .string t.name, .int .i64 t.num, .slice A t.kids.length c], .pointer (some ⟨w.heap.size, 0, none⟩), .int .i64 0, .pointer (some ⟨w.heap.size + 1, 0, none⟩), .agg #[.int .i64 t.kind, .string t.name, .int .i64 t.num, .slice A t.kids.length c], .func (.func 49) #[] #[.pointer (some ⟨w.heap.size + 1 + 1, 0, none⟩)], plV x, undef, undef, undef], defers := [] }) (fun _ _ _ _ _ _ h _ _ _ => h) ?assign ?body ?done ?stop
  case assign =>
    intro l pre T x W K hI hV hK
    gi_wp2
    exact hK _ W (Below.refl _ _) hI (by simp)
  case body =>
    rintro l pre T x a' W ⟨hF, hbx⟩ _ rfl _ _
    have c0 := cell_of_row W (w.heap.size + 1) 0 _ _ _ hbx
    have f0 : W.frozen? ⟨w.heap.size + 1, 0, none⟩ = false := frozen_of_row hbx 0
    gi_wp2
    obtain ⟨k1, k2, k3, k4⟩ := hF.set (i := 0) (v := .int .i64 (wrap64 (wrap64 pre.length + 1))) (show w.heap.size + 1 < W3.heap.size by omega) (by omega) hbx
    refine ⟨k1, k2, k3, k4, ?_⟩
    have h9 := heap_setCell_same W (w.heap.size + 1) 0 _ _ (.int .i64 (wrap64 (wrap64 pre.length + 1))) hbx
    rw [List.length_append, List.length_singleton, Int.natCast_add, show ((1 : Nat) : Int) = 1 from rfl, (wrap_next (pre.length : Int)).symm]
    exact h9
  case done =>
    rintro D xs T W hD hS ⟨hF, hbx⟩ hK
    have hlen : xs.length = t.size := by
      have := congrArg List.length hS
      rwa [List.length_map, walk_len] at this
    rw [hlen, wrap64_small _ (by omega) (by omega)] at hbx
    have c0 := cell_of_row W (w.heap.size + 1) 0 _ _ _ hbx
    have hbe := hF.mark hD (.deferred none)
    gi_wp2
    refine ⟨by simp, .inl ⟨_, _, rfl, run_takeDeferred hK, ?_⟩⟩
    exact ⟨_, results_tmp rfl _ _ _, rfl, hbe⟩
  case stop =>
    rintro D cc pre W _ _ h _
    exact h.elim
end Go.Proofs.YthidblhkajahdaaDoor
