/-
  Depth. Condition: the term can be read, and has at most 4194304 terms.
-/
import Derived.Test.YthidblhkajahdaaDoorTmSize
namespace Go.Tm
def mx : List P3 → Nat
  | [] => 0
  | p :: l => max p.2.2 (mx l)
theorem mx_app : ∀ a b : List P3, mx (a ++ b) = max (mx a) (mx b)
  | [], b => by simp [mx]
  | p :: a, b => by rw [List.cons_append, mx, mx, mx_app a b]; omega
mutual
theorem mx_walk (par : T) (kid : Nat) : ∀ (d : Nat) (t : T), mx (walk par kid (d + 1) t) = d + t.depth
  | d, .node k s n ks => by
    rw [walk, mx, mx_walks (.node k s n ks) 0 (d + 1) ks, T.depth]
    show max (d + 1) _ = _
    split <;> omega
theorem mx_walks (par : T) (i : Nat) : ∀ (d : Nat) (ts : List T), mx (walks par i (d + 1) ts) = if depths ts = 0 then 0 else d + depths ts
  | d, [] => by rw [walks, depths]; rfl
  | d, t :: ts => by
    have h1 : 1 ≤ t.depth := by cases t; rw [T.depth]; omega
    rw [walks, mx_app, mx_walk par i d t, mx_walks par (i + 1) d ts, depths]
    split <;> rw [if_neg (by omega)] <;> omega
end
mutual
theorem depth_le : ∀ t : T, t.depth ≤ t.size
  | .node k s n ks => by rw [T.depth, T.size]; have := depths_le ks; omega
theorem depths_le : ∀ ts : List T, depths ts ≤ sizes ts
  | [] => by rw [depths, sizes]; exact Nat.le_refl _
  | t :: ts => by
    rw [depths, sizes]
    have := depth_le t
    have := depths_le ts
    omega
end
end Go.Tm
namespace Go.Proofs.YthidblhkajahdaaDoor
open Go.RowKit Go.Shelf Go.Tm
attribute [local go_sem] Oper.semAt_some

theorem KeepC.alloc (W : World) (o : Obj) : KeepC W (W.alloc o) := fun k _ hk _ => (Below.heap_alloc W o k (World.lt_of_get hk)).trans hk
/-- the round's own box, laid by the assignment -/
def PBox (x : Pl) (b : Nat) (W : World) : Prop := W.heap[b]? = some (.cells #[.pointer (some ⟨x.blk, x.off, none⟩), .int .i64 x.kid, .int .i64 x.depth] 63 (0, 0))
theorem PBox.putObj {x : Pl} {b : Nat} {W : World} {l : Nat} {o o' : Obj} (h : PBox x b W) (hl : W.heap[l]? = some o) (ho : o.isCells = false) : PBox x b (W.putObj l o') :=
  (World.putObj_heap_other (fun e => by subst e; rw [show W.heap[b]? = _ from h] at hl; cases hl; cases ho)).trans h
theorem Fr.grow {n0 B : Nat} {w : World} {T : List Nat} {W : World} (h : Fr n0 B w T W) (o : Obj) : Fr n0 B w T (W.alloc o) :=
  ⟨h.below.trans ((later_alloc W o).mono (Nat.le_trans h.n0B h.sz)), h.lo, h.n0B, by have := h.sz; simp; omega⟩

set_option maxRecDepth 100000 in
set_option maxHeartbeats 2000000 in
theorem depth_any (t : Go.Tm.T) (A : Option Addr) (c : Nat) (w : World) (hsz : t.size ≤ 4194304) (hT : TmV w (· < w.heap.size) t A c) :
    Calls Tryd.prog 12 #[tmV t A c] w fun e w' => e = .returned (.int .i64 (t.depth : Nat)) ∧ Below w.heap.size w w' := by
  unfold tmV
  refine (callsIn_wide (n := 6)).1 ?_
  refine callsIn_of_wp_marks Tryd.func12 rfl trivial ?_ rfl
  simp only [Tryd.ntmps12, List.size_toArray, List.length_cons, List.length_nil, Nat.reduceAdd, Nat.reduceSub, Array.replicate_succ, Array.replicate_zero, List.push_toArray, List.append_toArray, List.nil_append, List.cons_append]
  gi_wp2
  refine ⟨trivial, ?_⟩
  refine (callsIn_wide.2 (places_any t A c _)).mono ?_
  rintro e w' ⟨rfl, rfl⟩
  obtain ⟨W3, hW3⟩ : ∃ W3, ((w.alloc (.cells #[.int .i64 t.kind, .string t.name, .int .i64 t.num, .slice A t.kids.length c] 24)).alloc (.cells #[.int .i64 0] 3)).alloc (.cells #[.int .i64 t.kind, .string t.name, .int .i64 t.num, .slice A t.kids.length c] 24) = W3 := ⟨_, rfl⟩
  have hb3 : Below w.heap.size w W3 := by rw [← hW3]; exact (((Below.refl _ w).alloc (Nat.le_refl _) _).alloc (by simp) _).alloc (by simp; omega) _
  have hsz3 : W3.heap.size = w.heap.size + 3 := by rw [← hW3]; simp
  have htb : W3.heap[w.heap.size + 2]? = some (.cells #[.int .i64 t.kind, .string t.name, .int .i64 t.num, .slice A t.kids.length c] 24 (0, 0)) := by
    rw [← hW3]
    have := World.alloc_heap_new ((w.alloc (.cells #[.int .i64 t.kind, .string t.name, .int .i64 t.num, .slice A t.kids.length c] 24)).alloc (.cells #[.int .i64 0] 3)) (.cells #[.int .i64 t.kind, .string t.name, .int .i64 t.num, .slice A t.kids.length c] 24)
    simpa using this
  have hbx : W3.heap[w.heap.size + 1]? = some (.cells #[.int .i64 0] 3 (0, 0)) := by
    rw [← hW3]
    have := World.alloc_heap_new (w.alloc (.cells #[.int .i64 t.kind, .string t.name, .int .i64 t.num, .slice A t.kids.length c] 24)) (.cells #[.int .i64 0] 3)
    rw [World.size_alloc] at this
    exact (Below.heap_alloc _ _ _ (by simp)).trans this
  have hT3 := hT.below hb3
  simp only [World.size_alloc]
  rw [hW3]
  clear hW3 hT
  gi_wp2
  refine wpIn_rangeV (n₀ := w.heap.size) (gf := 49) (lb := #[.pointer (some ⟨w.heap.size + 2, 0, none⟩)]) rfl (enters_of Tryd.func49 (by kernel_rfl) rfl)
    (places_seq 5 w.heap.size (w.heap.size + 2) t A c W3 hsz (by omega) htb hT3) (Below.refl _ _) (fun _ => rfl) (by omega) PlOk.cells
    (fun pre T W => Fr w.heap.size W3.heap.size w T W ∧ W.heap[w.heap.size + 1]? = some (.cells #[.int .i64 (mx (pre.map Pl.p3))] 3 (0, 0)))
    (fun _ _ _ => False)
    (fun pre T T' W W' h hc => ⟨h.1.calm hc, h.1.mine hc (by omega) h.2⟩)
    (fun _ _ _ _ _ _ h _ _ _ => h)
    ⟨Fr.start _ hb3 (by omega), hbx⟩
    (fun x a' W => ∃ b, PBox x b W ∧ a' = { tmps := #[.agg #[.int .i64 t.kind, .string t.name, .int .i64 t.num, .slice A t.kids.length c], .pointer (some ⟨w.heap.size, 0, none⟩), .int .i64 0, .pointer (some ⟨w.heap.size + 1, 0, none⟩), .pointer (some ⟨b, 0, none⟩), .agg #[.int .i64 t.kind, .string t.name, .int .i64 t.num, .slice A t.kids.length c], .func (.func 49) #[] #[.pointer (some ⟨w.heap.size + 1 + 1, 0, none⟩)], plV x, undef, undef, undef, undef, undef], defers := [] }) (fun x a' W l o o' ⟨b, h, e⟩ _ hl ho => ⟨b, h.putObj hl ho, e⟩) ?assign ?body ?done ?stop
  case assign =>
    intro l pre T x W K hI hV hK
    unfold plV
    gi_wp2
    refine hK _ _ (later_alloc W _) ⟨hI.1.grow _, (Below.heap_alloc W _ _ (World.lt_of_get hI.2)).trans hI.2⟩ ⟨W.heap.size, World.alloc_heap_new W _, ?_⟩
    simp [plV]
  case body =>
    rintro l pre T x a' W ⟨hF, hbx⟩ _ ⟨b, hb, rfl⟩ _ _
    have c0 := cell_of_row W (w.heap.size + 1) 0 _ _ _ hbx
    have f0 : W.frozen? ⟨w.heap.size + 1, 0, none⟩ = false := frozen_of_row hbx 0
    have c1 := cell_of_row W b 2 _ _ _ hb
    have hmx : mx ((pre ++ [x]).map Pl.p3) = max (mx (pre.map Pl.p3)) x.depth := by
      rw [List.map_append, mx_app]
      simp [mx, Pl.p3]
    have fin : ∀ v : Int, v = ((mx ((pre ++ [x]).map Pl.p3) : Nat) : Int) → Hid (KeepsFrom W3.heap.size W (W.setCell ⟨w.heap.size + 1, 0, none⟩ (.int .i64 v)) ∧ KeepT T W (W.setCell ⟨w.heap.size + 1, 0, none⟩ (.int .i64 v)) ∧ Below w.heap.size W (W.setCell ⟨w.heap.size + 1, 0, none⟩ (.int .i64 v)) ∧ (Fr w.heap.size W3.heap.size w T (W.setCell ⟨w.heap.size + 1, 0, none⟩ (.int .i64 v)) ∧ (W.setCell ⟨w.heap.size + 1, 0, none⟩ (.int .i64 v)).heap[w.heap.size + 1]? = some (.cells #[.int .i64 (mx ((pre ++ [x]).map Pl.p3))] 3 (0, 0)))) := fun v e => by
      subst e
      obtain ⟨k1, k2, k3, k4⟩ := hF.set (i := 0) (v := .int .i64 (mx ((pre ++ [x]).map Pl.p3))) (show w.heap.size + 1 < W3.heap.size by omega) (by omega) hbx
      exact ⟨k1, k2, k3, k4, heap_setCell_same W (w.heap.size + 1) 0 _ _ (.int .i64 (mx ((pre ++ [x]).map Pl.p3))) hbx⟩
    replace fin := Lib.hid fin
    replace hmx := Lib.hid hmx
    rw [hsz3] at fin
    gi_wp2
    · exact (fin.out _ (by rw [hmx.out]; omega)).out
    · exact (fin.out _ (by rw [hmx.out]; omega)).out
  case done =>
    rintro D xs T W hD hS ⟨hF, hbx⟩ hK
    rw [hS, mx_walk] at hbx
    have hdl := depth_le t
    rw [Nat.zero_add] at hbx
    have c0 := cell_of_row W (w.heap.size + 1) 0 _ _ _ hbx
    have hbe := hF.mark hD (.deferred none)
    gi_wp2
    refine ⟨by simp, .inl ⟨_, _, rfl, run_takeDeferred hK, ?_⟩⟩
    exact ⟨_, results_tmp rfl _ _ _, rfl, hbe⟩
  case stop =>
    rintro D cc pre W _ _ h _
    exact h.elim
end Go.Proofs.YthidblhkajahdaaDoor
