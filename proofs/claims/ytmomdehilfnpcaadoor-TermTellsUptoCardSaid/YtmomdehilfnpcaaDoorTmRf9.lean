/-
  The reference's Add: a text in a list by their bytes, once. Conditions: the list is its own, sorted, of at most 2^32 texts.
-/
import Derived.Test.YtmomdehilfnpcaaDoorTmRf8
import Derived.Test.YtmomdehilfnpcaaDoorTmEx
import Derived.Sort.Walk0
import Derived.Deep.RegionLaw
import Derived.Laws.OwnMore
namespace Go.Proofs.YtmomdehilfnpcaaDoor
open Go.RowKit Go.Shelf Go.Tm Go.Maps
attribute [local go_sem] Oper.semAt_some
attribute [local go_sem ↓] Go.wp_at_zero Go.wp_at_succ

abbrev ltS (a b : ByteArray) : Prop := a.data.toList < b.data.toList
theorem ltS_less {a b : ByteArray} : Op.bytesLess a.toList b.toList = decide (ltS a b) := by
  rw [bytesLess_eq, ByteArray.toList_eq, ByteArray.toList_eq]
theorem strB_inj {a b : ByteArray} (h : a.data.toList = b.data.toList) : a = b := by
  cases a; cases b
  rw [ByteArray.mk.injEq]
  exact Array.toList_inj.1 h
theorem ltS_or {a b : ByteArray} (h : ¬ ltS a b) (hne : a ≠ b) : ltS b a := by
  by_cases h2 : ltS b a
  · exact h2
  · exact absurd (strB_inj (List.le_antisymm (List.not_lt.1 h2) (List.not_lt.1 h))) hne
theorem ltS_trans {a b c : ByteArray} (h : ltS a b) (k : ltS b c) : ltS a c := List.lt_trans h k
theorem ltS_ne {a b : ByteArray} (h : ltS a b) : a ≠ b := fun e => by subst e; exact absurd h (List.lt_irrefl _)
/-- sorted, without doubles -/
abbrev Srt (M : List ByteArray) : Prop := M.Pairwise ltS
theorem Srt.le {M : List ByteArray} (h : Srt M) : M.Pairwise (fun a b => a.data.toList ≤ b.data.toList) := h.imp fun h => List.le_of_lt h
theorem Srt.nodup {M : List ByteArray} (h : Srt M) : M.Nodup := h.imp fun h => ltS_ne h
theorem srt_ins {M : List ByteArray} {s : ByteArray} {k : Nat} (h : Srt M) (hk : k ≤ M.length) (h1 : ∀ j, j < k → ltS (M.getD j ⟨#[]⟩) s) (h2 : k < M.length → ltS s (M.getD k ⟨#[]⟩)) : Srt (M.take k ++ s :: M.drop k) := by
  refine List.pairwise_append.2 ⟨h.sublist (List.take_sublist _ _), ?_, ?_⟩
  · refine List.pairwise_cons.2 ⟨fun x hx => ?_, h.sublist (List.drop_sublist _ _)⟩
    obtain ⟨j, hj, rfl⟩ := List.getElem_of_mem hx
    rw [List.length_drop] at hj
    rw [List.getElem_drop]
    have hk2 : k < M.length := by omega
    have h3 := h2 hk2
    rw [List.getD_eq_getElem?_getD, List.getElem?_eq_getElem hk2] at h3
    by_cases e : j = 0
    · subst e; exact h3
    · exact ltS_trans h3 (List.pairwise_iff_getElem.1 h k (k + j) hk2 (by omega) (by omega))
  · intro a ha b hb
    obtain ⟨i, hi, rfl⟩ := List.getElem_of_mem ha
    rw [List.length_take] at hi
    rw [List.getElem_take]
    have h3 := h1 i (by omega)
    rw [List.getD_eq_getElem?_getD, List.getElem?_eq_getElem (by omega)] at h3
    have h3 : ltS M[i] s := h3
    rcases List.mem_cons.1 hb with rfl | hb
    · exact h3
    · obtain ⟨j, hj, rfl⟩ := List.getElem_of_mem hb
      have hj0 := hj
      rw [List.length_drop] at hj0
      rw [List.getElem_drop]
      exact List.pairwise_iff_getElem.1 h i (k + j) (by omega) (by omega) (by omega)
/-- what Add makes of a list -/
structure Added (M M' : List ByteArray) (s : ByteArray) : Prop where
  srt : Srt M'
  mem : ∀ x, x ∈ M' ↔ x ∈ M ∨ x = s
theorem added_same {M : List ByteArray} {s : ByteArray} (h : Srt M) (hs : s ∈ M) : Added M M s := ⟨h, fun _ => ⟨.inl, fun h => h.elim id (fun e => e ▸ hs)⟩⟩
theorem added_ins {M : List ByteArray} {s : ByteArray} {k : Nat} (h : Srt M) (hk : k ≤ M.length) (h1 : ∀ j, j < k → ltS (M.getD j ⟨#[]⟩) s) (h2 : k < M.length → ltS s (M.getD k ⟨#[]⟩)) : Added M (M.take k ++ s :: M.drop k) s :=
  ⟨srt_ins h hk h1 h2, fun x => by
    have e : x ∈ M ↔ x ∈ M.take k ∨ x ∈ M.drop k := by rw [← List.mem_append, List.take_append_drop]
    rw [List.mem_append, List.mem_cons, e]
    constructor
    · rintro (h | h | h)
      · exact .inl (.inl h)
      · exact .inr h
      · exact .inl (.inr h)
    · rintro ((h | h) | h)
      · exact .inl h
      · exact .inr (.inr h)
      · exact .inr (.inl h)⟩
theorem info_strA : (Tryd.prog.info? 9).map (fun i => (i.zero, i.size, i.bytes)) = some (some (.string ⟨#[]⟩), 1, 16) := by kernel_rfl
/-- an append to what was gathered, at a step of a region that draws its order -/
theorem step_append_held {P : Program} {ops : Array Oper} {o : Oper} {a : Act} {w : World} {K : Act → World → Prop} {Q : Exit → Act → World → Prop} {E : Prop}
    (hg : o.guard = none) (s x : Operand) (t : TypeId) (hop : o.op = Op.call { callee := Callee.builtin Builtin.append, args := #[s, x], argTypes := #[t, t] })
    (base : Nat) (e : TypeId) (i : TypeInfo) (z : Value) (size bytes : Nat) (h1 : P.underlying t = some (.slice e)) (h2 : P.info? e = some i) (h3 : i.zero = some z) (h4 : i.size = size) (h5 : i.bytes = bytes) (h6 : z.cells.size = size) (h7 : 0 < size)
    (v : Value) (n : Nat) (xs : List Value) (hs : a.eval s = v) (hown : w.ownsRow base e size v n xs)
    (ad : Addr) (m c : Nat) (news : List Value) (hx : a.eval x = .slice (some ad) m c) (hn : news.length = m * size) (hc : ∀ j u, news[j]? = some u → w.cell? (ad.add j) = some u) (h1c : ∀ u ∈ news, u.oneCell' = true)
    (b1 : n + m ≤ maxLen) (b2 : (n + m) * bytes ≤ 140737488355328) (hbase : base ≤ w.heap.size)
    (hK : ∀ v' w', w'.ownsRow base e size v' (n + m) (xs ++ news) → w.grownBy w' v.ownBlock → K (a.put o.dst v') w') :
    if Region.wanted o (yielded ops a.tmps) = true then Oper.wp P o a w K Q else E := by
  have hw : Region.wanted o (yielded ops a.tmps) = true := by simp [Region.wanted, hg]
  rw [if_pos hw]
  obtain ⟨v', w', hrun, r1, r2, _⟩ := run_append_own (P := P) w base t o.type e i z size bytes h1 h2 h3 h4 h5 h6 h7 v n xs hown ad m c news hn hc h1c b1 b2 hbase
  unfold Oper.wp
  simp [execOp, hop, resolve, invoke, builtin, hs, hx, hrun, Result.andThen]
  exact hK v' w' r1 r2
/-- the same, the source ahead: an arm that does not fit falls at once -/
theorem step_append_x {P : Program} {ops : Array Oper} {o : Oper} {a : Act} {w : World} {K : Act → World → Prop} {Q : Exit → Act → World → Prop} {E : Prop}
    (D : Nat) (_ : o.dst = some D) (hg : o.guard = none) (s x : Operand) (t : TypeId) (hop : o.op = Op.call { callee := Callee.builtin Builtin.append, args := #[s, x], argTypes := #[t, t] })
    (ad : Addr) (m c : Nat) (hx : a.eval x = .slice (some ad) m c) (v : Value) (hs : a.eval s = v)
    (base : Nat) (e : TypeId) (i : TypeInfo) (z : Value) (size bytes : Nat) (h1 : P.underlying t = some (.slice e)) (h2 : P.info? e = some i) (h3 : i.zero = some z) (h4 : i.size = size) (h5 : i.bytes = bytes) (h6 : z.cells.size = size) (h7 : 0 < size)
    (n : Nat) (xs : List Value) (hown : w.ownsRow base e size v n xs)
    (news : List Value) (hn : news.length = m * size) (hc : ∀ j u, news[j]? = some u → w.cell? (ad.add j) = some u) (h1c : ∀ u ∈ news, u.oneCell' = true)
    (b1 : n + m ≤ maxLen) (b2 : (n + m) * bytes ≤ 140737488355328) (hbase : base ≤ w.heap.size)
    (hK : ∀ v' w', w'.ownsRow base e size v' (n + m) (xs ++ news) → w.grownBy w' v.ownBlock → K (a.put o.dst v') w') :
    if Region.wanted o (yielded ops a.tmps) = true then Oper.wp P o a w K Q else E :=
  step_append_held hg s x t hop base e i z size bytes h1 h2 h3 h4 h5 h6 h7 v n xs hs hown ad m c news hx hn hc h1c b1 b2 hbase hK
theorem step_append_nil {P : Program} {ops : Array Oper} {o : Oper} {a : Act} {w : World} {K : Act → World → Prop} {Q : Exit → Act → World → Prop} {E : Prop}
    (D : Nat) (_ : o.dst = some D) (hg : o.guard = none) (s x : Operand) (t : TypeId) (hop : o.op = Op.call { callee := Callee.builtin Builtin.append, args := #[s, x], argTypes := #[t, t] })
    (base : Nat) (e : TypeId) (i : TypeInfo) (size : Nat) (h1 : P.underlying t = some (.slice e)) (h2 : P.info? e = some i)
    (v : Value) (n : Nat) (xs : List Value) (hs : a.eval s = v) (hown : w.ownsRow base e size v n xs) (hx : a.eval x = .slice none 0 0)
    (hK : K (a.put o.dst v) w) :
    if Region.wanted o (yielded ops a.tmps) = true then Oper.wp P o a w K Q else E := by
  have hw : Region.wanted o (yielded ops a.tmps) = true := by simp [Region.wanted, hg]
  rw [if_pos hw]
  have hrun := run_append_owned_none (P := P) (w := w) base t o.type e i size h1 h2 v n xs hown
  unfold Oper.wp
  simp [execOp, hop, resolve, invoke, builtin, hs, hx, hrun, Result.andThen]
  exact hK

set_option maxRecDepth 100000 in
set_option maxHeartbeats 4000000 in
/-- to a list of none -/
theorem refadd_nil (s : ByteArray) (base : Nat) (w : World) (hb : base ≤ w.heap.size) :
    Calls Tryd.prog 42 #[.slice none 0 0, .string s] w fun e w' => ∃ v, e = .returned v ∧ w'.ownsRow base 9 1 v 1 [.string s] ∧ Below w.heap.size w w' := by
  obtain ⟨i0, hi, hi2⟩ := Option.map_eq_some_iff.1 info_strA
  obtain ⟨hz0, hz1, hz2⟩ : i0.zero = some (.string ⟨#[]⟩) ∧ i0.size = 1 ∧ i0.bytes = 16 := by
    injection hi2 with h1 h2; injection h2 with h2 h3; exact ⟨h1, h2, h3⟩
  replace hi := Lib.hid hi
  replace hz0 := Lib.hid hz0
  replace hz1 := Lib.hid hz1
  replace hz2 := Lib.hid hz2
  clear hi2
  have hb9 : Hid (Below w.heap.size w (w.drew.alloc (.cells #[.string s] 9))) := (Below.refl _ _).drew.alloc (Nat.le_refl _) _
  have hc9 : Hid ((w.drew.alloc (.cells #[.string s] 9)).heap[w.heap.size]? = some (.cells #[.string s] 9 (0, 0))) := World.alloc_heap_new w.drew (.cells #[.string s] 9)
  go_enter Tryd.func42, Tryd.ntmps42
  go_wp2_with fail
  go_loop [5] (fun i => i = .int .i64 0) (fun _ => 0)
  case atStart => rfl
  case round =>
    subst hrel
    go_wp2_with fail
    go_region_law (first
      | (refine step_append_nil 36 rfl rfl (.const (.slice none 0 0)) (.tmp 35) 37 rfl base 9 i0 1 Tryd.underlying37 hi.out _ 0 [] rfl (World.ownsRow_nil _ _ _ _) (by go_simp) ?_)
      | (refine step_append_held rfl (.tmp 36) (.tmp 38) 37 rfl base 9 i0 (.string ⟨#[]⟩) 1 16 Tryd.underlying37 hi.out hz0.out hz1.out hz2.out rfl (by decide) _ 0 [] (by go_simp) (World.ownsRow_nil _ _ _ _) ⟨w.heap.size, 0, none⟩ 1 1 [.string s] (by go_simp) rfl (by
            intro j u hj
            match j, hj with
            | 0, hj => cases hj; exact cell_of_row _ _ 0 _ _ _ hc9.out
            | j + 1, hj => simp at hj) (by intro u hu; simp at hu; subst hu; rfl) (by decide) (by decide) (Nat.le_trans hb hb9.out.size) ?_
         intro v1 w1 hown1 hgrow
         have hb1 := Lib.hid (hb9.out.grown hgrow hb9.out.size (fun k e => by cases e))
         replace hown1 := Lib.hid hown1
         clear hgrow)
      | (refine step_append_nil 43 rfl rfl (.tmp 39) (.tmp 42) 37 rfl base 9 i0 1 Tryd.underlying37 hi.out _ _ _ (by go_simp) hown1.out (by go_simp) ?_))
    all_goals go_wp2_with fail
    all_goals go_ret
    all_goals exact ⟨_, rfl, hown1.out, hb1.out⟩

theorem add_off (b o j : Nat) : (⟨b, o, none⟩ : Addr).add j = ⟨b, o + j, none⟩ := by
  unfold Addr.add
  split
  · rename_i h0; subst h0; rfl
  · simp
theorem news_at {w : World} {M : List ByteArray} {g n k : Nat} (h : ∀ W : World, Below w.heap.size w W → ∀ j, j < n → W.cell? ⟨g, j, none⟩ = some (.string (M.getD j ⟨#[]⟩))) (hn : M.length = n) (W : World) (hb : Below w.heap.size w W) (j : Nat) (u : Value) (hu : ((M.take k).map Value.string)[j]? = some u) : W.cell? ((⟨g, 0, none⟩ : Addr).add j) = some u := by
  rw [add_off, Nat.zero_add]
  rw [List.getElem?_map, List.getElem?_take] at hu
  split at hu
  · obtain ⟨x, hx, rfl⟩ := Option.map_eq_some_iff.1 hu
    obtain ⟨hj, rfl⟩ := List.getElem?_eq_some_iff.1 hx
    rw [h W hb j (by omega), List.getD_eq_getElem?_getD, hx]; rfl
  · cases hu
theorem news_from {w : World} {M : List ByteArray} {g n k : Nat} (h : ∀ W : World, Below w.heap.size w W → ∀ j, j < n → W.cell? ⟨g, j, none⟩ = some (.string (M.getD j ⟨#[]⟩))) (hn : M.length = n) (W : World) (hb : Below w.heap.size w W) (j : Nat) (u : Value) (hu : ((M.drop k).map Value.string)[j]? = some u) : W.cell? ((⟨g, k, none⟩ : Addr).add j) = some u := by
  rw [add_off]
  rw [List.getElem?_map, List.getElem?_drop] at hu
  obtain ⟨x, hx, rfl⟩ := Option.map_eq_some_iff.1 hu
  obtain ⟨hj, rfl⟩ := List.getElem?_eq_some_iff.1 hx
  rw [h W hb (k + j) (by omega), List.getD_eq_getElem?_getD, hx]; rfl
theorem one_str (l : List ByteArray) (u : Value) (hu : u ∈ l.map Value.string) : u.oneCell' = true := by
  obtain ⟨x, _, rfl⟩ := List.mem_map.1 hu
  rfl
theorem box_new (W : World) (s : ByteArray) : (W.alloc (.cells #[.string s] 9)).heap[W.heap.size]? = some (.cells #[.string s] 9 (0, 0)) := World.alloc_heap_new _ _
theorem box_cell {W : World} {b : Nat} {s : ByteArray} (h : W.heap[b]? = some (.cells #[.string s] 9 (0, 0))) (j : Nat) (u : Value) (hu : [Value.string s][j]? = some u) : W.cell? ((⟨b, 0, none⟩ : Addr).add j) = some u := by
  rw [add_off, Nat.zero_add]
  match j, hu with
  | 0, hu => cases hu; exact cell_of_row _ _ 0 _ _ _ h
  | j + 1, hu => simp at hu
theorem box_grown {W w1 : World} (h : W.grownBy w1 none) (b : Nat) (o : Obj) (hb : W.heap[b]? = some o) : w1.heap[b]? = some o := (h.block b (World.lt_of_get hb) (fun e => by cases e)).trans hb
theorem own_alloc {W : World} {base size n : Nat} {e : TypeId} {v : Value} {xs : List Value} (h : W.ownsRow base e size v n xs) (o : Obj) : (W.alloc o).ownsRow base e size v n xs := ownsRow_same h fun g hg => by
  obtain ⟨cur, hc, _⟩ := ownsRow_at h hg
  exact Below.heap_alloc W o g (World.lt_of_get hc)
theorem own_ge {W : World} {base size n : Nat} {e : TypeId} {v : Value} {xs : List Value} (h : W.ownsRow base e size v n xs) (k : Nat) (hk : v.ownBlock = some k) : base ≤ k := (ownsRow_at h hk).choose_spec.2
theorem own_mono {W : World} {base base' size n : Nat} {e : TypeId} {v : Value} {xs : List Value} (h : W.ownsRow base e size v n xs) (hb : base' ≤ base) : W.ownsRow base' e size v n xs := by
  obtain ⟨h1, h2 | ⟨g, cap, cur, hv, hg, r⟩⟩ := h
  · exact ⟨h1, .inl h2⟩
  · exact ⟨h1, .inr ⟨g, cap, cur, hv, Nat.le_trans hb hg, r⟩⟩
def AddPost (base : Nat) (M : List ByteArray) (s : ByteArray) (w : World) (v : Value) (w' : World) : Prop := ∃ M', w'.ownsRow base 9 1 v M'.length (M'.map .string) ∧ Added M M' s ∧ M'.length ≤ M.length + 1 ∧ Below w.heap.size w w'
theorem own_str {W : World} {g cap : Nat} {base : Nat} {M : List ByteArray} (h : W.ownsRow base 9 1 (.slice (some ⟨g, 0, none⟩) M.length cap) M.length (M.map .string)) (j : Nat) (hj : j < M.length) : W.cell? ⟨g, j, none⟩ = some (.string (M.getD j ⟨#[]⟩)) := by
  obtain ⟨_, ⟨h1, _⟩ | ⟨g', cap', cur, h1, _, hg, _, _, _, h5⟩⟩ := h
  · cases h1
  · injection h1 with h1 _ _
    injection h1 with h1
    injection h1 with h1
    subst h1
    rw [cell_of_row W g j _ _ _ hg]
    have e : (cur.toList.take (M.length * 1))[j]? = (M.map Value.string)[j]? := by rw [h5]
    rw [List.getElem?_take_of_lt (by omega), Array.getElem?_toList, List.getElem?_map, List.getElem?_eq_getElem hj] at e
    rw [e, List.getD_eq_getElem?_getD, List.getElem?_eq_getElem hj]; rfl
theorem own_fin {W : World} {base base' m k : Nat} {v : Value} {M : List ByteArray} {s : ByteArray} (h : W.ownsRow base 9 1 v (0 + k + 1 + m) ([] ++ (M.take k).map .string ++ [.string s] ++ (M.drop k).map .string)) (hb : base' ≤ base) (h1 : (M.take k).length = k) (h2 : (M.drop k).length = m) :
    W.ownsRow base' 9 1 v (M.take k ++ s :: M.drop k).length ((M.take k ++ s :: M.drop k).map .string) := by
  have e1 : (M.take k ++ s :: M.drop k).length = 0 + k + 1 + m := by rw [List.length_append, List.length_cons, h1, h2]; omega
  have e2 : ((M.take k ++ s :: M.drop k).map Value.string) = [] ++ (M.take k).map .string ++ [.string s] ++ (M.drop k).map .string := by simp
  rw [e1, e2]
  exact own_mono h hb
end Go.Proofs.YtmomdehilfnpcaaDoor
