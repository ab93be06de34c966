/-
  The reference's Size and Depth of a term. Conditions: the term can be read; its size is below 2^62.
  Lists of tokens that are a call's own; the parts that a term is laid of, as values. No condition.
-/
import Derived.Test.YtpdombmpmhnolaaGreatDoorTmSame
import Derived.Test.YtpdombmpmhnolaaGreatDoorShMath
import Derived.Test.YtpdombmpmhnolaaGreatDoorLxBase
namespace Go.Proofs.YtpdombmpmhnolaaGreatDoor
open Go.RowKit Go.Shelf Go.Tm

/-- a node's header, and itself by value -/
theorem node_tmv {W : World} {p : Nat → Prop} {b o : Nat} : ∀ {t : Go.Tm.T}, NodeAt W p b o t → ∃ A c, Hdr W p b o t A c ∧ TmV W p t A c
  | .node k s n ks, h => by
    have h' := h
    rw [NodeAt] at h'
    obtain ⟨hb, hz, h0, h1, h2, A, c, h3, h4⟩ := h'
    refine ⟨A, c, ⟨hb, hz, h0, h1, h2, h3, fun i hi => ?_⟩, hz, h4⟩
    rcases h4 with rfl | ⟨kb, ko, rfl, h5⟩
    · exact absurd hi (Nat.not_lt_zero i)
    · exact ⟨kb, ko, rfl, RowAt.get i h5 hi⟩
theorem sizes_snoc : ∀ (ks : List Go.Tm.T) (k : Nat), k < ks.length → sizes (ks.take (k + 1)) = sizes (ks.take k) + (ks.getD k default).size
  | [], _, h => absurd h (Nat.not_lt_zero _)
  | t :: ts, 0, _ => by
    rw [List.take_succ_cons, List.take_zero, List.take_zero, sizes, sizes]
    show t.size + 0 = 0 + t.size
    omega
  | t :: ts, k + 1, h => by
    rw [List.take_succ_cons, List.take_succ_cons, sizes, sizes, sizes_snoc ts k (by simpa using h)]
    show _ = _ + (ts.getD k default).size
    omega
theorem sizes_take_le : ∀ (ks : List Go.Tm.T) (k : Nat), sizes (ks.take k) ≤ sizes ks
  | [], k => by rw [List.take_nil]; exact Nat.le_refl _
  | t :: ts, 0 => by rw [List.take_zero, sizes]; exact Nat.zero_le _
  | t :: ts, k + 1 => by rw [List.take_succ_cons, sizes, sizes]; have := sizes_take_le ts k; omega
theorem kids_lt (t : Go.Tm.T) : sizes t.kids + 1 = t.size := by
  cases t with
  | node k s n ks => rw [T.size]; show sizes ks + 1 = _; omega
theorem len_sizes : ∀ ks : List Go.Tm.T, ks.length ≤ sizes ks
  | [] => by rw [sizes]; exact Nat.le_refl _
  | t :: ts => by rw [sizes, List.length_cons]; have := len_sizes ts; have := kids_lt t; omega
theorem depths_snoc : ∀ (ks : List Go.Tm.T) (k : Nat), k < ks.length → depths (ks.take (k + 1)) = max (depths (ks.take k)) (ks.getD k default).depth
  | [], _, h => absurd h (Nat.not_lt_zero _)
  | t :: ts, 0, _ => by
    rw [List.take_succ_cons, List.take_zero, List.take_zero, depths, depths]
    show max t.depth 0 = max 0 t.depth
    omega
  | t :: ts, k + 1, h => by
    rw [List.take_succ_cons, List.take_succ_cons, depths, depths, depths_snoc ts k (by simpa using h)]
    show _ = max _ (ts.getD k default).depth
    omega
theorem kids_depth (t : Go.Tm.T) : depths t.kids + 1 = t.depth := by
  cases t with
  | node k s n ks => rw [T.depth]; show depths ks + 1 = _; omega

set_option maxRecDepth 100000 in
set_option maxHeartbeats 2000000 in
theorem refsize_any : ∀ (n : Nat) (t : Go.Tm.T) (A : Option Addr) (c : Nat) (w : World), t.size ≤ n → t.size ≤ 4611686018427387904 → TmV w (· < w.heap.size) t A c →
    Calls Tryz.prog 36 #[tmV t A c] w fun e w' => e = .returned (.int .i64 (t.size : Nat)) ∧ Below w.heap.size w w'
  | 0, t, _, _, _, h, _, _ => by have := kids_lt t; omega
  | n + 1, t, A, c, w, hn, hz, hT => by
    have IH := Lib.hid (refsize_any n)
    have hks := kids_lt t
    replace hT := Lib.hid hT
    unfold tmV
    obtain ⟨L, hL⟩ : ∃ L, t.kids.length = L := ⟨_, rfl⟩
    rw [hL]
    have hLs : L ≤ sizes t.kids := by rw [← hL]; exact len_sizes _
    obtain ⟨V, hV⟩ : ∃ V, w.alloc (.cells #[.int .i64 t.kind, .string t.name, .int .i64 t.num, .slice A L c] 32) = V := ⟨_, rfl⟩
    have hbx : Hid (V.heap[w.heap.size]? = some (.cells #[.int .i64 t.kind, .string t.name, .int .i64 t.num, .slice A L c] 32 (0, 0))) := by show _ = _; rw [← hV]; exact World.alloc_heap_new _ _
    have hbV : Below w.heap.size w V := by rw [← hV]; exact later_alloc _ _
    have hTV := Lib.hid (hT.out.later hbV)
    have hVz : w.heap.size < V.heap.size := World.lt_of_get hbx.out
    replace hbV := Lib.hid hbV
    replace hL := Lib.hid hL
    replace hV := Lib.hid hV
    go_enter Tryz.func36, Tryz.ntmps36
    go_wp2_with fail
    try rw [hV.out]
    go_loopw [3, 4] (fun s i wr => ∃ k : Nat, k ≤ L ∧ i = .int .i64 k ∧ s = .int .i64 ((1 + sizes (t.kids.take k) : Nat)) ∧ Hid (Below V.heap.size V wr)) (fun _ i _ => L - (intOf i).toNat)
    case atStart => exact ⟨0, Nat.zero_le _, rfl, by rw [List.take_zero, sizes]; rfl, Below.refl _ _⟩
    case round =>
      obtain ⟨k, hk, rfl, rfl, hB⟩ := hrel
      have hb2 := (hB.out.block w.heap.size hVz).trans hbx.out
      have p3 := cell_of_row wr w.heap.size 3 _ _ _ hb2
      have hl := World.lt_of_get hb2
      replace hb2 := Lib.hid hb2
      by_cases hlt : k < L
      · have hk9 : k < t.kids.length := by rw [hL.out]; exact hlt
        obtain ⟨kb, ko, rfl, hrow⟩ := (hTV.out.later hB.out).row.resolve_left (fun e => by rw [e] at hk9; exact absurd hk9 (Nat.not_lt_zero _))
        obtain ⟨A2, c2, hh, hv⟩ := node_tmv (hrow.get k hk9)
        have hsn := sizes_snoc t.kids k hk9
        have hle := sizes_take_le t.kids (k + 1)
        obtain ⟨u, hu⟩ : ∃ u, t.kids.getD k default = u := ⟨_, rfl⟩
        rw [hu] at hh hv hsn
        replace hu := Lib.hid hu
        clear hrow
        obtain ⟨z1, hz1⟩ : ∃ z, sizes (t.kids.take k) = z := ⟨_, rfl⟩
        obtain ⟨z2, hz2⟩ : ∃ z, sizes (t.kids.take (k + 1)) = z := ⟨_, rfl⟩
        rw [hz1] at hsn ⊢
        rw [hz2] at hsn hle
        replace hz1 := Lib.hid hz1
        have c0 := hh.kind
        have c1 := hh.name
        have c2' := hh.num
        have c3 := hh.kids
        replace hh := Lib.hid hh
        have kk := Lib.hid (IH.out u A2 c2 wr (by omega) (by omega) hv)
        clear hv
        unfold tmV at kk
        go_wp2_with fail
        refine kk.out.mono ?_
        rintro e w4 ⟨rfl, hb9⟩
        have hB2 := Lib.hid (hB.out.trans (hb9.mono hB.out.size))
        clear hb9 kk
        go_wp2_with fail
        go_roundw
        case rel => exact ⟨k + 1, by omega, by go_num, by rw [hz2, hsn]; congr 1; push_cast; omega, hB2.out⟩
        case measure => simp [intOf]; omega
      · obtain rfl : k = L := by omega
        have hfin : (1 + sizes (t.kids.take k)) = t.size := by rw [← hL.out, List.take_length]; omega
        rw [hfin]
        have hlast := Lib.hid (hbV.out.trans (hB.out.mono (by omega)))
        go_wp2_with fail
        go_ret
        exact ⟨rfl, hlast.out⟩

set_option maxRecDepth 100000 in
set_option maxHeartbeats 2000000 in
theorem refdepth_any : ∀ (n : Nat) (t : Go.Tm.T) (A : Option Addr) (c : Nat) (w : World), t.size ≤ n → t.size ≤ 4611686018427387904 → TmV w (· < w.heap.size) t A c →
    Calls Tryz.prog 35 #[tmV t A c] w fun e w' => e = .returned (.int .i64 (t.depth : Nat)) ∧ Below w.heap.size w w'
  | 0, t, _, _, _, h, _, _ => by have := kids_lt t; omega
  | n + 1, t, A, c, w, hn, hz, hT => by
    have IH := Lib.hid (refdepth_any n)
    have hks := kids_lt t
    replace hT := Lib.hid hT
    unfold tmV
    obtain ⟨L, hL⟩ : ∃ L, t.kids.length = L := ⟨_, rfl⟩
    rw [hL]
    have hLs : L ≤ sizes t.kids := by rw [← hL]; exact len_sizes _
    obtain ⟨V, hV⟩ : ∃ V, w.alloc (.cells #[.int .i64 t.kind, .string t.name, .int .i64 t.num, .slice A L c] 32) = V := ⟨_, rfl⟩
    have hbx : Hid (V.heap[w.heap.size]? = some (.cells #[.int .i64 t.kind, .string t.name, .int .i64 t.num, .slice A L c] 32 (0, 0))) := by show _ = _; rw [← hV]; exact World.alloc_heap_new _ _
    have hbV : Below w.heap.size w V := by rw [← hV]; exact later_alloc _ _
    have hTV := Lib.hid (hT.out.later hbV)
    have hVz : w.heap.size < V.heap.size := World.lt_of_get hbx.out
    replace hbV := Lib.hid hbV
    replace hL := Lib.hid hL
    replace hV := Lib.hid hV
    go_enter Tryz.func35, Tryz.ntmps35
    go_wp2_with fail
    try rw [hV.out]
    go_loopw [3, 4] (fun s i wr => ∃ k : Nat, k ≤ L ∧ i = .int .i64 k ∧ s = .int .i64 ((depths (t.kids.take k) : Nat)) ∧ Hid (Below V.heap.size V wr)) (fun _ i _ => L - (intOf i).toNat)
    case atStart => exact ⟨0, Nat.zero_le _, rfl, by rw [List.take_zero, depths]; rfl, Below.refl _ _⟩
    case round =>
      obtain ⟨k, hk, rfl, rfl, hB⟩ := hrel
      have hb2 := (hB.out.block w.heap.size hVz).trans hbx.out
      have p3 := cell_of_row wr w.heap.size 3 _ _ _ hb2
      have hl := World.lt_of_get hb2
      replace hb2 := Lib.hid hb2
      by_cases hlt : k < L
      · have hk9 : k < t.kids.length := by rw [hL.out]; exact hlt
        obtain ⟨kb, ko, rfl, hrow⟩ := (hTV.out.later hB.out).row.resolve_left (fun e => by rw [e] at hk9; exact absurd hk9 (Nat.not_lt_zero _))
        obtain ⟨A2, c2, hh, hv⟩ := node_tmv (hrow.get k hk9)
        have hsn := depths_snoc t.kids k hk9
        have hss := sizes_snoc t.kids k hk9
        have hle := sizes_take_le t.kids (k + 1)
        obtain ⟨u, hu⟩ : ∃ u, t.kids.getD k default = u := ⟨_, rfl⟩
        rw [hu] at hh hv hsn hss
        replace hu := Lib.hid hu
        clear hrow
        obtain ⟨z1, hz1⟩ : ∃ z, depths (t.kids.take k) = z := ⟨_, rfl⟩
        obtain ⟨z2, hz2⟩ : ∃ z, depths (t.kids.take (k + 1)) = z := ⟨_, rfl⟩
        rw [hz1] at hsn ⊢
        rw [hz2] at hsn
        replace hz1 := Lib.hid hz1
        have c0 := hh.kind
        have c1 := hh.name
        have c2' := hh.num
        have c3 := hh.kids
        replace hh := Lib.hid hh
        have kk := Lib.hid (IH.out u A2 c2 wr (by omega) (by omega) hv)
        clear hv
        unfold tmV at kk
        go_wp2_with fail
        refine kk.out.mono ?_
        rintro e w4 ⟨rfl, hb9⟩
        have hB2 := Lib.hid (hB.out.trans (hb9.mono hB.out.size))
        clear hb9 kk
        go_wp2_with fail
        go_roundw
        case rel => exact ⟨k + 1, by omega, by go_num, by rw [hz2, hsn]; congr 1; push_cast; omega, hB2.out⟩
        case measure => simp [intOf]; omega
      · obtain rfl : k = L := by omega
        have hfin : depths (t.kids.take k) + 1 = t.depth := by rw [← hL.out, List.take_length]; exact kids_depth t
        have hdz := depth_le t
        obtain ⟨z, hz9⟩ : ∃ z, depths (t.kids.take k) = z := ⟨_, rfl⟩
        rw [hz9] at hfin ⊢
        rw [← hfin] at hdz
        replace hz9 := Lib.hid hz9
        replace hfin := Lib.hid hfin
        have hlast := Lib.hid (hbV.out.trans (hB.out.mono (by omega)))
        go_wp2_with fail
        go_ret
        exact ⟨ret_int (by rw [← hfin.out]; push_cast; rfl), hlast.out⟩
end Go.Proofs.YtpdombmpmhnolaaGreatDoor
namespace Go.Proofs.YtpdombmpmhnolaaGreatDoor
open Go.RowKit Go.Shelf Go.Tm Go.Lx Go.Maps

def tokC (t : Tok) : List Value := [.int .i64 t.kind, .string (X.strOf t.text), .int .i64 t.num]
def toksC (l : List Tok) : List Value := l.flatMap tokC
theorem toksC_app (a b : List Tok) : toksC (a ++ b) = toksC a ++ toksC b := List.flatMap_append
theorem tok_one (t : Tok) (u : Value) (hu : u ∈ tokC t) : u.oneCell' = true := by
  unfold tokC at hu
  simp at hu
  rcases hu with rfl | rfl | rfl <;> rfl
theorem add_off (b o j : Nat) : (⟨b, o, none⟩ : Addr).add j = ⟨b, o + j, none⟩ := by
  unfold Addr.add
  split
  · rename_i h0; subst h0; rfl
  · simp
theorem tok_cell {W : World} {b : Nat} {t : Tok} {ty : TypeId} (h : W.heap[b]? = some (.cells #[.int .i64 t.kind, .string (X.strOf t.text), .int .i64 t.num] ty (0, 0))) (j : Nat) (u : Value) (hu : (tokC t)[j]? = some u) : W.cell? ((⟨b, 0, none⟩ : Addr).add j) = some u := by
  rw [add_off, Nat.zero_add, cell_of_row _ _ j _ _ _ h, ← hu]
  show ((tokC t).toArray)[j]? = _
  rw [List.getElem?_toArray]
theorem own_at {W : World} {base size n : Nat} {e : TypeId} {v : Value} {xs : List Value} (h : W.ownsRow base e size v n xs) {g : Nat} (hg : v.ownBlock = some g) : ∃ cur, W.heap[g]? = some (.cells cur e (0, 0)) ∧ base ≤ g := by
  obtain ⟨_, ⟨rfl, _⟩ | ⟨g', cap, cur, rfl, hb, hc, _⟩⟩ := h
  · cases hg
  · cases hg; exact ⟨cur, hc, hb⟩
theorem own_same3 {W W' : World} {base size n : Nat} {e : TypeId} {v : Value} {xs : List Value} (h : W.ownsRow base e size v n xs) (he : ∀ g, v.ownBlock = some g → W'.heap[g]? = W.heap[g]?) : W'.ownsRow base e size v n xs := by
  obtain ⟨h1, h2 | ⟨g, cap, cur, hv, hb, hc, r⟩⟩ := h
  · exact ⟨h1, .inl h2⟩
  · exact ⟨h1, .inr ⟨g, cap, cur, hv, hb, (he g (by rw [hv]; rfl)).trans hc, r⟩⟩

/-- where the list may have gone -/
def NewB (w : World) (v v' : Value) : Prop := v'.ownBlock = v.ownBlock ∨ ∃ k, v'.ownBlock = some k ∧ w.heap.size ≤ k
/-- what a call that lays behind a list does to the world -/
structure Gr (w w' : World) (v v' : Value) : Prop where
  grown : w.grownBy w' v.ownBlock
  new : NewB w v v'
theorem Gr.refl (w : World) (v : Value) : Gr w w v v := ⟨⟨rfl, rfl, rfl, Nat.le_refl _, fun _ _ _ => rfl⟩, .inl rfl⟩
theorem Gr.trans {w w1 w2 : World} {v v1 v2 : Value} (h : Gr w w1 v v1) (k : Gr w1 w2 v1 v2) : Gr w w2 v v2 := by
  refine ⟨⟨k.grown.os.trans h.grown.os, k.grown.tape.trans h.grown.tape, k.grown.output.trans h.grown.output, Nat.le_trans h.grown.size k.grown.size, fun j hj hne => ?_⟩, ?_⟩
  · refine (k.grown.block j (Nat.lt_of_lt_of_le hj h.grown.size) ?_).trans (h.grown.block j hj hne)
    rcases h.new with e | ⟨q, e, hq⟩
    · rw [e]; exact hne
    · rw [e]; intro e2; injection e2 with e2; omega
  · rcases k.new with e | ⟨q, e, hq⟩
    · rcases h.new with e2 | ⟨q2, e2, hq2⟩
      · exact .inl (e.trans e2)
      · exact .inr ⟨q2, e.trans e2, hq2⟩
    · exact .inr ⟨q, e, Nat.le_trans h.grown.size hq⟩
theorem Gr.of_below {w w' : World} {v : Value} (h : Below w.heap.size w w') : Gr w w' v v := ⟨⟨h.os, h.tape, h.output, h.size, fun k hk _ => h.block k hk⟩, .inl rfl⟩
theorem Gr.below {w w' : World} {v v' : Value} {base : Nat} (h : Gr w w' v v') (hb : base ≤ w.heap.size) (ho : ∀ k, v.ownBlock = some k → base ≤ k) : Below base w w' :=
  ⟨h.grown.os, h.grown.tape, h.grown.output, h.grown.size, fun k hk => h.grown.block k (by omega) (fun e => by have := ho k e.symm; omega)⟩
/-- the blocks that are not the list's -/
def Out (w : World) (v : Value) (k : Nat) : Prop := k < w.heap.size ∧ v.ownBlock ≠ some k
theorem Gr.out {w w' : World} {v v' : Value} (h : Gr w w' v v') {k : Nat} (hk : Out w v k) : Out w' v' k ∧ w'.heap[k]? = w.heap[k]? :=
  ⟨⟨Nat.lt_of_lt_of_le hk.1 h.grown.size, by
    rcases h.new with e | ⟨q, e, hq⟩
    · rw [e]; exact hk.2
    · rw [e]; intro e2; injection e2 with e2; have := hk.1; omega⟩, h.grown.block k hk.1 (Ne.symm hk.2)⟩
theorem Gr.tm {w w' : World} {v v' : Value} (h : Gr w w' v v') {t : Go.Tm.T} {A : Option Addr} {c : Nat} (hT : TmV w (Out w v) t A c) : TmV w' (Out w' v') t A c := hT.kept (fun _ hk => (h.out hk).1) (fun _ hk => (h.out hk).2)
theorem Gr.cell {w w' : World} {v v' : Value} (h : Gr w w' v v') {b o : Nat} (hk : Out w v b) : w'.cell? ⟨b, o, none⟩ = w.cell? ⟨b, o, none⟩ := World.cell?_of_block (a := ⟨b, o, none⟩) (h.out hk).2
/-- the library's table of powers -/
structure EnvT (w : World) : Prop where
  tab : Lib.TabIs Tryz.prog w "internal/strconv.uint64pow10" .u64 Lib.pow10Tab
  size : 8 ≤ w.heap.size
theorem EnvT.below {w w' : World} {n : Nat} (h : EnvT w) (hn : 8 ≤ n) (hb : Below n w w') : EnvT w' where
  tab := by
    have h1 := h.tab
    unfold Lib.TabIs at h1 ⊢
    rw [← h1]
    simp only [World.var?, X.gPow, Option.bind_some, hb.block 4 (Nat.lt_of_lt_of_le (by decide) hn)]
  size := Nat.le_trans h.size hb.size
/-- a part: a token, or a kid by value -/
abbrev Pt := Tok ⊕ (Go.Tm.T × Option Addr × Nat)
def partV : Pt → Value
  | .inl x => if x.kind = 3 then .iface 122 (.string (X.strOf x.text)) else if x.kind = 4 then .iface 123 (.string (X.strOf x.text)) else if x.kind = 1 then .iface 121 (.string (X.strOf x.text)) else .iface 120 (.int .i64 x.num)
  | .inr u => .iface 124 (tmV u.1 u.2.1 u.2.2)
def partT : Pt → List Tok
  | .inl x => [x]
  | .inr u => kidT u.1
/-- a token that is laid as it should be -/
def tokOk (x : Tok) : Prop := ((x.kind = 1 ∨ x.kind = 3 ∨ x.kind = 4) ∧ x.num = 0) ∨ (x.kind = 2 ∧ 0 ≤ x.num ∧ x.num ≤ 2147483647 ∧ x.text = Lib.itoa x.num)
def partOk : Pt → Prop
  | .inl x => tokOk x
  | .inr _ => True
theorem parts_snoc (ps : List Pt) (k : Nat) (hk : k < ps.length) : (ps.take (k + 1)).flatMap partT = (ps.take k).flatMap partT ++ partT (ps.getD k (.inl ⟨0, [], 0⟩)) := by
  rw [List.take_succ_eq_append_getElem hk, List.flatMap_append, List.getD_eq_getElem?_getD, List.getElem?_eq_getElem hk]
  simp
/-- what is answered: the list with the new ones behind it -/
def LayPost (base : Nat) (ts new : List Tok) (w : World) (v v' : Value) (w' : World) : Prop := w'.ownsRow base 75 3 v' (ts ++ new).length (toksC (ts ++ new)) ∧ Gr w w' v v'
/-- as a kid it is laid so -/
def KidStmt (u : Go.Tm.T) : Prop := ∀ (base : Nat) (v : Value) (ts : List Tok) (A : Option Addr) (c : Nat) (w : World), 8 ≤ base → base ≤ w.heap.size → EnvT w → w.ownsRow base 75 3 v ts.length (toksC ts) → TmV w (Out w v) u A c → ts.length + (kidT u).length ≤ 1099511627776 →
  Calls Tryz.prog 104 #[v, tmV u A c] w fun e w' => ∃ v', e = .returned v' ∧ LayPost base ts (kidT u) w v v' w'
/-- by itself it is laid so -/
def LaidStmt (u : Go.Tm.T) : Prop := ∀ (base : Nat) (v : Value) (ts : List Tok) (A : Option Addr) (c : Nat) (w : World), 8 ≤ base → base ≤ w.heap.size → EnvT w → w.ownsRow base 75 3 v ts.length (toksC ts) → TmV w (Out w v) u A c → ts.length + (toksT u).length ≤ 1099511627776 →
  Calls Tryz.prog 40 #[v, tmV u A c] w fun e w' => ∃ v', e = .returned v' ∧ LayPost base ts (toksT u) w v v' w'
end Go.Proofs.YtpdombmpmhnolaaGreatDoor
