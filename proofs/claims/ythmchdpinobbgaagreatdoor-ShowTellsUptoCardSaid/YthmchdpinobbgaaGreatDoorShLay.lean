/-
  lay: parts behind a list that is a call's own. Conditions: each kid is laid as it should be; the table of powers lies as laid; at most 2^40 tokens.
-/
import Derived.Test.YthmchdpinobbgaaGreatDoorShMem
import Derived.Maps.AppendAt
namespace Go.Proofs.YthmchdpinobbgaaGreatDoor
open Go.RowKit Go.Shelf Go.Tm Go.Lx Go.Maps
attribute [local go_sem] Oper.semAt_some

theorem gr_alloc {w wr w1 : World} {v v' v2 : Value} (o : Obj) (h : Gr w wr v v') (hg : (wr.alloc o).grownBy w1 v'.ownBlock) (hat : v2.ownBlock = v'.ownBlock ∨ v2.ownBlock = some (wr.heap.size + 1)) : Gr w w1 v v2 :=
  (h.trans (Gr.of_below (later_alloc wr o))).trans ⟨hg, hat.imp id (fun e => ⟨_, e, by simp⟩)⟩
theorem own_alloc3 {W : World} {base size n : Nat} {e : TypeId} {v : Value} {xs : List Value} (h : W.ownsRow base e size v n xs) (o : Obj) : (W.alloc o).ownsRow base e size v n xs := own_same3 h fun g hg => by
  obtain ⟨cur, hc, _⟩ := own_at h hg
  exact Below.heap_alloc W o g (World.lt_of_get hc)
theorem own_below3 {W W' : World} {base size n : Nat} {e : TypeId} {v : Value} {xs : List Value} (h : W.ownsRow base e size v n xs) (hb : Below W.heap.size W W') : W'.ownsRow base e size v n xs := own_same3 h fun g hg => by
  obtain ⟨cur, hc, _⟩ := own_at h hg
  exact hb.block g (World.lt_of_get hc)
theorem info_tok3 : (Tryz.prog.info? 45).map (fun i => (i.zero, i.size, i.bytes)) = some (some (.agg #[.int .i64 0, .string ⟨#[]⟩, .int .i64 0]), 3, 32) := by kernel_rfl
theorem as_key_key (v : Value) (w : World) : (Instr.typeAssert (.iface 76 v) 98 76 true).run Tryz.prog w = .ok (.tuple #[v, .bool true]) w := by kernel_rfl
theorem as_mark_key (v : Value) (w : World) : (Instr.typeAssert (.iface 77 v) 98 76 true).run Tryz.prog w = .ok (.tuple #[.string ⟨#[]⟩, .bool false]) w := by kernel_rfl
theorem as_mark_mark (v : Value) (w : World) : (Instr.typeAssert (.iface 77 v) 98 77 true).run Tryz.prog w = .ok (.tuple #[v, .bool true]) w := by kernel_rfl
theorem as_name_key (v : Value) (w : World) : (Instr.typeAssert (.iface 75 v) 98 76 true).run Tryz.prog w = .ok (.tuple #[.string ⟨#[]⟩, .bool false]) w := by kernel_rfl
theorem as_name_mark (v : Value) (w : World) : (Instr.typeAssert (.iface 75 v) 98 77 true).run Tryz.prog w = .ok (.tuple #[.string ⟨#[]⟩, .bool false]) w := by kernel_rfl
theorem as_name_name (v : Value) (w : World) : (Instr.typeAssert (.iface 75 v) 98 75 true).run Tryz.prog w = .ok (.tuple #[v, .bool true]) w := by kernel_rfl
theorem as_num_key (v : Value) (w : World) : (Instr.typeAssert (.iface 74 v) 98 76 true).run Tryz.prog w = .ok (.tuple #[.string ⟨#[]⟩, .bool false]) w := by kernel_rfl
theorem as_num_mark (v : Value) (w : World) : (Instr.typeAssert (.iface 74 v) 98 77 true).run Tryz.prog w = .ok (.tuple #[.string ⟨#[]⟩, .bool false]) w := by kernel_rfl
theorem as_num_name (v : Value) (w : World) : (Instr.typeAssert (.iface 74 v) 98 75 true).run Tryz.prog w = .ok (.tuple #[.string ⟨#[]⟩, .bool false]) w := by kernel_rfl
theorem as_num_num (v : Value) (w : World) : (Instr.typeAssert (.iface 74 v) 98 74 true).run Tryz.prog w = .ok (.tuple #[v, .bool true]) w := by kernel_rfl
theorem as_kid_key (v : Value) (w : World) : (Instr.typeAssert (.iface 78 v) 98 76 true).run Tryz.prog w = .ok (.tuple #[.string ⟨#[]⟩, .bool false]) w := by kernel_rfl
theorem as_kid_mark (v : Value) (w : World) : (Instr.typeAssert (.iface 78 v) 98 77 true).run Tryz.prog w = .ok (.tuple #[.string ⟨#[]⟩, .bool false]) w := by kernel_rfl
theorem as_kid_name (v : Value) (w : World) : (Instr.typeAssert (.iface 78 v) 98 75 true).run Tryz.prog w = .ok (.tuple #[.string ⟨#[]⟩, .bool false]) w := by kernel_rfl
theorem as_kid_num (v : Value) (w : World) : (Instr.typeAssert (.iface 78 v) 98 74 true).run Tryz.prog w = .ok (.tuple #[.int .i64 0, .bool false]) w := by kernel_rfl
theorem as_kid_kid (v : Value) (w : World) : (Instr.typeAssert (.iface 78 v) 98 78 true).run Tryz.prog w = .ok (.tuple #[v, .bool true]) w := by kernel_rfl
attribute [local go_sem] as_key_key as_mark_key as_mark_mark as_name_key as_name_mark as_name_name as_num_key as_num_mark as_num_name as_num_num as_kid_key as_kid_mark as_kid_name as_kid_num as_kid_kid
/-- parts behind a slice -/
def Parts (w : World) (v : Value) (A : Option Addr) (ps : List Pt) : Prop := ps = [] ∨ ∃ b off, A = some ⟨b, off, none⟩ ∧ Out w v b ∧ ∀ j, j < ps.length → w.cell? ⟨b, off + j, none⟩ = some (partV (ps.getD j (.inl ⟨0, [], 0⟩)))
theorem Parts.later {w w' : World} {v v' : Value} {A : Option Addr} {ps : List Pt} (h : Parts w v A ps) (hg : Gr w w' v v') : Parts w' v' A ps := by
  rcases h with h | ⟨b, off, h1, h2, h3⟩
  · exact .inl h
  · exact .inr ⟨b, off, h1, (hg.out h2).1, fun j hj => (hg.cell h2).trans (h3 j hj)⟩
theorem toks_snoc3 (ts : List Tok) (ps : List Pt) (k : Nat) (hk : k < ps.length) : ts ++ (ps.take (k + 1)).flatMap partT = (ts ++ (ps.take k).flatMap partT) ++ partT (ps.getD k (.inl ⟨0, [], 0⟩)) := by
  rw [parts_snoc ps k hk, List.append_assoc]
theorem flat_le (ps : List Pt) (k : Nat) : ((ps.take k).flatMap partT).length ≤ (ps.flatMap partT).length := by
  have h : ps.flatMap partT = (ps.take k).flatMap partT ++ (ps.drop k).flatMap partT := by rw [← List.flatMap_append, List.take_append_drop]
  rw [h, List.length_append]; omega

set_option maxRecDepth 100000 in
set_option maxHeartbeats 8000000 in
theorem lay_any (ps : List Pt) (hps : ∀ p ∈ ps, partOk p) (HK : ∀ u, .inr u ∈ ps → KidStmt u.1) (base : Nat) (v : Value) (ts : List Tok) (A : Option Addr) (c : Nat) (w : World) (h8 : 8 ≤ base) (hbase : base ≤ w.heap.size) (hE : EnvT w)
    (hown : w.ownsRow base 45 3 v ts.length (toksC ts)) (hP : Parts w v A ps) (hT : ∀ u, .inr u ∈ ps → TmV w (Out w v) u.1 u.2.1 u.2.2) (hl : ts.length + (ps.flatMap partT).length ≤ 1099511627776) (hpl : ps.length ≤ 1099511627776) :
    Calls Tryz.prog 31 #[v, .slice A ps.length c] w fun e w' => ∃ v', e = .returned v' ∧ LayPost base ts (ps.flatMap partT) w v v' w' := by
  obtain ⟨i0, hi, hi2⟩ := Option.map_eq_some_iff.1 info_tok3
  obtain ⟨hz0, hz1, hz2⟩ : i0.zero = some (.agg #[.int .i64 0, .string ⟨#[]⟩, .int .i64 0]) ∧ i0.size = 3 ∧ i0.bytes = 32 := by
    injection hi2 with h1 h2; injection h2 with h2 h3; exact ⟨h1, h2, h3⟩
  replace hi := Lib.hid hi
  replace hz0 := Lib.hid hz0
  replace hz1 := Lib.hid hz1
  replace hz2 := Lib.hid hz2
  clear hi2
  obtain ⟨n, hn⟩ : ∃ n, ps.length = n := ⟨_, rfl⟩
  rw [hn] at hpl ⊢
  replace hn := Lib.hid hn
  replace hE := Lib.hid hE
  replace hown := Lib.hid hown
  replace hP := Lib.hid hP
  replace hT := Lib.hid hT
  replace hps := Lib.hid hps
  replace HK := Lib.hid HK
  go_enter Tryz.func31, Tryz.ntmps31
  go_wp2_with fail
  go_loopw [0, 14] (fun v1 i wr => ∃ (k : Nat) (v' : Value), k ≤ n ∧ i = .int .i64 k ∧ v' = v1 ∧ Hid (wr.ownsRow base 45 3 v' (ts ++ (ps.take k).flatMap partT).length (toksC (ts ++ (ps.take k).flatMap partT))) ∧ Hid (Gr w wr v v')) (fun _ i _ => n - (intOf i).toNat)
  case atStart => exact ⟨0, v, Nat.zero_le _, rfl, rfl, by rw [List.take_zero, List.flatMap_nil, List.append_nil]; exact hown.out, Gr.refl _ _⟩
  case round =>
    obtain ⟨k, v', hk, rfl, rfl, hO, hG⟩ := hrel
    by_cases hlt : k < n
    case neg =>
      obtain rfl : k = n := by omega
      have hfin : Hid (LayPost base ts (ps.flatMap partT) w v v' wr) := by
        have h1 := hO.out
        rw [← hn.out, List.take_length] at h1
        exact ⟨h1, hG.out⟩
      clear hO hG hlt
      go_wp2_with fail
      go_ret
      exact ⟨_, rfl, hfin.out⟩
    have hk9 : k < ps.length := by rw [hn.out]; exact hlt
    have hbw := hG.out.below hbase (fun g hg => (own_at hown.out hg).choose_spec.2)
    have hEr := Lib.hid (hE.out.below h8 hbw)
    have hsz : base ≤ wr.heap.size := Nat.le_trans hbase hbw.size
    clear hbw
    obtain ⟨b, off, rfl, hbo, hcs⟩ := (hP.out.later hG.out).resolve_left (fun e => by rw [e] at hk9; exact absurd hk9 (Nat.not_lt_zero _))
    have hc := hcs k hk9
    have hb1 := hbo.1
    have hsn := Lib.hid (toks_snoc3 ts ps k hk9)
    have hll : (ts ++ (ps.take k).flatMap partT).length ≤ 1099511627776 := by
      have := flat_le ps k
      rw [List.length_append]; omega
    have hll2 : (ts ++ (ps.take (k + 1)).flatMap partT).length ≤ 1099511627776 := by
      have := flat_le ps (k + 1)
      rw [List.length_append]; omega
    have hmem : ps.getD k (.inl ⟨0, [], 0⟩) ∈ ps := by
      rw [List.getD_eq_getElem?_getD, List.getElem?_eq_getElem hk9]
      exact List.getElem_mem _
    have hok := hps.out _ hmem
    obtain ⟨pt, hpt⟩ : ∃ p, ps.getD k (.inl ⟨0, [], 0⟩) = p := ⟨_, rfl⟩
    rw [hpt] at hc hsn hmem hok
    clear hcs hbo hpt
    obtain ⟨L, hL⟩ : ∃ l, ts ++ (ps.take k).flatMap partT = l := ⟨_, rfl⟩
    rw [hL] at hO hsn hll
    replace hL := Lib.hid hL
    replace hll2 := Lib.hid hll2
    cases pt with
    | inl x =>
      obtain ⟨xk, xt, xn⟩ := x
      replace hok : tokOk ⟨xk, xt, xn⟩ := hok
      clear hmem
      rcases hok with ⟨hxk, hx0⟩ | ⟨hxk, hn0, hn1, hxt⟩
      · replace hx0 : xn = 0 := hx0
        subst hx0
        have hS0 : ∃ S, X.strOf xt = S := ⟨_, rfl⟩
        obtain ⟨S, hS⟩ := hS0
        replace hxk : xk = 1 ∨ xk = 3 ∨ xk = 4 := hxk
        rcases hxk with rfl | rfl | rfl
        · replace hc : wr.cell? ⟨b, off + k, none⟩ = some (.iface 75 (.string (X.strOf xt))) := hc
          rw [hS] at hc
          replace hS := Lib.hid hS
          have hown1 := Lib.hid (own_alloc3 hO.out (.cells #[.int .i64 1, .string S, .int .i64 0] 45))
          have hbx : Hid ((wr.alloc (.cells #[.int .i64 1, .string S, .int .i64 0] 45)).heap[wr.heap.size]? = some (.cells #[.int .i64 1, .string (X.strOf xt), .int .i64 0] 45 (0, 0))) := by show _ = _; rw [hS.out]; exact World.alloc_heap_new _ _
          have hgr := Lib.hid (fun (w1 : World) (v2 : Value) => gr_alloc (w1 := w1) (v2 := v2) (.cells #[.int .i64 1, .string S, .int .i64 0] 45) hG.out)
          go_wp2_with (at_builtin; refine wpList_append_own_at _ rfl _ _ 30 rfl base 45 i0 (.agg #[.int .i64 0, .string ⟨#[]⟩, .int .i64 0]) 3 32 Tryz.underlying30 hi.out hz0.out hz1.out hz2.out rfl (by decide) v' _ _ rfl hown1.out ⟨wr.heap.size, 0, none⟩ 1 1 (tokC ⟨1, xt, 0⟩) rfl rfl ?c1 (tok_one _) (by unfold maxLen; omega) (by omega) (by simp; omega) ?_)
          case c1 => exact tok_cell (t := ⟨1, xt, 0⟩) hbx.out
          intro v2 w1 hown2 hgrow _ hat
          have hG2 := Lib.hid (hgr.out w1 v2 hgrow hat)
          have hO2 : Hid (w1.ownsRow base 45 3 v2 (ts ++ (ps.take (k + 1)).flatMap partT).length (toksC (ts ++ (ps.take (k + 1)).flatMap partT))) := by
            show w1.ownsRow _ _ _ _ _ _
            rw [hsn.out, toksC_app, List.length_append]
            show w1.ownsRow _ _ _ _ (L.length + 1) (toksC L ++ toksC [⟨1, xt, 0⟩])
            rw [show toksC [(⟨1, xt, 0⟩ : Tok)] = tokC ⟨1, xt, 0⟩ from List.append_nil _]
            exact hown2
          clear hown2 hgrow hat hgr hbx hown1
          go_wp2_with fail
          go_roundw
          case rel => exact ⟨k + 1, v2, by omega, by go_num, rfl, hO2, hG2⟩
          case measure => simp [intOf]; omega
        · replace hc : wr.cell? ⟨b, off + k, none⟩ = some (.iface 76 (.string (X.strOf xt))) := hc
          rw [hS] at hc
          replace hS := Lib.hid hS
          have hown1 := Lib.hid (own_alloc3 hO.out (.cells #[.int .i64 3, .string S, .int .i64 0] 45))
          have hbx : Hid ((wr.alloc (.cells #[.int .i64 3, .string S, .int .i64 0] 45)).heap[wr.heap.size]? = some (.cells #[.int .i64 3, .string (X.strOf xt), .int .i64 0] 45 (0, 0))) := by show _ = _; rw [hS.out]; exact World.alloc_heap_new _ _
          have hgr := Lib.hid (fun (w1 : World) (v2 : Value) => gr_alloc (w1 := w1) (v2 := v2) (.cells #[.int .i64 3, .string S, .int .i64 0] 45) hG.out)
          go_wp2_with (at_builtin; refine wpList_append_own_at _ rfl _ _ 30 rfl base 45 i0 (.agg #[.int .i64 0, .string ⟨#[]⟩, .int .i64 0]) 3 32 Tryz.underlying30 hi.out hz0.out hz1.out hz2.out rfl (by decide) v' _ _ rfl hown1.out ⟨wr.heap.size, 0, none⟩ 1 1 (tokC ⟨3, xt, 0⟩) rfl rfl ?c1 (tok_one _) (by unfold maxLen; omega) (by omega) (by simp; omega) ?_)
          case c1 => exact tok_cell (t := ⟨3, xt, 0⟩) hbx.out
          intro v2 w1 hown2 hgrow _ hat
          have hG2 := Lib.hid (hgr.out w1 v2 hgrow hat)
          have hO2 : Hid (w1.ownsRow base 45 3 v2 (ts ++ (ps.take (k + 1)).flatMap partT).length (toksC (ts ++ (ps.take (k + 1)).flatMap partT))) := by
            show w1.ownsRow _ _ _ _ _ _
            rw [hsn.out, toksC_app, List.length_append]
            show w1.ownsRow _ _ _ _ (L.length + 1) (toksC L ++ toksC [⟨3, xt, 0⟩])
            rw [show toksC [(⟨3, xt, 0⟩ : Tok)] = tokC ⟨3, xt, 0⟩ from List.append_nil _]
            exact hown2
          clear hown2 hgrow hat hgr hbx hown1
          go_wp2_with fail
          go_roundw
          case rel => exact ⟨k + 1, v2, by omega, by go_num, rfl, hO2, hG2⟩
          case measure => simp [intOf]; omega
        · replace hc : wr.cell? ⟨b, off + k, none⟩ = some (.iface 77 (.string (X.strOf xt))) := hc
          rw [hS] at hc
          replace hS := Lib.hid hS
          have hown1 := Lib.hid (own_alloc3 hO.out (.cells #[.int .i64 4, .string S, .int .i64 0] 45))
          have hbx : Hid ((wr.alloc (.cells #[.int .i64 4, .string S, .int .i64 0] 45)).heap[wr.heap.size]? = some (.cells #[.int .i64 4, .string (X.strOf xt), .int .i64 0] 45 (0, 0))) := by show _ = _; rw [hS.out]; exact World.alloc_heap_new _ _
          have hgr := Lib.hid (fun (w1 : World) (v2 : Value) => gr_alloc (w1 := w1) (v2 := v2) (.cells #[.int .i64 4, .string S, .int .i64 0] 45) hG.out)
          go_wp2_with (at_builtin; refine wpList_append_own_at _ rfl _ _ 30 rfl base 45 i0 (.agg #[.int .i64 0, .string ⟨#[]⟩, .int .i64 0]) 3 32 Tryz.underlying30 hi.out hz0.out hz1.out hz2.out rfl (by decide) v' _ _ rfl hown1.out ⟨wr.heap.size, 0, none⟩ 1 1 (tokC ⟨4, xt, 0⟩) rfl rfl ?c1 (tok_one _) (by unfold maxLen; omega) (by omega) (by simp; omega) ?_)
          case c1 => exact tok_cell (t := ⟨4, xt, 0⟩) hbx.out
          intro v2 w1 hown2 hgrow _ hat
          have hG2 := Lib.hid (hgr.out w1 v2 hgrow hat)
          have hO2 : Hid (w1.ownsRow base 45 3 v2 (ts ++ (ps.take (k + 1)).flatMap partT).length (toksC (ts ++ (ps.take (k + 1)).flatMap partT))) := by
            show w1.ownsRow _ _ _ _ _ _
            rw [hsn.out, toksC_app, List.length_append]
            show w1.ownsRow _ _ _ _ (L.length + 1) (toksC L ++ toksC [⟨4, xt, 0⟩])
            rw [show toksC [(⟨4, xt, 0⟩ : Tok)] = tokC ⟨4, xt, 0⟩ from List.append_nil _]
            exact hown2
          clear hown2 hgrow hat hgr hbx hown1
          go_wp2_with fail
          go_roundw
          case rel => exact ⟨k + 1, v2, by omega, by go_num, rfl, hO2, hG2⟩
          case measure => simp [intOf]; omega
      · replace hxk : xk = 2 := hxk
        subst hxk
        replace hc : wr.cell? ⟨b, off + k, none⟩ = some (.iface 74 (.int .i64 xn)) := hc
        have kf := Lib.hid (Tryz.strconv_FormatInt_10 xn (by have : 0 ≤ xn := hn0; omega) (by have : xn ≤ 2147483647 := hn1; omega) wr hEr.out.tab)
        have hS : Hid (X.strOf xt = ⟨(Lib.itoa xn).toArray⟩) := by show _ = _; rw [show xt = Lib.itoa xn from hxt]; rfl
        clear hxt
        obtain ⟨S, hSS⟩ : ∃ S, (⟨(Lib.itoa xn).toArray⟩ : ByteArray) = S := ⟨_, rfl⟩
        rw [hSS] at hS kf
        go_wp2_with fail
        refine kf.out.mono ?_
        rintro e w8 ⟨rfl, kk, os, rfl⟩
        have hb8 : Below wr.heap.size wr (Go.Sort.grow (wr.drewN kk) os) := X.below_grow wr kk os
        obtain ⟨W8, hW8⟩ : ∃ W, Go.Sort.grow (wr.drewN kk) os = W := ⟨_, rfl⟩
        rw [hW8] at hb8 ⊢
        clear hW8 kf hSS
        have hO8 := Lib.hid (own_below3 hO.out hb8)
        have hG8 := Lib.hid (hG.out.trans (Gr.of_below hb8))
        have hsz8 : base ≤ W8.heap.size := Nat.le_trans hsz hb8.size
        clear hb8 hc hb1
        have hown1 := Lib.hid (own_alloc3 hO8.out (.cells #[.int .i64 2, .string S, .int .i64 xn] 45))
        have hbx : Hid ((W8.alloc (.cells #[.int .i64 2, .string S, .int .i64 xn] 45)).heap[W8.heap.size]? = some (.cells #[.int .i64 2, .string (X.strOf xt), .int .i64 xn] 45 (0, 0))) := by show _ = _; rw [hS.out]; exact World.alloc_heap_new _ _
        have hgr := Lib.hid (fun (w1 : World) (v2 : Value) => gr_alloc (w1 := w1) (v2 := v2) (.cells #[.int .i64 2, .string S, .int .i64 xn] 45) hG8.out)
        go_wp2_with (at_builtin; refine wpList_append_own_at _ rfl _ _ 30 rfl base 45 i0 (.agg #[.int .i64 0, .string ⟨#[]⟩, .int .i64 0]) 3 32 Tryz.underlying30 hi.out hz0.out hz1.out hz2.out rfl (by decide) v' _ _ rfl hown1.out ⟨W8.heap.size, 0, none⟩ 1 1 (tokC ⟨2, xt, xn⟩) rfl rfl ?c1 (tok_one _) (by unfold maxLen; omega) (by omega) (by simp; omega) ?_)
        case c1 => exact tok_cell (t := ⟨2, xt, xn⟩) hbx.out
        intro v2 w1 hown2 hgrow _ hat
        have hG2 := Lib.hid (hgr.out w1 v2 hgrow hat)
        have hO2 : Hid (w1.ownsRow base 45 3 v2 (ts ++ (ps.take (k + 1)).flatMap partT).length (toksC (ts ++ (ps.take (k + 1)).flatMap partT))) := by
          show w1.ownsRow _ _ _ _ _ _
          rw [hsn.out, toksC_app, List.length_append]
          show w1.ownsRow _ _ _ _ (L.length + 1) (toksC L ++ toksC [⟨2, xt, xn⟩])
          rw [show toksC [(⟨2, xt, xn⟩ : Tok)] = tokC ⟨2, xt, xn⟩ from List.append_nil _]
          exact hown2
        clear hown2 hgrow hat hgr hbx hown1
        go_wp2_with fail
        go_roundw
        case rel => exact ⟨k + 1, v2, by omega, by go_num, rfl, hO2, hG2⟩
        case measure => simp [intOf]; omega
    | inr u =>
      obtain ⟨u, UA, uc⟩ := u
      have hTu := hG.out.tm (hT.out _ hmem)
      have hsn2 : Hid (ts ++ (ps.take (k + 1)).flatMap partT = L ++ kidT u) := hsn
      have hbox : TmV (wr.alloc (.cells #[.int .i64 u.kind, .string u.name, .int .i64 u.num, .slice UA u.kids.length uc] 78)) (Out (wr.alloc (.cells #[.int .i64 u.kind, .string u.name, .int .i64 u.num, .slice UA u.kids.length uc] 78)) v') u UA uc := (Gr.of_below (later_alloc wr _)).tm hTu
      have kk := HK.out _ hmem base v' L UA uc _ h8 (Nat.le_trans hsz (by simp)) (hEr.out.below (Nat.le_refl _) ((later_alloc wr (.cells #[.int .i64 u.kind, .string u.name, .int .i64 u.num, .slice UA u.kids.length uc] 78)).mono hEr.out.size)) (own_alloc3 hO.out _) hbox (by have := hll2.out; rw [hsn2.out, List.length_append] at this; exact this)
      replace hc : wr.cell? ⟨b, off + k, none⟩ = some (.iface 78 (tmV u UA uc)) := hc
      unfold tmV at kk hc
      have hGa := Lib.hid (hG.out.trans (Gr.of_below (later_alloc wr (.cells #[.int .i64 u.kind, .string u.name, .int .i64 u.num, .slice UA u.kids.length uc] 78))))
      replace kk := Lib.hid kk
      clear hTu hbox hmem hok
      go_wp2_with fail
      refine kk.out.mono ?_
      rintro e w4 ⟨v4, rfl, hp4⟩
      have hG2 := Lib.hid (hGa.out.trans hp4.2)
      have hO2 : Hid (w4.ownsRow base 45 3 v4 (ts ++ (ps.take (k + 1)).flatMap partT).length (toksC (ts ++ (ps.take (k + 1)).flatMap partT))) := by show w4.ownsRow _ _ _ _ _ _; rw [hsn2.out]; exact hp4.1
      clear hp4 kk hGa
      go_wp2_with fail
      go_roundw
      case rel => exact ⟨k + 1, v4, by omega, by go_num, rfl, hO2, hG2⟩
      case measure => simp [intOf]; omega
end Go.Proofs.YthmchdpinobbgaaGreatDoor
