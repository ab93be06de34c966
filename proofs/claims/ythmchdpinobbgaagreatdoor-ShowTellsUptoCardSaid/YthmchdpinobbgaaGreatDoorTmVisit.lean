/-
  The walk of the closure that visits a term, and of the function that places hands back. Condition: the term can be read, and has at most 8388607 terms.
-/
import Derived.Test.YthmchdpinobbgaaGreatDoorTmBelow
namespace Go.Proofs.YthmchdpinobbgaaGreatDoor
open Go.RowKit Go.Shelf Go.Tm
attribute [local go_sem] Oper.semAt_some

theorem Run.trans {J : List Pl → List Nat → World → Prop} {n₀ : Nat} {T0 T1 T2 : List Nat} {W0 W1 W2 : World} {p1 p2 : List Pl} (h : Run J n₀ T0 W0 p1 T1 W1) (k : Run J n₀ T1 W1 p2 T2 W2) : Run J n₀ T0 W0 p2 T2 W2 :=
  ⟨k.j, fun i hi => k.sub i (h.sub i hi), k.lt, h.below.trans k.below, fun i hi => (k.keep i (h.sub i hi)).trans (h.keep i hi), k.n0⟩

/-- the two boxes that the closure captured: the loop's function, and itself -/
structure Cap (l yb vb : Nat) (W : World) : Prop where
  y : W.heap[yb]? = some (.cells #[.func (.yield l) #[] #[]] 86 (0, 0))
  v : W.heap[vb]? = some (.cells #[.func (.func 43) #[] #[.pointer (some ⟨yb, 0, none⟩), .pointer (some ⟨vb, 0, none⟩)]] 86 (0, 0))
theorem Cap.run {l yb vb : Nat} {J : List Pl → List Nat → World → Prop} {n₀ : Nat} {T0 T : List Nat} {W0 W : World} {pre : List Pl} (h : Cap l yb vb W0) (hr : Run J n₀ T0 W0 pre T W) (hy : yb ∈ T0) (hv : vb ∈ T0) : Cap l yb vb W :=
  ⟨(hr.keep yb hy).trans h.y, (hr.keep vb hv).trans h.v⟩

/-- what is known while a term's kids are visited -/
structure VI (J : List Pl → List Nat → World → Prop) (n₀ : Nat) (T : List Nat) (W : World) (pre : List Pl) (x : Pl) (l yb vb : Nat) (i : Nat) (xs : List Pl) (T' : List Nat) (wr : World) : Prop where
  run : Run J n₀ T W (pre ++ ([x] ++ xs)) T' wr
  ys : walks x.t 0 (x.depth + 1) x.t.kids = xs.map Pl.p3 ++ walks x.t i (x.depth + 1) (x.t.kids.drop i)
  bT : W.heap.size ∈ T'
  box : wr.heap[W.heap.size]? = some (.cells #[.pointer (some ⟨x.blk, x.off, none⟩), .int .i64 x.kid, .int .i64 x.depth] 60 (0, 0))
  cap : Cap l yb vb wr
theorem VI.later {J : List Pl → List Nat → World → Prop} {n₀ : Nat} {T : List Nat} {W : World} {pre : List Pl} {x : Pl} {l yb vb i : Nat} {xs : List Pl} {T' : List Nat} {wr w' : World} (hJ : ∀ pre T T' W W', J pre T W → ItStep T T' W W' → J pre T' W')
    (h : VI J n₀ T W pre x l yb vb i xs T' wr) (hb : Below wr.heap.size wr w') : VI J n₀ T W pre x l yb vb i xs T' w' :=
  ⟨h.run.later hJ hb, h.ys, h.bT, (hb.block _ (World.lt_of_get h.box)).trans h.box, ⟨(hb.block _ (World.lt_of_get h.cap.y)).trans h.cap.y, (hb.block _ (World.lt_of_get h.cap.v)).trans h.cap.v⟩⟩

theorem first_pre {L : List P3} {pre : List Pl} {x : Pl} (h : pre.map Pl.p3 ++ walk x.par x.kid x.depth x.t <+: L) : (pre ++ [x]).map Pl.p3 <+: L := by
  refine List.IsPrefix.trans ?_ h
  rw [walk_eq]
  exact ⟨walks x.t 0 (x.depth + 1) x.t.kids, by simp [Pl.p3, Pl.t]⟩
theorem kid_pre {L : List P3} {pre xs : List Pl} {x : Pl} {i : Nat} (h : pre.map Pl.p3 ++ walk x.par x.kid x.depth x.t <+: L) (hy : walks x.t 0 (x.depth + 1) x.t.kids = xs.map Pl.p3 ++ walks x.t i (x.depth + 1) (x.t.kids.drop i)) (hi : i < x.t.kids.length) :
    (pre ++ ([x] ++ xs)).map Pl.p3 ++ walk x.t i (x.depth + 1) (x.t.kids.getD i default) <+: L := by
  refine List.IsPrefix.trans ?_ h
  rw [walk_eq x.par x.kid x.depth x.t, hy, walks_drop _ _ _ hi]
  exact ⟨walks x.t (i + 1) (x.depth + 1) (x.t.kids.drop (i + 1)), by simp [Pl.p3]⟩

def VisitAt (l n₀ : Nat) (L : List P3) (J : List Pl → List Nat → World → Prop) (Jx : List Pl → World → Prop) (yb vb N : Nat) : Prop :=
  ∀ (x : Pl), x.t.size ≤ N → ∀ (n : Nat) (pre : List Pl) (T : List Nat) (W : World), n₀ ≤ W.heap.size → J pre T W → (∀ k, k ∈ T → k < W.heap.size) → yb ∈ T → vb ∈ T → Cap l yb vb W → NodeAt W (PT n₀ T W) x.blk x.off x.par → x.kid < x.par.kids.length → x.depth + x.par.size ≤ 8388608 → pre.map Pl.p3 ++ walk x.par x.kid x.depth x.t <+: L →
    CallsIn Fence.wide n Tryz.prog 43 #[plV x, .pointer (some ⟨yb, 0, none⟩), .pointer (some ⟨vb, 0, none⟩)] W (Went J Jx n₀ T W pre (walk x.par x.kid x.depth x.t))

set_option maxRecDepth 100000 in
set_option maxHeartbeats 4000000 in
theorem visit_step (l n₀ : Nat) (L : List P3) (J : List Pl → List Nat → World → Prop) (Jx : List Pl → World → Prop) (hJ : ∀ pre T T' W W', J pre T W → ItStep T T' W W' → J pre T' W') (hY : Rounds Tryz.prog l n₀ L J Jx) (yb vb N : Nat) (IH : VisitAt l n₀ L J Jx yb vb N) : VisitAt l n₀ L J Jx yb vb (N + 1) := by
  intro x hxN n pre T W hn hj hlt hyT hvT hC hx hk hsz hS
  have hr1 := (Run.start (n₀ := n₀) hj hlt hn).alloc hJ (.cells #[.pointer (some ⟨x.blk, x.off, none⟩), .int .i64 x.kid, .int .i64 x.depth] 60)
  have hC1 := hC.run hr1 hyT hvT
  have hx1 := hr1.node hx
  have hq0 := World.alloc_heap_new W (.cells #[.pointer (some ⟨x.blk, x.off, none⟩), .int .i64 x.kid, .int .i64 x.depth] 60)
  have y0 := cell_of_row _ yb 0 _ _ _ hC1.y
  have hdl : x.depth ≤ 8388608 := by omega
  refine callsIn_of_wp Tryz.func43 rfl trivial ?_ rfl
  simp only [Tryz.ntmps43, List.size_toArray, List.length_cons, List.length_nil, Nat.reduceAdd, Nat.reduceSub, Array.replicate_succ, Array.replicate_zero, List.push_toArray, List.append_toArray, List.nil_append, List.cons_append, plV]
  by_cases hd : 200 < x.depth
  · have hbl := below_in (n - 1) l n₀ L J Jx hJ hY x pre _ _ hr1.n0 hr1.j hr1.lt (hx1.wide (fun b hb => hb.imp id fun h => ⟨List.mem_cons_of_mem _ h.1, h.2⟩)) hk hsz hS
    simp only [plV] at hbl
    replace hbl := Lib.hid hbl
    replace hr1 := Lib.hid hr1
    replace hq0 := Lib.hid hq0
    replace hx1 := Lib.hid hx1
    gi_wp2
    refine ⟨trivial, wide1 _, ?_⟩
    refine hbl.out.mono ?_
    rintro e W2 (⟨rfl, xs, T', h1, h2⟩ | ⟨rfl, q, h1, h2⟩)
    · gi_wp2
      go_ret
      exact .inl ⟨rfl, xs, T', h1, hr1.out.trans h2⟩
    · gi_wp2
      go_ret
      exact .inr ⟨rfl, q, h1, h2⟩
  · have hok1 : PlIn n₀ x (W.alloc (.cells #[.pointer (some ⟨x.blk, x.off, none⟩), .int .i64 x.kid, .int .i64 x.depth] 60)) := ⟨hx1.wide (fun _ hb => hb.imp id And.right), hk⟩
    obtain ⟨fn, tmps, assign, body, hy, hR⟩ := hY (n - 1) pre _ x _ hr1.j hok1 (first_pre hS) hr1.lt
    simp only [plV] at hy
    obtain ⟨A, c, hh⟩ := hx.hdr
    obtain ⟨kb, ko, rfl, hkid⟩ := hh.row x.kid hk
    obtain ⟨A2, cc, hh2⟩ := hkid.hdr
    replace hr1 := Lib.hid hr1
    replace hq0 := Lib.hid hq0
    replace hx1 := Lib.hid hx1
    replace hh := Lib.hid hh
    replace hh2 := Lib.hid hh2
    replace hkid := Lib.hid hkid
    replace hC1 := Lib.hid hC1
    clear hok1
    replace hS := Lib.hid hS
    gi_wp2
    refine ⟨wide1 _, ?_⟩
    refine hR.mono ?_
    rintro e1 W2 (⟨rfl, hj2, hk2, hb2⟩ | ⟨rfl, hx2⟩)
    · have hr2 := Run.round hr1.out hj2 hk2 hb2
      have hbx := (hk2 W.heap.size (by simp)).trans hq0.out
      have hV2 : VI J n₀ T W pre x l yb vb 0 [] (W.heap.size :: T) W2 :=
        ⟨by simpa using hr2, by simp, by simp, hbx, hC.run hr2 hyT hvT⟩
      have b0 := cell_of_row W2 W.heap.size 0 _ _ _ hbx
      have b1 := cell_of_row W2 W.heap.size 1 _ _ _ hbx
      have b2 := cell_of_row W2 W.heap.size 2 _ _ _ hbx
      replace hV2 := Lib.hid hV2
      replace hbx := Lib.hid hbx
      clear hy hR hr2 y0
      gi_wp2
      refine ⟨trivial, wide1 _, ?_⟩
      refine (callsIn_wide.2 (term_any x.blk x.off x.kid x.depth x.par.kids.length kb ko c W2 ((hV2.out.run.cell hh.out.at_ _).trans hh.out.kids) hk)).mono ?_
      rintro e3 W3 ⟨rfl, hb3⟩
      have hV3 := VI.later hJ hV2.out hb3
      have p5 : W3.cell? ⟨kb, ko + x.kid * 4 + 3, none⟩ = some (.slice A2 x.t.kids.length cc) := (hV3.run.cell hh2.out.at_ _).trans hh2.out.kids
      replace hV3 := Lib.hid hV3
      clear b0 b1 b2 hb3 hbx
      gi_wp2
      gi_loopw [22] (fun v wr => ∃ (i : Nat) (xs : List Pl) (T' : List Nat), i ≤ x.t.kids.length ∧ v = .int .i64 i ∧ Hid (VI J n₀ T W pre x l yb vb i xs T' wr)) (fun v _ => x.t.kids.length - (intOf v).toNat)
      case atStart => exact ⟨0, [], _, Nat.zero_le _, rfl, hV3⟩
      case round =>
        clear hV3 p5
        obtain ⟨i, xs, T', hi, rfl, hV⟩ := hrel
        by_cases hlt : i < x.t.kids.length
        · obtain ⟨kb2, ko2, rfl, hch⟩ := hh2.out.row i hlt
          have hkl : x.t.kids.length ≤ 8388608 := by
            have h1 := kids_le x.t
            have h2 : x.t.size < x.par.size := kid_small x.par x.kid hk
            omega
          have hV1 := VI.later hJ hV.out (Below.refl wr.heap.size wr).drew
          have b0 := cell_of_row wr.drew W.heap.size 0 _ _ _ hV1.box
          have b1 := cell_of_row wr.drew W.heap.size 1 _ _ _ hV1.box
          have b2 := cell_of_row wr.drew W.heap.size 2 _ _ _ hV1.box
          have v0 := cell_of_row wr.drew vb 0 _ _ _ hV1.cap.v
          have hU : Hid (∀ w6, VI J n₀ T W pre x l yb vb i xs T' w6 → Calls Tryz.prog 45 #[.agg #[.pointer (some ⟨x.blk, x.off, none⟩), .int .i64 x.kid, .int .i64 x.depth], .int .i64 i] w6 fun e w' => e = .returned (.agg #[.pointer (some ⟨kb, ko + x.kid * 4, none⟩), .int .i64 i, .int .i64 ((x.depth : Int) + 1)]) ∧ VI J n₀ T W pre x l yb vb i xs T' w') := fun w6 h =>
            (under_any x.blk x.off x.kid x.depth x.par.kids.length kb ko c i w6 ((h.run.cell hh.out.at_ _).trans hh.out.kids) hk (by omega)).mono fun e w' ⟨h1, h2⟩ => ⟨h1, VI.later hJ h h2⟩
          have hI : Hid (∀ w6 m, VI J n₀ T W pre x l yb vb i xs T' w6 → CallsIn Fence.wide m Tryz.prog 43 #[.agg #[.pointer (some ⟨kb, ko + x.kid * 4, none⟩), .int .i64 i, .int .i64 ((x.depth : Int) + 1)], .pointer (some ⟨yb, 0, none⟩), .pointer (some ⟨vb, 0, none⟩)] w6 fun e w' =>
              ∃ r : Bool, e = .returned (.bool r) ∧ Hid ((r = true ∧ ∃ xs' T'', VI J n₀ T W pre x l yb vb (i + 1) xs' T'' w') ∨ (r = false ∧ ∃ q : List Pl, q.map Pl.p3 <+: walk x.par x.kid x.depth x.t ∧ Jx (pre ++ q) w'))) := fun w6 m h => by
            have hsz2 : (x.t.kids.getD i default).size < x.t.size := kid_small x.t i hlt
            have hch6 : NodeAt w6 (PT n₀ T' w6) kb (ko + x.kid * 4) x.t := (h.run.node hkid.out).wide fun b hb => hb.imp id fun hb => ⟨h.run.sub b hb.1, hb.2⟩
            have hih := IH ⟨kb, ko + x.kid * 4, x.t, i, x.depth + 1⟩ (by show (x.t.kids.getD i default).size ≤ N; omega) m (pre ++ ([x] ++ xs)) T' w6 h.run.n0 h.run.j h.run.lt (h.run.sub _ hyT) (h.run.sub _ hvT) h.cap hch6 hlt (by
              have h2 : x.t.size < x.par.size := kid_small x.par x.kid hk
              show x.depth + 1 + x.t.size ≤ _
              omega) (kid_pre hS.out h.ys hlt)
            refine hih.mono ?_
            rintro e w' (⟨he, xs2, T2, h1, h2⟩ | ⟨he, q, h1, h2⟩)
            · refine ⟨true, he, .inl ⟨rfl, xs ++ xs2, T2, ⟨by have := h.run.trans h2; simpa using this, ?_, h2.sub _ h.bT, (h2.keep _ h.bT).trans h.box, h.cap.run h2 (h.run.sub _ hyT) (h.run.sub _ hvT)⟩⟩⟩
              rw [h.ys, walks_drop _ _ _ hlt, List.map_append, h1]
              show _ = _ ++ walk x.t i (x.depth + 1) (x.t.kids.getD i default) ++ _
              rw [List.append_assoc]
            · refine ⟨false, he, .inr ⟨rfl, [x] ++ xs ++ q, ?_, by rw [← List.append_assoc] at h2; simpa using h2⟩⟩
              obtain ⟨r, hr⟩ := h1
              rw [walk_eq, h.ys, walks_drop _ _ _ hlt]
              refine ⟨r ++ walks x.t (i + 1) (x.depth + 1) (x.t.kids.drop (i + 1)), ?_⟩
              have hr' : List.map Pl.p3 q ++ r = walk x.t i (x.depth + 1) (x.t.kids.getD i default) := hr
              rw [← hr']
              simp [Pl.p3]
          replace hV := Lib.hid hV1
          clear hV1
          replace hch := Lib.hid hch
          gi_wp2
          gi_region_with (first | (refine ⟨trivial, wide1 _, ?_⟩; gi_at_call 45; refine (callsIn_wide.2 (hU.out _ hV.out)).mono ?_; clear b0 b1 b2 v0; rintro e6 w6 ⟨rfl, hV6⟩; have b0 := cell_of_row w6 W.heap.size 0 _ _ _ hV6.box; have b1 := cell_of_row w6 W.heap.size 1 _ _ _ hV6.box; have b2 := cell_of_row w6 W.heap.size 2 _ _ _ hV6.box; have v0 := cell_of_row w6 vb 0 _ _ _ hV6.cap.v; replace hV6 := Lib.hid hV6) | (refine ⟨trivial, wide1 _, ?_⟩; gi_at_call 43; refine (hI.out _ _ hV6.out).mono ?_; clear b0 b1 b2 v0; rintro e7 w7 ⟨r, rfl, hP7⟩))
          all_goals
            cases r with
            | true =>
              obtain ⟨xs', T'', hV7⟩ : ∃ xs' T'', VI J n₀ T W pre x l yb vb (i + 1) xs' T'' w7 := hP7.out.elim (fun h => h.2) (fun h => absurd h.1 (by simp))
              replace hV7 := Lib.hid hV7
              gi_wp2
              go_roundw
              case rel => exact ⟨i + 1, xs', T'', by omega, by go_num, hV7⟩
              case measure => simp [intOf]; omega
            | false =>
              obtain ⟨q, hq, hx7⟩ := hP7.out.elim (fun h => absurd h.1 (by simp)) (fun h => h.2)
              gi_wp2
              go_ret
              exact .inr ⟨rfl, q, hq, hx7⟩
        · have hi2 : i = x.t.kids.length := by omega
          subst hi2
          gi_wp2
          go_ret
          refine .inl ⟨rfl, [x] ++ xs, T', ?_, hV.out.run⟩
          have := hV.out.ys
          rw [List.drop_length, walks, List.append_nil] at this
          rw [walk_eq, this]; rfl
    · gi_wp2
      go_ret
      refine .inr ⟨rfl, [x], ?_, hx2⟩
      rw [walk_eq]
      exact ⟨walks x.t 0 (x.depth + 1) x.t.kids, rfl⟩
end Go.Proofs.YthmchdpinobbgaaGreatDoor
