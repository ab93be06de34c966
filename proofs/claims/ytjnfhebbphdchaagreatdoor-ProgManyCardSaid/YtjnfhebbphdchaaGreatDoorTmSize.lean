/-
  The walk of the closure that visits a term, and of the function that places hands back. Condition: the term can be read, and has at most 8388607 terms.
  places:
  Size and Depth.
  Depth.
  What a frame keeps over a call, and nodes over a write to a block without texts.
-/
import Derived.Test.YtjnfhebbphdchaaGreatDoorTmRun
import Derived.Laws.EntriesVeiled
set_option maxHeartbeats 4000000
set_option maxRecDepth 100000
open Go.Lib (hid)
namespace Go.Proofs.YtjnfhebbphdchaaGreatDoor
open Go.RowKit Go.Shelf Go.Tm
attribute [local go_sem] Oper.semAt_some
theorem Run.trans {J : List Pl -> List Nat -> World -> Prop} {n₀ : Nat} {T0 T1 T2 : List Nat} {W0 W1 W2 : World} {p1 p2 : List Pl} (h : Run J n₀ T0 W0 p1 T1 W1) (k : Run J n₀ T1 W1 p2 T2 W2) : Run J n₀ T0 W0 p2 T2 W2 :=
 ⟨k.j, fun i hi => k.sub i (h.sub i hi), k.lt, h.below.trans k.below, fun i hi => (k.keep i (h.sub i hi)).trans (h.keep i hi), k.n0⟩
structure Cap (l yb vb : Nat) (W : World) : Prop where
 y : W.heap[yb]? = some (.cells #[.func (.yield l) #[] #[]] 152 (0, 0))
 v : W.heap[vb]? = some (.cells #[.func (.func 78) #[] #[.pointer (some ⟨yb, 0, none⟩), .pointer (some ⟨vb, 0, none⟩)]] 152 (0, 0))
theorem Cap.run {l yb vb : Nat} {J : List Pl -> List Nat -> World -> Prop} {n₀ : Nat} {T0 T : List Nat} {W0 W : World} {pre : List Pl} (h : Cap l yb vb W0) (hr : Run J n₀ T0 W0 pre T W) (hy : yb ∈ T0) (hv : vb ∈ T0) : Cap l yb vb W :=
 ⟨(hr.keep yb hy).trans h.y, (hr.keep vb hv).trans h.v⟩
structure VI (J : List Pl -> List Nat -> World -> Prop) (n₀ : Nat) (T : List Nat) (W : World) (pre : List Pl) (x : Pl) (l yb vb : Nat) (i : Nat) (xs : List Pl) (T' : List Nat) (wr : World) : Prop where
 run : Run J n₀ T W (pre ++ ([x] ++ xs)) T' wr
 ys : walks x.t 0 (x.depth + 1) x.t.kids = xs.map Pl.p3 ++ walks x.t i (x.depth + 1) (x.t.kids.drop i)
 bT : W.heap.size ∈ T'
 box : wr.heap[W.heap.size]? = some (.cells #[.pointer (some ⟨x.blk, x.off, none⟩), .int .i64 x.kid, .int .i64 x.depth] 110 (0, 0))
 cap : Cap l yb vb wr
theorem VI.later {J : List Pl -> List Nat -> World -> Prop} {n₀ : Nat} {T : List Nat} {W : World} {pre : List Pl} {x : Pl} {l yb vb i : Nat} {xs : List Pl} {T' : List Nat} {wr w' : World} (hJ : ∀ pre T T' W W', J pre T W -> ItStep T T' W W' -> J pre T' W')
   (h : VI J n₀ T W pre x l yb vb i xs T' wr) (hb : Below wr.heap.size wr w') : VI J n₀ T W pre x l yb vb i xs T' w' :=
 ⟨h.run.later hJ hb, h.ys, h.bT, (hb.block _ (World.lt_of_get h.box)).trans h.box, ⟨(hb.block _ (World.lt_of_get h.cap.y)).trans h.cap.y, (hb.block _ (World.lt_of_get h.cap.v)).trans h.cap.v⟩⟩
theorem qnO {L : List P3} {pre : List Pl} {x : Pl} (h : pre.map Pl.p3 ++ walk x.par x.kid x.depth x.t <+: L) : (pre ++ [x]).map Pl.p3 <+: L := by
 refine List.IsPrefix.trans ?_ h
 rw [qfg]
 exact ⟨walks x.t 0 (x.depth + 1) x.t.kids, by simp [Pl.p3, Pl.t]⟩
theorem qrv {L : List P3} {pre xs : List Pl} {x : Pl} {i : Nat} (h : pre.map Pl.p3 ++ walk x.par x.kid x.depth x.t <+: L) (hy : walks x.t 0 (x.depth + 1) x.t.kids = xs.map Pl.p3 ++ walks x.t i (x.depth + 1) (x.t.kids.drop i)) (hi : i < x.t.kids.length) :
   (pre ++ ([x] ++ xs)).map Pl.p3 ++ walk x.t i (x.depth + 1) (x.t.kids.getD i default) <+: L := by
 refine List.IsPrefix.trans ?_ h
 rw [qfg x.par x.kid x.depth x.t, hy, qdR _ _ _ hi]
 exact ⟨walks x.t (i + 1) (x.depth + 1) (x.t.kids.drop (i + 1)), by simp [Pl.p3]⟩
def qkq (l n₀ : Nat) (L : List P3) (J : List Pl -> List Nat -> World -> Prop) (Jx : List Pl -> World -> Prop) (yb vb N : Nat) : Prop :=
 ∀ (x : Pl), x.t.size <= N -> ∀ (n : Nat) (pre : List Pl) (T : List Nat) (W : World), n₀ <= W.heap.size -> J pre T W -> (∀ k, k ∈ T -> k < W.heap.size) -> yb ∈ T -> vb ∈ T -> Cap l yb vb W -> qan W (PT n₀ T W) x.blk x.off x.par -> x.kid < x.par.kids.length -> x.depth + x.par.size <= 8388608 -> pre.map Pl.p3 ++ walk x.par x.kid x.depth x.t <+: L →
   CallsIn Fence.wide n Tryz.prog 78 #[plV x, .pointer (some ⟨yb, 0, none⟩), .pointer (some ⟨vb, 0, none⟩)] W (Went J Jx n₀ T W pre (walk x.par x.kid x.depth x.t))
theorem qmz (l n₀ : Nat) (L : List P3) (J : List Pl -> List Nat -> World -> Prop) (Jx : List Pl -> World -> Prop) (hJ : ∀ pre T T' W W', J pre T W -> ItStep T T' W W' -> J pre T' W') (hY : qnM Tryz.prog l n₀ L J Jx) (yb vb N : Nat) (IH : qkq l n₀ L J Jx yb vb N) : qkq l n₀ L J Jx yb vb (N + 1) := by
 intro x hxN n pre T W hn hj hlt hyT hvT hC hx hk hsz hS
 have hr1 := (Run.start (n₀ := n₀) hj hlt hn).alloc hJ (.cells #[.pointer (some ⟨x.blk, x.off, none⟩), .int .i64 x.kid, .int .i64 x.depth] 110)
 have hC1 := hC.run hr1 hyT hvT
 have hx1 := hr1.node hx
 have hq0 := World.alloc_heap_new W (.cells #[.pointer (some ⟨x.blk, x.off, none⟩), .int .i64 x.kid, .int .i64 x.depth] 110)
 have y0 := qaa _ yb 0 _ _ _ hC1.y
 have hdl : x.depth <= 8388608 := by omega
 refine callsIn_of_wp Tryz.func78 rfl trivial ?_ rfl
 simp only [Tryz.ntmps78, List.size_toArray, List.length_cons, List.length_nil, Nat.reduceAdd, Nat.reduceSub, Array.replicate_succ, Array.replicate_zero, List.push_toArray, List.append_toArray, List.nil_append, List.cons_append, plV]
 by_cases hd : 200 < x.depth
 . have hbl := qpM (n - 1) l n₀ L J Jx hJ hY x pre _ _ hr1.n0 hr1.j hr1.lt (hx1.wide (fun b hb => hb.imp id fun h => ⟨List.mem_cons_of_mem _ h.1, h.2⟩)) hk hsz hS
   simp only [plV] at hbl
   replace hbl := hid hbl
   replace hr1 := hid hr1
   replace hq0 := hid hq0
   replace hx1 := hid hx1
   gi_wp2
   refine ⟨trivial, wide1 _, ?_⟩
   refine hbl.out.mono ?_
   rintro e W2 (⟨rfl, xs, T', h1, h2⟩ | ⟨rfl, q, h1, h2⟩)
   . gi_wp2
     go_ret
     exact .inl ⟨rfl, xs, T', h1, hr1.out.trans h2⟩
   . gi_wp2
     go_ret
     exact .inr ⟨rfl, q, h1, h2⟩
 . have hok1 : PlIn n₀ x (W.alloc (.cells #[.pointer (some ⟨x.blk, x.off, none⟩), .int .i64 x.kid, .int .i64 x.depth] 110)) := ⟨hx1.wide (fun _ hb => hb.imp id And.right), hk⟩
   obtain ⟨fn, tmps, assign, body, hy, hR⟩ := hY (n - 1) pre _ x _ hr1.j hok1 (qnO hS) hr1.lt
   simp only [plV] at hy
   obtain ⟨A, c, hh⟩ := hx.hdr
   obtain ⟨kb, ko, rfl, hkid⟩ := hh.row x.kid hk
   obtain ⟨A2, cc, hh2⟩ := hkid.hdr
   replace hr1 := hid hr1
   replace hq0 := hid hq0
   replace hx1 := hid hx1
   replace hh := hid hh
   replace hh2 := hid hh2
   replace hkid := hid hkid
   replace hC1 := hid hC1
   clear hok1
   replace hS := hid hS
   gi_wp2
   refine ⟨wide1 _, ?_⟩
   refine hR.mono ?_
   rintro e1 W2 (⟨rfl, hj2, hk2, hb2⟩ | ⟨rfl, hx2⟩)
   . have hr2 := Run.round hr1.out hj2 hk2 hb2
     have hbx := (hk2 W.heap.size (by simp)).trans hq0.out
     have hV2 : VI J n₀ T W pre x l yb vb 0 [] (W.heap.size :: T) W2 :=
       ⟨by simpa using hr2, by simp, by simp, hbx, hC.run hr2 hyT hvT⟩
     have b0 := qaa W2 W.heap.size 0 _ _ _ hbx
     have b1 := qaa W2 W.heap.size 1 _ _ _ hbx
     have b2 := qaa W2 W.heap.size 2 _ _ _ hbx
     replace hV2 := hid hV2
     replace hbx := hid hbx
     clear hy hR hr2 y0
     gi_wp2
     refine ⟨trivial, wide1 _, ?_⟩
     refine (callsIn_wide.2 (qdd x.blk x.off x.kid x.depth x.par.kids.length kb ko c W2 ((hV2.out.run.cell hh.out.at_ _).trans hh.out.kids) hk)).mono ?_
     rintro e3 W3 ⟨rfl, hb3⟩
     have hV3 := VI.later hJ hV2.out hb3
     have p5 : W3.cell? ⟨kb, ko + x.kid * 4 + 3, none⟩ = some (.slice A2 x.t.kids.length cc) := (hV3.run.cell hh2.out.at_ _).trans hh2.out.kids
     replace hV3 := hid hV3
     clear b0 b1 b2 hb3 hbx
     gi_wp2
     gi_loopw [22] (fun v wr => ∃ (i : Nat) (xs : List Pl) (T' : List Nat), i <= x.t.kids.length /\ v = .int .i64 i /\ Hid (VI J n₀ T W pre x l yb vb i xs T' wr)) (fun v _ => x.t.kids.length - (intOf v).toNat)
     case atStart => exact ⟨0, [], _, Nat.zero_le _, rfl, hV3⟩
     case round =>
       clear hV3 p5
       obtain ⟨i, xs, T', hi, rfl, hV⟩ := hrel
       by_cases hlt : i < x.t.kids.length
       . obtain ⟨kb2, ko2, rfl, hch⟩ := hh2.out.row i hlt
         have hkl : x.t.kids.length <= 8388608 := by
           have h1 := qkn x.t
           have h2 : x.t.size < x.par.size := qci x.par x.kid hk
           omega
         have hV1 := VI.later hJ hV.out (Below.refl wr.heap.size wr).drew
         have b0 := qaa wr.drew W.heap.size 0 _ _ _ hV1.box
         have b1 := qaa wr.drew W.heap.size 1 _ _ _ hV1.box
         have b2 := qaa wr.drew W.heap.size 2 _ _ _ hV1.box
         have v0 := qaa wr.drew vb 0 _ _ _ hV1.cap.v
         have hU : Hid (∀ w6, VI J n₀ T W pre x l yb vb i xs T' w6 -> Calls Tryz.prog 80 #[.agg #[.pointer (some ⟨x.blk, x.off, none⟩), .int .i64 x.kid, .int .i64 x.depth], .int .i64 i] w6 fun e w' => e = .returned (.agg #[.pointer (some ⟨kb, ko + x.kid * 4, none⟩), .int .i64 i, .int .i64 ((x.depth : Int) + 1)]) /\ VI J n₀ T W pre x l yb vb i xs T' w') := fun w6 h =>
           (qiY x.blk x.off x.kid x.depth x.par.kids.length kb ko c i w6 ((h.run.cell hh.out.at_ _).trans hh.out.kids) hk (by omega)).mono fun e w' ⟨h1, h2⟩ => ⟨h1, VI.later hJ h h2⟩
         have hI : Hid (∀ w6 m, VI J n₀ T W pre x l yb vb i xs T' w6 -> CallsIn Fence.wide m Tryz.prog 78 #[.agg #[.pointer (some ⟨kb, ko + x.kid * 4, none⟩), .int .i64 i, .int .i64 ((x.depth : Int) + 1)], .pointer (some ⟨yb, 0, none⟩), .pointer (some ⟨vb, 0, none⟩)] w6 fun e w' =>
             ∃ r : Bool, e = .returned (.bool r) /\ Hid ((r = true /\ ∃ xs' T'', VI J n₀ T W pre x l yb vb (i + 1) xs' T'' w') ∨ (r = false /\ ∃ q : List Pl, q.map Pl.p3 <+: walk x.par x.kid x.depth x.t /\ Jx (pre ++ q) w'))) := fun w6 m h => by
           have hsz2 : (x.t.kids.getD i default).size < x.t.size := qci x.t i hlt
           have hch6 : qan w6 (PT n₀ T' w6) kb (ko + x.kid * 4) x.t := (h.run.node hkid.out).wide fun b hb => hb.imp id fun hb => ⟨h.run.sub b hb.1, hb.2⟩
           have hih := IH ⟨kb, ko + x.kid * 4, x.t, i, x.depth + 1⟩ (by show (x.t.kids.getD i default).size <= N; omega) m (pre ++ ([x] ++ xs)) T' w6 h.run.n0 h.run.j h.run.lt (h.run.sub _ hyT) (h.run.sub _ hvT) h.cap hch6 hlt (by
             have h2 : x.t.size < x.par.size := qci x.par x.kid hk
             show x.depth + 1 + x.t.size <= _
             omega) (qrv hS.out h.ys hlt)
           refine hih.mono ?_
           rintro e w' (⟨he, xs2, T2, h1, h2⟩ | ⟨he, q, h1, h2⟩)
           . refine ⟨true, he, .inl ⟨rfl, xs ++ xs2, T2, ⟨by have := h.run.trans h2; simpa using this, ?_, h2.sub _ h.bT, (h2.keep _ h.bT).trans h.box, h.cap.run h2 (h.run.sub _ hyT) (h.run.sub _ hvT)⟩⟩⟩
             rw [h.ys, qdR _ _ _ hlt, List.map_append, h1]
             show _ = _ ++ walk x.t i (x.depth + 1) (x.t.kids.getD i default) ++ _
             rw [List.append_assoc]
           . refine ⟨false, he, .inr ⟨rfl, [x] ++ xs ++ q, ?_, by rw [<- List.append_assoc] at h2; simpa using h2⟩⟩
             obtain ⟨r, hr⟩ := h1
             rw [qfg, h.ys, qdR _ _ _ hlt]
             refine ⟨r ++ walks x.t (i + 1) (x.depth + 1) (x.t.kids.drop (i + 1)), ?_⟩
             have hr' : List.map Pl.p3 q ++ r = walk x.t i (x.depth + 1) (x.t.kids.getD i default) := hr
             rw [<- hr']
             simp [Pl.p3]
         replace hV := hid hV1
         clear hV1
         replace hch := hid hch
         gi_wp2
         gi_region_with (first | (refine ⟨trivial, wide1 _, ?_⟩; gi_at_call 80; refine (callsIn_wide.2 (hU.out _ hV.out)).mono ?_; clear b0 b1 b2 v0; rintro e6 w6 ⟨rfl, hV6⟩; have b0 := qaa w6 W.heap.size 0 _ _ _ hV6.box; have b1 := qaa w6 W.heap.size 1 _ _ _ hV6.box; have b2 := qaa w6 W.heap.size 2 _ _ _ hV6.box; have v0 := qaa w6 vb 0 _ _ _ hV6.cap.v; replace hV6 := hid hV6) | (refine ⟨trivial, wide1 _, ?_⟩; gi_at_call 78; refine (hI.out _ _ hV6.out).mono ?_; clear b0 b1 b2 v0; rintro e7 w7 ⟨r, rfl, hP7⟩))
         all_goals
           cases r with
           | true =>
             obtain ⟨xs', T'', hV7⟩ : ∃ xs' T'', VI J n₀ T W pre x l yb vb (i + 1) xs' T'' w7 := hP7.out.elim (fun h => h.2) (fun h => absurd h.1 (by simp))
             replace hV7 := hid hV7
             gi_wp2
             go_roundw
             case rel => exact ⟨i + 1, xs', T'', by omega, by go_num, hV7⟩
             case measure => simp [intOf]; omega
           | false =>
             obtain ⟨q, hq, hx7⟩ := hP7.out.elim (fun h => absurd h.1 (by simp)) (fun h => h.2)
             gi_wp2
             go_ret
             exact .inr ⟨rfl, q, hq, hx7⟩
       . have hi2 : i = x.t.kids.length := by omega
         subst hi2
         gi_wp2
         go_ret
         refine .inl ⟨rfl, [x] ++ xs, T', ?_, hV.out.run⟩
         have := hV.out.ys
         rw [List.drop_length, walks, List.append_nil] at this
         rw [qfg, this]; rfl
   . gi_wp2
     go_ret
     refine .inr ⟨rfl, [x], ?_, hx2⟩
     rw [qfg]
     exact ⟨walks x.t 0 (x.depth + 1) x.t.kids, rfl⟩
theorem qjd (l n₀ : Nat) (L : List P3) (J : List Pl -> List Nat -> World -> Prop) (Jx : List Pl -> World -> Prop) (hJ : ∀ pre T T' W W', J pre T W -> ItStep T T' W W' -> J pre T' W') (hY : qnM Tryz.prog l n₀ L J Jx) (yb vb : Nat) : ∀ N, qkq l n₀ L J Jx yb vb N
 | 0 => fun x hx => absurd (qil x.t) (by omega)
 | N + 1 => qmz l n₀ L J Jx hJ hY yb vb N (qjd l n₀ L J Jx hJ hY yb vb N)
structure TmV (W : World) (p : Nat -> Prop) (t : Go.Tm.T) (A : Option Addr) (c : Nat) : Prop where
 nsz : t.name.size <= 9223372036854775807
 row : t.kids = [] ∨ ∃ kb ko, A = some ⟨kb, ko, none⟩ /\ RowAt W p kb ko t.kids
def tmV (t : Go.Tm.T) (A : Option Addr) (c : Nat) : Value := .agg #[.int .i64 t.kind, .string t.name, .int .i64 t.num, .slice A t.kids.length c]
theorem TmV.kept {W W' : World} {p q : Nat -> Prop} {t : Go.Tm.T} {A : Option Addr} {c : Nat} (h : TmV W p t A c) (hpq : ∀ b, p b -> q b) (hk : ∀ b, p b -> W'.heap[b]? = W.heap[b]?) : TmV W' q t A c :=
 ⟨h.nsz, h.row.imp id fun ⟨kb, ko, h1, h2⟩ => ⟨kb, ko, h1, h2.kept hpq hk⟩⟩
theorem TmV.below {W W' : World} {n₀ : Nat} {t : Go.Tm.T} {A : Option Addr} {c : Nat} (h : TmV W (· < n₀) t A c) (hb : Below n₀ W W') : TmV W' (· < n₀) t A c := h.kept (fun _ h => h) (fun b hb2 => hb.block b hb2)
theorem TmV.box {W : World} {p : Nat -> Prop} {t : Go.Tm.T} {A : Option Addr} {c b : Nat} {ty : TypeId} {f : Nat × Nat} (h : TmV W p t A c) (hb : p b) (hh : W.heap[b]? = some (.cells #[.int .i64 t.kind, .string t.name, .int .i64 t.num, .slice A t.kids.length c] ty f)) : qan W p b 0 t := by
 rw [T.eta t] at h ⊢
 rw [qan]
 exact ⟨hb, h.nsz, qaa _ _ _ _ _ _ hh, qaa _ _ 1 _ _ _ hh, qaa _ _ 2 _ _ _ hh, A, c, qaa _ _ 3 _ _ _ hh, h.row⟩
theorem qfl (t : Go.Tm.T) (A : Option Addr) (c : Nat) (w : World) : Calls Tryz.prog 47 #[tmV t A c] w fun e w' => e = .returned (.func (.func 77) #[] #[.pointer (some ⟨w.heap.size, 0, none⟩)]) /\ w.alloc (.cells #[.int .i64 t.kind, .string t.name, .int .i64 t.num, .slice A t.kids.length c] 26) = w' := by
 unfold tmV
 go_enter Tryz.func47, Tryz.ntmps47
 go_wp2
 go_ret
 exact ⟨rfl, rfl⟩
def rootT (t : Go.Tm.T) : Go.Tm.T := .node 0 ⟨#[]⟩ 0 [t]
theorem qmA (t : Go.Tm.T) : (rootT t).size = 1 + t.size := by
 unfold rootT
 rw [T.size, sizes, sizes]; omega
theorem qje (n n₀ tb : Nat) (t : Go.Tm.T) (A : Option Addr) (c : Nat) (w : World) (hsz : t.size <= 4194304) (hn : n₀ <= w.heap.size) (htb : w.heap[tb]? = some (.cells #[.int .i64 t.kind, .string t.name, .int .i64 t.num, .slice A t.kids.length c] 26 (0, 0))) (hT : TmV w (· < n₀) t A c) :
   SeqV n Tryz.prog 77 #[.pointer (some ⟨tb, 0, none⟩)] (fun x => #[plV x]) (PlIn n₀) n₀ (fun ys => ys.map Pl.p3 = walk (rootT t) 0 1 t) (fun pre => pre.map Pl.p3 <+: walk (rootT t) 0 1 t) w := by
 intro l J Jx W hW hJ hY h0
 have htW := (hW.block tb (World.lt_of_get htb)).trans htb
 have hTW := hT.below (hW.mono hn)
 have hnW : n₀ <= W.heap.size := Nat.le_trans hn hW.size
 obtain ⟨W2, hW2⟩ : ∃ W2, (W.alloc (.cells #[.func (.yield l) #[] #[]] 152)).alloc (.cells #[.nilFunc] 152) = W2 := ⟨_, rfl⟩
 have hr2 : Run J n₀ [] W [] [W.heap.size + 1, W.heap.size] W2 := by
   rw [<- hW2]
   have := ((Run.start (n₀ := n₀) (T := []) h0 (fun k hk => by simp at hk) hnW).alloc hJ (.cells #[.func (.yield l) #[] #[]] 152)).alloc hJ (.cells #[.nilFunc] 152)
   rwa [World.size_alloc] at this
 have hsz2 : W2.heap.size = W.heap.size + 2 := by rw [<- hW2]; simp
 have hv2 : W2.heap[W.heap.size + 1]? = some (.cells #[.nilFunc] 152 (0, 0)) := by
   rw [<- hW2]
   have := World.alloc_heap_new (W.alloc (.cells #[.func (.yield l) #[] #[]] 152)) (.cells #[.nilFunc] 152)
   rwa [World.size_alloc] at this
 have hy2 : W2.heap[W.heap.size]? = some (.cells #[.func (.yield l) #[] #[]] 152 (0, 0)) := by
   rw [<- hW2]
   exact (Below.heap_alloc _ _ _ (by simp)).trans (World.alloc_heap_new W _)
 have g1 := qaa W2 (W.heap.size + 1) 0 _ _ _ hv2
 have g2 : W2.frozen? ⟨W.heap.size + 1, 0, none⟩ = false := qac hv2 0
 obtain ⟨W3, hW3⟩ : ∃ W3, W2.setCell ⟨W.heap.size + 1, 0, none⟩ (.func (.func 78) #[] #[.pointer (some ⟨W.heap.size, 0, none⟩), .pointer (some ⟨W.heap.size + 1, 0, none⟩)]) = W3 := ⟨_, rfl⟩
 have hv3 : W3.heap[W.heap.size + 1]? = some (.cells #[.func (.func 78) #[] #[.pointer (some ⟨W.heap.size, 0, none⟩), .pointer (some ⟨W.heap.size + 1, 0, none⟩)]] 152 (0, 0)) := by
   rw [<- hW3]
   exact heap_setCell_same W2 (W.heap.size + 1) 0 _ _ _ hv2
 have ho3 : ∀ k, k ≠ W.heap.size + 1 -> W3.heap[k]? = W2.heap[k]? := fun k hk => by rw [<- hW3]; exact Below.heap_setCell _ _ _ _ hk
 have hsz3 : W3.heap.size = W.heap.size + 2 := by rw [<- hW3, <- hsz2]; simp
 have hr3 : Run J n₀ [] W [] ((W.heap.size + 1) :: [W.heap.size + 1, W.heap.size]) W3 := by
   have hb3 : Below 0 W2 W3 := by rw [<- hW3]; exact (Below.refl 0 W2).setCell (p := ⟨W.heap.size + 1, 0, none⟩) (Nat.zero_le _) _
   refine hr2.grown hJ (row := some (W.heap.size + 1)) ⟨hb3.os, hb3.tape, hb3.output, hb3.size, fun k _ hk => ho3 k (fun e => hk (by rw [e]))⟩ (fun r er => ?_) (fun r er => by cases er; rintro ⟨cs, f, hc⟩; rw [hv2] at hc; cases hc) (.inl (by simp)) (by omega)
   cases er
   exact ⟨by simp, by simp, by omega⟩
 have hrow3 : W3.heap[tb]? = some (.cells #[.int .i64 t.kind, .string t.name, .int .i64 t.num, .slice A t.kids.length c] 26 (0, 0)) := by
   have h1 := World.lt_of_get htW
   refine (ho3 tb (by omega)).trans ?_
   rw [<- hW2]
   exact ((Below.heap_alloc _ _ _ (by simp; omega)).trans (Below.heap_alloc _ _ _ h1)).trans htW
 have t0 := qaa W3 tb 0 _ _ _ hrow3
 have t1 := qaa W3 tb 1 _ _ _ hrow3
 have t2 := qaa W3 tb 2 _ _ _ hrow3
 have t3 := qaa W3 tb 3 _ _ _ hrow3
 have v3 := qaa W3 (W.heap.size + 1) 0 _ _ _ hv3
 have htlt : tb < W3.heap.size := World.lt_of_get hrow3
 have hvlt : W.heap.size + 1 < W3.heap.size := World.lt_of_get hv3
 have hy3 := (ho3 W.heap.size (by omega)).trans hy2
 have hvis : Hid (CallsIn Fence.wide (n - 1) Tryz.prog 78 #[.agg #[.pointer (some ⟨W3.heap.size + 1, 0, none⟩), .int .i64 0, .int .i64 1], .pointer (some ⟨W.heap.size, 0, none⟩), .pointer (some ⟨W.heap.size + 1, 0, none⟩)]
     ((W3.alloc (.cells #[.int .i64 t.kind, .string t.name, .int .i64 t.num, .slice A t.kids.length c] 26)).alloc (.cells #[.int .i64 0, .string ⟨#[]⟩, .int .i64 0, .slice (some ⟨W3.heap.size, 0, none⟩) 1 1] 26)) fun e W' => (∃ v, e = .returned v) /\ ((∃ xs T, xs.map Pl.p3 = walk (rootT t) 0 1 t /\ J xs T W') ∨ (∃ pre : List Pl, pre.map Pl.p3 <+: walk (rootT t) 0 1 t /\ Jx pre W'))) := by
   have hr4 := hr3.alloc hJ (.cells #[.int .i64 t.kind, .string t.name, .int .i64 t.num, .slice A t.kids.length c] 26)
   have hr5 := hr4.alloc hJ (.cells #[.int .i64 0, .string ⟨#[]⟩, .int .i64 0, .slice (some ⟨W3.heap.size, 0, none⟩) 1 1] 26)
   rw [World.size_alloc] at hr5
   have e4 := World.alloc_heap_new W3 (.cells #[.int .i64 t.kind, .string t.name, .int .i64 t.num, .slice A t.kids.length c] 26)
   have e5 := World.alloc_heap_new (W3.alloc (.cells #[.int .i64 t.kind, .string t.name, .int .i64 t.num, .slice A t.kids.length c] 26)) (.cells #[.int .i64 0, .string ⟨#[]⟩, .int .i64 0, .slice (some ⟨W3.heap.size, 0, none⟩) 1 1] 26)
   rw [World.size_alloc] at e5
   have k5 : ∀ k, k < W3.heap.size -> ((W3.alloc (.cells #[.int .i64 t.kind, .string t.name, .int .i64 t.num, .slice A t.kids.length c] 26)).alloc (.cells #[.int .i64 0, .string ⟨#[]⟩, .int .i64 0, .slice (some ⟨W3.heap.size, 0, none⟩) 1 1] 26)).heap[k]? = W3.heap[k]? := fun k hk =>
     (Below.heap_alloc _ _ _ (by simp; omega)).trans (Below.heap_alloc _ _ _ hk)
   have e4' := (Below.heap_alloc (W3.alloc (.cells #[.int .i64 t.kind, .string t.name, .int .i64 t.num, .slice A t.kids.length c] 26)) (.cells #[.int .i64 0, .string ⟨#[]⟩, .int .i64 0, .slice (some ⟨W3.heap.size, 0, none⟩) 1 1] 26) W3.heap.size (by simp)).trans e4
   have hT5 := (hTW.below hr5.below).kept (q := PT n₀ ((W3.heap.size + 1) :: W3.heap.size :: (W.heap.size + 1) :: [W.heap.size + 1, W.heap.size]) ((W3.alloc (.cells #[.int .i64 t.kind, .string t.name, .int .i64 t.num, .slice A t.kids.length c] 26)).alloc (.cells #[.int .i64 0, .string ⟨#[]⟩, .int .i64 0, .slice (some ⟨W3.heap.size, 0, none⟩) 1 1] 26))) (fun b hb => .inl hb) (fun _ _ => rfl)
   have hnode : qan ((W3.alloc (.cells #[.int .i64 t.kind, .string t.name, .int .i64 t.num, .slice A t.kids.length c] 26)).alloc (.cells #[.int .i64 0, .string ⟨#[]⟩, .int .i64 0, .slice (some ⟨W3.heap.size, 0, none⟩) 1 1] 26)) (PT n₀ ((W3.heap.size + 1) :: W3.heap.size :: (W.heap.size + 1) :: [W.heap.size + 1, W.heap.size]) ((W3.alloc (.cells #[.int .i64 t.kind, .string t.name, .int .i64 t.num, .slice A t.kids.length c] 26)).alloc (.cells #[.int .i64 0, .string ⟨#[]⟩, .int .i64 0, .slice (some ⟨W3.heap.size, 0, none⟩) 1 1] 26))) (W3.heap.size + 1) 0 (rootT t) := by
     unfold rootT
     rw [qan]
     refine ⟨.inr ⟨by simp, _, _, e5⟩, by decide, qaa _ _ 0 _ _ _ e5, qaa _ _ 1 _ _ _ e5, qaa _ _ 2 _ _ _ e5, _, 1, qaa _ _ 3 _ _ _ e5, .inr ⟨W3.heap.size, 0, rfl, ?_⟩⟩
     rw [RowAt, RowAt]
     exact ⟨hT5.box (.inr ⟨by simp, _, _, e4'⟩) e4', trivial⟩
   have hcap : Cap l W.heap.size (W.heap.size + 1) ((W3.alloc (.cells #[.int .i64 t.kind, .string t.name, .int .i64 t.num, .slice A t.kids.length c] 26)).alloc (.cells #[.int .i64 0, .string ⟨#[]⟩, .int .i64 0, .slice (some ⟨W3.heap.size, 0, none⟩) 1 1] 26)) :=
     ⟨(k5 _ (by omega)).trans hy3, (k5 _ (by omega)).trans hv3⟩
   have hv := qjd l n₀ (walk (rootT t) 0 1 t) J Jx hJ hY W.heap.size (W.heap.size + 1) t.size ⟨W3.heap.size + 1, 0, rootT t, 0, 1⟩ (Nat.le_refl _) (n - 1) [] _ _ hr5.n0 hr5.j hr5.lt (by simp) (by simp) hcap hnode (by show 0 < 1; decide) (by show 1 + (rootT t).size <= _; rw [qmA]; omega) (by rw [List.map_nil, List.nil_append]; exact List.prefix_rfl)
   refine hv.mono ?_
   rintro e W' (⟨he, xs, T', h1, h2⟩ | ⟨he, q, h1, h2⟩)
   . exact ⟨⟨_, he⟩, .inl ⟨xs, T', h1, h2.j⟩⟩
   . exact ⟨⟨_, he⟩, .inr ⟨q, h1, h2⟩⟩
 clear hy3 hy2
 clear hr2 hsz2 ho3
 replace hv2 := hid hv2
 replace hv3 := hid hv3
 replace hsz3 := hid hsz3
 replace hr3 := hid hr3
 replace hrow3 := hid hrow3
 replace htW := hid htW
 replace hTW := hid hTW
 replace hT := hid hT
 refine callsIn_of_wp Tryz.func77 rfl trivial ?_ rfl
 simp only [Tryz.ntmps77, List.size_toArray, List.length_cons, List.length_nil, Nat.reduceAdd, Nat.reduceSub, Array.replicate_succ, Array.replicate_zero, List.push_toArray, List.append_toArray, List.nil_append, List.cons_append]
 gi_wp2
 refine ⟨trivial, wide1 _, ?_⟩
 refine hvis.out.mono ?_
 rintro e W9 ⟨⟨v, rfl⟩, hP⟩
 replace hP := hid hP
 gi_wp2
 go_end0
 exact ⟨⟨_, rfl⟩, hP.out⟩
theorem qfm (n n₀ tb : Nat) (t : Go.Tm.T) (A : Option Addr) (c : Nat) (w : World) (hsz : t.size <= 4194304) (hn : n₀ <= w.heap.size) (htb : w.heap[tb]? = some (.cells #[.int .i64 t.kind, .string t.name, .int .i64 t.num, .slice A t.kids.length c] 26 (0, 0))) (hT : TmV w (· < n₀) t A c) :
   SeqV n Tryz.prog 77 #[.pointer (some ⟨tb, 0, none⟩)] (fun x => #[plV x]) PlOk n₀ (fun ys => ys.map Pl.p3 = walk (rootT t) 0 1 t) (fun pre => pre.map Pl.p3 <+: walk (rootT t) 0 1 t) w :=
 (qje n n₀ tb t A c w hsz hn htb hT).weaken fun _ _ h => h.ok
structure Fr (n0 B : Nat) (w : World) (T : List Nat) (W : World) : Prop where
 below : Below n0 w W
 lo : ∀ k, k ∈ T -> B <= k
 n0B : n0 <= B
 sz : B <= W.heap.size
theorem Fr.calm {n0 B : Nat} {w : World} {T T' : List Nat} {W W' : World} (h : Fr n0 B w T W) (hc : CalmV B T T' W W') : Fr n0 B w T' W' := by
 have hsz := h.sz
 have hnB := h.n0B
 refine ⟨⟨hc.below.os.trans h.below.os, hc.below.tape.trans h.below.tape, hc.below.output.trans h.below.output, Nat.le_trans h.below.size hc.below.size, fun k hk => ?_⟩, fun k hk => ?_, hnB, Nat.le_trans hsz hc.below.size⟩
 . obtain ⟨o, ho⟩ : ∃ o, W.heap[k]? = some o := ⟨_, Array.getElem?_eq_getElem (by omega)⟩
   exact (hc.same k o ho (fun e => by have := h.lo k e; omega) (.inl (by omega))).trans (ho.symm.trans (h.below.block k hk))
 . rcases hc.fresh k hk with h1 | h1
   . exact h.lo k h1
   . omega
theorem Fr.mine {n0 B : Nat} {w : World} {T T' : List Nat} {W W' : World} (h : Fr n0 B w T W) (hc : CalmV B T T' W W') {b : Nat} {o : Obj} (hb : b < B) (ho : W.heap[b]? = some o) : W'.heap[b]? = some o :=
 hc.same b o ho (fun e => by have := h.lo b e; omega) (.inl hb)
theorem Fr.set {n0 B : Nat} {w : World} {T : List Nat} {W : World} (h : Fr n0 B w T W) {b i : Nat} {v : Value} (hb : b < B) (h0 : n0 <= b) {cs : Array Value} {t : TypeId} (_ : W.heap[b]? = some (.cells cs t (0, 0))) :
   KeepsFrom B W (W.setCell ⟨b, i, none⟩ v) /\ KeepT T W (W.setCell ⟨b, i, none⟩ v) /\ Below n0 W (W.setCell ⟨b, i, none⟩ v) /\ Fr n0 B w T (W.setCell ⟨b, i, none⟩ v) := by
 have h1 : Below n0 W (W.setCell ⟨b, i, none⟩ v) := (Below.refl n0 W).setCell (p := ⟨b, i, none⟩) h0 v
 refine ⟨(KeepsOthers.setCell _ _ _).from _, fun k hk => Below.heap_setCell _ _ _ _ (fun e => by have := h.lo k hk; simp at e; omega), h1, ⟨h.below.trans h1, h.lo, h.n0B, by have := h.sz; simpa using this⟩⟩
theorem Fr.start (n0 : Nat) {w W : World} (h : Below n0 w W) (hn : n0 <= W.heap.size) : Fr n0 W.heap.size w [] W := ⟨h, fun k hk => by simp at hk, hn, Nat.le_refl _⟩
theorem Fr.mark {n0 B : Nat} {w : World} {T : List Nat} {W : World} (h : Fr n0 B w T W) {D : Nat} (hD : B <= D) (o : Obj) : Below n0 w (W.putObj D o) :=
 h.below.trans ((Below.refl n0 W).grown (grownBy_putObj' W D o) (Nat.le_trans h.n0B h.sz) (fun k e => by cases e; have := h.n0B; omega))
theorem qnP (n : Int) : wrap64 (wrap64 n + 1) = wrap64 (n + 1) := by
 have h : ∀ x : Int, wrap64 x = (x + 9223372036854775808) % 18446744073709551616 - 9223372036854775808 := fun x => by unfold wrap64; rfl
 rw [h, h, h]; omega
theorem qfK (x : Int) (h1 : -9223372036854775808 <= x) (h2 : x <= 9223372036854775807) : wrap64 x = x := by
 unfold wrap64; omega
theorem qlq (t : Go.Tm.T) (A : Option Addr) (c : Nat) (w : World) (hsz : t.size <= 4194304) (hT : TmV w (· < w.heap.size) t A c) :
   Calls Tryz.prog 23 #[tmV t A c] w fun e w' => e = .returned (.int .i64 (t.size : Nat)) /\ Below w.heap.size w w' := by
 unfold tmV
 refine (callsIn_wide (n := 6)).1 ?_
 refine callsIn_of_wp_marks Tryz.func23 rfl trivial ?_ rfl
 simp only [Tryz.ntmps23, List.size_toArray, List.length_cons, List.length_nil, Nat.reduceAdd, Nat.reduceSub, Array.replicate_succ, Array.replicate_zero, List.push_toArray, List.append_toArray, List.nil_append, List.cons_append]
 gi_wp2
 refine ⟨trivial, ?_⟩
 refine (callsIn_wide.2 (qfl t A c _)).mono ?_
 rintro e w' ⟨rfl, rfl⟩
 obtain ⟨W3, hW3⟩ : ∃ W3, ((w.alloc (.cells #[.int .i64 t.kind, .string t.name, .int .i64 t.num, .slice A t.kids.length c] 26)).alloc (.cells #[.int .i64 0] 3)).alloc (.cells #[.int .i64 t.kind, .string t.name, .int .i64 t.num, .slice A t.kids.length c] 26) = W3 := ⟨_, rfl⟩
 have hb3 : Below w.heap.size w W3 := by rw [<- hW3]; exact (((Below.refl _ w).alloc (Nat.le_refl _) _).alloc (by simp) _).alloc (by simp; omega) _
 have hsz3 : W3.heap.size = w.heap.size + 3 := by rw [<- hW3]; simp
 have htb : W3.heap[w.heap.size + 2]? = some (.cells #[.int .i64 t.kind, .string t.name, .int .i64 t.num, .slice A t.kids.length c] 26 (0, 0)) := by
   rw [<- hW3]
   have := World.alloc_heap_new ((w.alloc (.cells #[.int .i64 t.kind, .string t.name, .int .i64 t.num, .slice A t.kids.length c] 26)).alloc (.cells #[.int .i64 0] 3)) (.cells #[.int .i64 t.kind, .string t.name, .int .i64 t.num, .slice A t.kids.length c] 26)
   simpa using this
 have hbx : W3.heap[w.heap.size + 1]? = some (.cells #[.int .i64 0] 3 (0, 0)) := by
   rw [<- hW3]
   have := World.alloc_heap_new (w.alloc (.cells #[.int .i64 t.kind, .string t.name, .int .i64 t.num, .slice A t.kids.length c] 26)) (.cells #[.int .i64 0] 3)
   rw [World.size_alloc] at this
   exact (Below.heap_alloc _ _ _ (by simp)).trans this
 have hT3 := hT.below hb3
 simp only [World.size_alloc]
 rw [hW3]
 clear hW3 hT
 gi_wp2
 refine qei (n₀ := w.heap.size) (gf := 77) (lb := #[.pointer (some ⟨w.heap.size + 2, 0, none⟩)]) rfl (enters_of Tryz.func77 (by kernel_rfl) rfl)
   (qfm 5 w.heap.size (w.heap.size + 2) t A c W3 hsz (by omega) htb hT3) (Below.refl _ _) (fun _ => rfl) (by omega) PlOk.cells
   (fun pre T W => Fr w.heap.size W3.heap.size w T W /\ W.heap[w.heap.size + 1]? = some (.cells #[.int .i64 (wrap64 pre.length)] 3 (0, 0)))
   (fun _ _ _ => False)
   (fun pre T T' W W' h hc => ⟨h.1.calm hc, h.1.mine hc (by omega) h.2⟩)
   (fun _ _ _ _ _ _ h _ _ _ => h)
   ⟨Fr.start _ hb3 (by omega), by have e : wrap64 (([] : List Pl).length : Int) = 0 := by rw [qfK _ (by simp) (by simp)]; rfl
                                  rw [e]; exact hbx⟩
   (fun x a' _ => a' = { tmps := #[.agg #[.int .i64 t.kind, .string t.name, .int .i64 t.num, .slice A t.kids.length c], .pointer (some ⟨w.heap.size, 0, none⟩), .int .i64 0, .pointer (some ⟨w.heap.size + 1, 0, none⟩), .agg #[.int .i64 t.kind, .string t.name, .int .i64 t.num, .slice A t.kids.length c], .func (.func 77) #[] #[.pointer (some ⟨w.heap.size + 1 + 1, 0, none⟩)], plV x, undef, undef, undef], defers := [] }) (fun _ _ _ _ _ _ h _ _ _ => h) ?assign ?body ?done ?stop
 case assign =>
   intro l pre T x W K hI hV hK
   gi_wp2
   exact hK _ W (Below.refl _ _) hI (by simp)
 case body =>
   rintro l pre T x a' W ⟨hF, hbx⟩ _ rfl _ _
   have c0 := qaa W (w.heap.size + 1) 0 _ _ _ hbx
   have f0 : W.frozen? ⟨w.heap.size + 1, 0, none⟩ = false := qac hbx 0
   gi_wp2
   obtain ⟨k1, k2, k3, k4⟩ := hF.set (i := 0) (v := .int .i64 (wrap64 (wrap64 pre.length + 1))) (show w.heap.size + 1 < W3.heap.size by omega) (by omega) hbx
   refine ⟨k1, k2, k3, k4, ?_⟩
   have h9 := heap_setCell_same W (w.heap.size + 1) 0 _ _ (.int .i64 (wrap64 (wrap64 pre.length + 1))) hbx
   rw [List.length_append, List.length_singleton, Int.natCast_add, show ((1 : Nat) : Int) = 1 from rfl, (qnP (pre.length : Int)).symm]
   exact h9
 case done =>
   rintro D xs T W hD hS ⟨hF, hbx⟩ hK
   have hlen : xs.length = t.size := by
     have := congrArg List.length hS
     rwa [List.length_map, qeq] at this
   rw [hlen, qfK _ (by omega) (by omega)] at hbx
   have c0 := qaa W (w.heap.size + 1) 0 _ _ _ hbx
   have hbe := hF.mark hD (.deferred none)
   gi_wp2
   refine ⟨by simp, .inl ⟨_, _, rfl, run_takeDeferred hK, ?_⟩⟩
   exact ⟨_, results_tmp rfl _ _ _, rfl, hbe⟩
 case stop =>
   rintro D cc pre W _ _ h _
   exact h.elim
end Go.Proofs.YtjnfhebbphdchaaGreatDoor
namespace Go.Tm
def mx : List P3 -> Nat
 | [] => 0
 | p :: l => max p.2.2 (mx l)
theorem qrg : ∀ a b : List P3, mx (a ++ b) = max (mx a) (mx b)
 | [], b => by simp [mx]
 | p :: a, b => by rw [List.cons_append, mx, mx, qrg a b]; omega
mutual
theorem qrw (par : T) (kid : Nat) : ∀ (d : Nat) (t : T), mx (walk par kid (d + 1) t) = d + t.depth
 | d, .node k s n ks => by
   rw [walk, mx, qlr (.node k s n ks) 0 (d + 1) ks, T.depth]
   show max (d + 1) _ = _
   split <;> omega
theorem qlr (par : T) (i : Nat) : ∀ (d : Nat) (ts : List T), mx (walks par i (d + 1) ts) = if qax ts = 0 then 0 else d + qax ts
 | d, [] => by rw [walks, qax]; rfl
 | d, t :: ts => by
   have h1 : 1 <= t.depth := by cases t; rw [T.depth]; omega
   rw [walks, qrg, qrw par i d t, qlr par (i + 1) d ts, qax]
   split <;> rw [if_neg (by omega)] <;> omega
end
mutual
theorem qpO : ∀ t : T, t.depth <= t.size
 | .node k s n ks => by rw [T.depth, T.size]; have := qer ks; omega
theorem qer : ∀ ts : List T, qax ts <= sizes ts
 | [] => by rw [qax, sizes]; exact Nat.le_refl _
 | t :: ts => by
   rw [qax, sizes]
   have := qpO t
   have := qer ts
   omega
end
end Go.Tm
namespace Go.Proofs.YtjnfhebbphdchaaGreatDoor
open Go.RowKit Go.Shelf Go.Tm
attribute [local go_sem] Oper.semAt_some
theorem KeepC.alloc (W : World) (o : Obj) : KeepC W (W.alloc o) := fun k _ hk _ => (Below.heap_alloc W o k (World.lt_of_get hk)).trans hk
def PBox (x : Pl) (b : Nat) (W : World) : Prop := W.heap[b]? = some (.cells #[.pointer (some ⟨x.blk, x.off, none⟩), .int .i64 x.kid, .int .i64 x.depth] 110 (0, 0))
theorem PBox.putObj {x : Pl} {b : Nat} {W : World} {l : Nat} {o o' : Obj} (h : PBox x b W) (hl : W.heap[l]? = some o) (ho : o.isCells = false) : PBox x b (W.putObj l o') :=
 (World.putObj_heap_other (fun e => by subst e; rw [show W.heap[b]? = _ from h] at hl; cases hl; cases ho)).trans h
theorem Fr.grow {n0 B : Nat} {w : World} {T : List Nat} {W : World} (h : Fr n0 B w T W) (o : Obj) : Fr n0 B w T (W.alloc o) :=
 ⟨h.below.trans ((qab W o).mono (Nat.le_trans h.n0B h.sz)), h.lo, h.n0B, by have := h.sz; simp; omega⟩
end Go.Proofs.YtjnfhebbphdchaaGreatDoor
namespace Go.Proofs.YtjnfhebbphdchaaGreatDoor
open Go.RowKit Go.Shelf Go.Tm
theorem Fr.later {n0 B : Nat} {w : World} {T : List Nat} {W W' : World} (h : Fr n0 B w T W) (hb : Below W.heap.size W W') : Fr n0 B w T W' :=
 ⟨h.below.trans (hb.mono (Nat.le_trans h.n0B h.sz)), h.lo, h.n0B, Nat.le_trans h.sz hb.size⟩
theorem Fr.call {n0 B : Nat} {w : World} {T : List Nat} {W W' : World} (h : Fr n0 B w T W) (hT : ∀ k, k ∈ T -> k < W.heap.size) (hb : Below W.heap.size W W') :
   KeepsFrom B W W' /\ KeepT T W W' /\ Below n0 W W' /\ Fr n0 B w T W' :=
 ⟨⟨hb.size, fun k _ _ hk _ => (hb.block k (World.lt_of_get hk)).trans hk⟩, fun k hk => hb.block k (hT k hk), hb.mono (Nat.le_trans h.n0B h.sz), h.later hb⟩
theorem avoid {W : World} {b0 : Nat} (h0 : ∀ i s, W.cell? ⟨b0, i, none⟩ ≠ some (.string s)) {b o : Nat} {t : Go.Tm.T} {p : Nat -> Prop} (h : qan W p b o t) : b ≠ b0 := by
 obtain ⟨A, c, hh⟩ := h.hdr
 rintro rfl
 exact h0 _ _ hh.name
mutual
theorem qan.avoid {W : World} {b0 : Nat} (h0 : ∀ i s, W.cell? ⟨b0, i, none⟩ ≠ some (.string s)) : ∀ {b o : Nat} {t : Go.Tm.T}, qan W anyB b o t -> qan W (fun k => k ≠ b0) b o t
 | b, o, .node k s n ks, h => by
   have hb := YtjnfhebbphdchaaGreatDoor.avoid h0 h
   rw [qan] at h ⊢
   obtain ⟨_, hz, g0, g1, g2, A, c, g3, g4⟩ := h
   refine ⟨hb, hz, g0, g1, g2, A, c, g3, ?_⟩
   rcases g4 with g4 | ⟨kb, ko, g4, g5⟩
   . exact .inl g4
   . exact .inr ⟨kb, ko, g4, RowAt.avoid h0 g5⟩
theorem RowAt.avoid {W : World} {b0 : Nat} (h0 : ∀ i s, W.cell? ⟨b0, i, none⟩ ≠ some (.string s)) : ∀ {b o : Nat} {ts : List Go.Tm.T}, RowAt W anyB b o ts -> RowAt W (fun k => k ≠ b0) b o ts
 | _, _, [], _ => by rw [RowAt]; trivial
 | b, o, t :: ts, h => by
   rw [RowAt] at h ⊢
   exact ⟨qan.avoid h0 h.1, RowAt.avoid h0 h.2⟩
end
theorem qan.set {W : World} {b0 i : Nat} {v : Value} (h0 : ∀ i s, W.cell? ⟨b0, i, none⟩ ≠ some (.string s)) {b o : Nat} {t : Go.Tm.T} (h : qan W anyB b o t) : qan (W.setCell ⟨b0, i, none⟩ v) anyB b o t :=
 qan.kept (fun _ _ => trivial) (fun _ hk => Below.heap_setCell _ _ _ _ hk) (h.avoid h0)
theorem qan.after {W W' : World} (hb : Below W.heap.size W W') {b o : Nat} {t : Go.Tm.T} (h : qan W anyB b o t) : qan W' anyB b o t :=
 h.cells fun k _ hk _ => (hb.block k (World.lt_of_get hk)).trans hk
theorem qnQ {W : World} {b0 : Nat} {cs : Array Value} {t : TypeId} {f : Nat × Nat} (h : W.heap[b0]? = some (.cells cs t f)) (hc : ∀ (i : Nat) (s : ByteArray), cs[i]? ≠ some (.string s)) : ∀ (i : Nat) (s : ByteArray), W.cell? ⟨b0, i, none⟩ ≠ some (.string s) := fun i s => by
 rw [qaa W b0 i _ _ _ h]
 exact hc i s
theorem qjf (w : World) : ∀ (os : List Obj) (i : Nat) (o : Obj), os[i]? = some o -> (os.foldl World.alloc w).heap[w.heap.size + i]? = some o
 | [], _, _, h => by cases h
 | a :: os, 0, o, h => by
   cases h
   have : ∀ (os : List Obj) (v : World) (k : Nat), k < v.heap.size -> (os.foldl World.alloc v).heap[k]? = v.heap[k]? := fun os => by
     induction os with
     | nil => exact fun _ _ _ => rfl
     | cons b os ih => exact fun v k hk => (ih (v.alloc b) k (by simp; omega)).trans (Below.heap_alloc _ _ _ hk)
   show (os.foldl World.alloc (w.alloc a)).heap[w.heap.size]? = _
   rw [this os _ _ (by simp)]
   exact World.alloc_heap_new w a
 | a :: os, i + 1, o, h => by
   have := qjf (w.alloc a) os i o h
   rw [World.size_alloc] at this
   show (os.foldl World.alloc (w.alloc a)).heap[w.heap.size + (i + 1)]? = _
   rw [show w.heap.size + (i + 1) = w.heap.size + 1 + i by omega]
   exact this
theorem qgw (w : World) : ∀ (os : List Obj), Below w.heap.size w (os.foldl World.alloc w) /\ (os.foldl World.alloc w).heap.size = w.heap.size + os.length := fun os => by
 have : ∀ (os : List Obj) (v : World), w.heap.size <= v.heap.size -> Below w.heap.size w v -> Below w.heap.size w (os.foldl World.alloc v) /\ (os.foldl World.alloc v).heap.size = v.heap.size + os.length := fun os => by
   induction os with
   | nil => exact fun _ _ h => ⟨h, rfl⟩
   | cons b os ih =>
     intro v hv h
     have := ih (v.alloc b) (by simp; omega) (h.alloc hv b)
     refine ⟨this.1, ?_⟩
     have h2 := this.2
     rw [World.size_alloc] at h2
     rw [List.length_cons]
     show (os.foldl World.alloc (v.alloc b)).heap.size = _
     omega
 exact this os w (Nat.le_refl _) (Below.refl _ _)
theorem Fr.grown {n0 B : Nat} {w : World} {T : List Nat} {W W' : World} (h : Fr n0 B w T W) {g : Nat} (hg : W.grownBy W' (some g)) (hgT : g ∉ T) (hgn : n0 <= g) (hc : ∃ cur t f, W.heap[g]? = some (.cells cur t f)) (hTl : ∀ k, k ∈ T -> k < W.heap.size) :
   KeepsFrom B W W' /\ KeepT T W W' /\ Below n0 W W' /\ Fr n0 B w T W' := by
 have hb : Below n0 W W' := (Below.refl n0 W).grown hg (Nat.le_trans h.n0B h.sz) (fun k e => by cases e; exact hgn)
 refine ⟨⟨hg.size, fun k o _ hk ho => ?_⟩, fun k hk => hg.block k (hTl k hk) (fun e => by cases e; exact hgT hk), hb, ⟨h.below.trans hb, h.lo, h.n0B, Nat.le_trans h.sz hg.size⟩⟩
 refine (hg.block k (World.lt_of_get hk) fun e => ?_).trans hk
 cases e
 obtain ⟨cur, ty, f, hc⟩ := hc
 rw [hc] at hk; cases hk; cases ho
theorem qmB (W : World) (a : Value) (t : TypeId) : ∀ (j : Nat) (u : Value), [a][j]? = some u -> (W.alloc (.cells #[a] t)).cell? ((⟨W.heap.size, 0, none⟩ : Addr).add j) = some u := by
 intro j u hu
 have hadd : (⟨W.heap.size, 0, none⟩ : Addr).add j = ⟨W.heap.size, j, none⟩ := by unfold Addr.add; split <;> simp_all
 rw [hadd, qaa _ W.heap.size j _ _ _ (World.alloc_heap_new W _)]
 simpa using hu
theorem one1 (x : Option Addr) : ∀ u ∈ [Value.pointer x], u.oneCell' = true := by
 intro u hu
 obtain rfl := List.mem_singleton.1 hu
 rfl
end Go.Proofs.YtjnfhebbphdchaaGreatDoor
