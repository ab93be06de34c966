/-
  prog.printed, prog.Right, prog.Print. Conditions: the program can be read, its terms are at most 2^22 parts; the variables that are read lie as laid.
  prog.Same:
  prog.Size.
  Programs by value, each in a box:
-/
import Derived.Test.YtjnfhebbphdchaaGreatDoorPgTextW
import Derived.Test.YtjnfhebbphdchaaGreatDoorPgDraft
import Derived.Test.YtjnfhebbphdchaaGreatDoorTmSize
import Derived.Test.YtjnfhebbphdchaaGreatDoorPgParse
set_option maxHeartbeats 2000000
set_option maxRecDepth 100000
open Go.Lib (hid)
namespace Go.Proofs.YtjnfhebbphdchaaGreatDoor.Pg
open Go.RowKit Go.Shelf Go.Tm Go.Lx Go.Maps Go.Proofs.YtjnfhebbphdchaaGreatDoor.Pa
attribute [local go_sem] Oper.semAt_some
theorem qiN : ∀ (l : List Df), (∀ d ∈ l, d.t.size <= 10000) -> qaJ l <= 10000 * l.length
 | [], _ => by simp [qaJ]
 | d :: l, h => by
   have h1 := h d (by simp)
   have h2 := qiN l (fun d hd => h d (by simp [hd]))
   simp only [qaJ, List.length_cons]
   omega
theorem qid {p : P} (h : Sound p) : (textL 10 p).length <= 1000000000 := by
 have h1 := qcJ 10 h.body
 have h2 := qiH h
 have h3 := qiN p.defs (fun d hd => (qbj (h.defs d hd).2.2).2.1)
 have h4 := (qbj h.body).2.1
 have h5 := h.ld
 unfold sizeP at h2
 omega
theorem qfE (l : List UInt8) : (X.strOf l).size = l.length := by
 have h : (X.strOf l).data.toList.length = (X.strOf l).size := by simp
 rw [<- h, X.qaP]
theorem qhr (x : PV) (w : World) (hE : EnvP w) (hA : ProgAt w x) (hz : Small x.p) :
   Calls Tryz.prog 42 #[.agg #[.slice x.I x.p.ins.length x.i, .slice x.C x.p.cells.length x.c, .slice x.F x.p.defs.length x.f, .int .i64 x.p.body.kind, .string x.p.body.name, .int .i64 x.p.body.num, .slice x.B x.p.body.kids.length x.b]] w fun e w' => e = .returned (.tuple #[.string (qbI x.p), .bool (qar x.p)]) /\ Below w.heap.size w w' := by
 have hx0 := World.alloc_heap_new w (.cells #[.slice x.I x.p.ins.length x.i, .slice x.C x.p.cells.length x.c, .slice x.F x.p.defs.length x.f, .int .i64 x.p.body.kind, .string x.p.body.name, .int .i64 x.p.body.num, .slice x.B x.p.body.kids.length x.b] 28)
 have hb0 := X.qab w (.cells #[.slice x.I x.p.ins.length x.i, .slice x.C x.p.cells.length x.c, .slice x.F x.p.defs.length x.f, .int .i64 x.p.body.kind, .string x.p.body.name, .int .i64 x.p.body.num, .slice x.B x.p.body.kids.length x.b] 28)
 obtain ⟨W1, hW1⟩ : ∃ W, w.alloc (.cells #[.slice x.I x.p.ins.length x.i, .slice x.C x.p.cells.length x.c, .slice x.F x.p.defs.length x.f, .int .i64 x.p.body.kind, .string x.p.body.name, .int .i64 x.p.body.num, .slice x.B x.p.body.kids.length x.b] 28) = W := ⟨_, rfl⟩
 rw [hW1] at hx0 hb0
 have ks := hid (qpz x W1 (hE.later hb0) (hA.later hb0) hz)
 have q0 := qaa _ _ 0 _ _ _ hx0
 have q1 := qaa _ _ 1 _ _ _ hx0
 have q2 := qaa _ _ 2 _ _ _ hx0
 have q3 := qaa _ _ 3 _ _ _ hx0
 have q4 := qaa _ _ 4 _ _ _ hx0
 have q5 := qaa _ _ 5 _ _ _ hx0
 have q6 := qaa _ _ 6 _ _ _ hx0
 have hx1 := hid hx0
 replace hE := hid (hE.later hb0)
 replace hA := hid (hA.later hb0)
 replace hb0 := hid hb0
 clear hx0 hz
 go_enter Tryz.func42, Tryz.ntmps42
 go_wp2_with fail
 replace hW1 := hid hW1
 refine ks.out.mono ?_
 rintro e w2 ⟨rfl, hb2⟩
 clear ks q0 q1 q2 q3 q4 q5 q6
 rcases hs : qdq x.p with _ | _
 . have hr : qar x.p = false := by unfold qar; rw [hs]; rfl
   have hend := hid (hb0.out.trans (hb2.mono hb0.out.size))
   clear hb2
   have hfin := hid (qdk hr)
   replace hr := hid hr
   go_wp2_with fail
   go_ret2
   exact ⟨by rw [hfin.out, hr.out]; rfl, hend.out⟩
 . have hS := qhi.1 hs
   have kt := hid (qrb x w2 (hE.out.later hb2) (hA.out.later hb2) hS (qid hS))
   have q0 := qaa _ _ 0 _ _ _ ((hb2.block _ (World.lt_of_get hx1.out)).trans hx1.out)
   have q1 := qaa _ _ 1 _ _ _ ((hb2.block _ (World.lt_of_get hx1.out)).trans hx1.out)
   have q2 := qaa _ _ 2 _ _ _ ((hb2.block _ (World.lt_of_get hx1.out)).trans hx1.out)
   have q3 := qaa _ _ 3 _ _ _ ((hb2.block _ (World.lt_of_get hx1.out)).trans hx1.out)
   have q4 := qaa _ _ 4 _ _ _ ((hb2.block _ (World.lt_of_get hx1.out)).trans hx1.out)
   have q5 := qaa _ _ 5 _ _ _ ((hb2.block _ (World.lt_of_get hx1.out)).trans hx1.out)
   have q6 := qaa _ _ 6 _ _ _ ((hb2.block _ (World.lt_of_get hx1.out)).trans hx1.out)
   have hb3 := hid (hb0.out.trans (hb2.mono hb0.out.size))
   clear hb2
   have hsz := qfE (textL 10 x.p)
   have hpr := hid (fun (h : qar x.p = true) => qdj h)
   have hri : Hid ((textL 10 x.p).length <= 65536 -> qar x.p = true) := fun h => qaE.2 ⟨hS, h⟩
   have hrn : Hid (¬ (textL 10 x.p).length <= 65536 -> qar x.p = false) := fun h => by
     rcases h9 : qar x.p with _ | _
     . rfl
     . exact absurd (qaE.1 h9).2 h
   obtain ⟨S, hSS⟩ : ∃ S, X.strOf (textL 10 x.p) = S := ⟨_, rfl⟩
   obtain ⟨L, hL⟩ : ∃ L, (textL 10 x.p).length = L := ⟨_, rfl⟩
   have hbig := qid hS
   rw [hSS] at kt hpr hsz
   rw [hL] at hri hrn hsz hbig
   clear hS hs hSS hL
   go_wp2_with fail
   refine kt.out.mono ?_
   rintro e w4 ⟨rfl, hb4⟩
   have hend := hid (hb3.out.trans (hb4.mono hb3.out.size))
   clear hb4 kt q0 q1 q2 q3 q4 q5 q6
   by_cases hl : L <= 65536
   . have hr := hri.out hl
     replace hpr := hid (hpr.out hr)
     replace hr := hid hr
     go_wp2_with fail
     go_ret2
     exact ⟨by rw [hpr.out, hr.out]; rfl, hend.out⟩
   . have hr := hrn.out hl
     have hfin := hid (qdk hr)
     replace hr := hid hr
     go_wp2_with fail
     go_ret2
     exact ⟨by rw [hfin.out, hr.out]; rfl, hend.out⟩
theorem qby (x : PV) (w : World) (hE : EnvP w) (hA : ProgAt w x) (hz : Small x.p) :
   Calls Tryz.prog 17 #[.agg #[.slice x.I x.p.ins.length x.i, .slice x.C x.p.cells.length x.c, .slice x.F x.p.defs.length x.f, .int .i64 x.p.body.kind, .string x.p.body.name, .int .i64 x.p.body.num, .slice x.B x.p.body.kids.length x.b]] w fun e w' => e = .returned (.bool (qar x.p)) /\ Below w.heap.size w w' := by
 have hx0 := World.alloc_heap_new w (.cells #[.slice x.I x.p.ins.length x.i, .slice x.C x.p.cells.length x.c, .slice x.F x.p.defs.length x.f, .int .i64 x.p.body.kind, .string x.p.body.name, .int .i64 x.p.body.num, .slice x.B x.p.body.kids.length x.b] 28)
 have hb0 := X.qab w (.cells #[.slice x.I x.p.ins.length x.i, .slice x.C x.p.cells.length x.c, .slice x.F x.p.defs.length x.f, .int .i64 x.p.body.kind, .string x.p.body.name, .int .i64 x.p.body.num, .slice x.B x.p.body.kids.length x.b] 28)
 obtain ⟨W1, hW1⟩ : ∃ W, w.alloc (.cells #[.slice x.I x.p.ins.length x.i, .slice x.C x.p.cells.length x.c, .slice x.F x.p.defs.length x.f, .int .i64 x.p.body.kind, .string x.p.body.name, .int .i64 x.p.body.num, .slice x.B x.p.body.kids.length x.b] 28) = W := ⟨_, rfl⟩
 rw [hW1] at hx0 hb0
 have ks := hid (qhr x W1 (hE.later hb0) (hA.later hb0) hz)
 have q0 := qaa _ _ 0 _ _ _ hx0
 have q1 := qaa _ _ 1 _ _ _ hx0
 have q2 := qaa _ _ 2 _ _ _ hx0
 have q3 := qaa _ _ 3 _ _ _ hx0
 have q4 := qaa _ _ 4 _ _ _ hx0
 have q5 := qaa _ _ 5 _ _ _ hx0
 have q6 := qaa _ _ 6 _ _ _ hx0
 replace hb0 := hid hb0
 clear hx0 hz hE hA
 go_enter Tryz.func17, Tryz.ntmps17
 go_wp2_with fail
 replace hW1 := hid hW1
 refine ks.out.mono ?_
 rintro e w2 ⟨rfl, hb2⟩
 have hend := hid (hb0.out.trans (hb2.mono hb0.out.size))
 clear hb2 ks
 go_wp2_with fail
 go_ret
 exact ⟨rfl, hend.out⟩
theorem qeb (x : PV) (w : World) (hE : EnvP w) (hA : ProgAt w x) (hz : Small x.p) :
   Calls Tryz.prog 21 #[.agg #[.slice x.I x.p.ins.length x.i, .slice x.C x.p.cells.length x.c, .slice x.F x.p.defs.length x.f, .int .i64 x.p.body.kind, .string x.p.body.name, .int .i64 x.p.body.num, .slice x.B x.p.body.kids.length x.b]] w fun e w' => e = .returned (.string (qbI x.p)) /\ Below w.heap.size w w' := by
 have hx0 := World.alloc_heap_new w (.cells #[.slice x.I x.p.ins.length x.i, .slice x.C x.p.cells.length x.c, .slice x.F x.p.defs.length x.f, .int .i64 x.p.body.kind, .string x.p.body.name, .int .i64 x.p.body.num, .slice x.B x.p.body.kids.length x.b] 28)
 have hb0 := X.qab w (.cells #[.slice x.I x.p.ins.length x.i, .slice x.C x.p.cells.length x.c, .slice x.F x.p.defs.length x.f, .int .i64 x.p.body.kind, .string x.p.body.name, .int .i64 x.p.body.num, .slice x.B x.p.body.kids.length x.b] 28)
 obtain ⟨W1, hW1⟩ : ∃ W, w.alloc (.cells #[.slice x.I x.p.ins.length x.i, .slice x.C x.p.cells.length x.c, .slice x.F x.p.defs.length x.f, .int .i64 x.p.body.kind, .string x.p.body.name, .int .i64 x.p.body.num, .slice x.B x.p.body.kids.length x.b] 28) = W := ⟨_, rfl⟩
 rw [hW1] at hx0 hb0
 have ks := hid (qhr x W1 (hE.later hb0) (hA.later hb0) hz)
 have q0 := qaa _ _ 0 _ _ _ hx0
 have q1 := qaa _ _ 1 _ _ _ hx0
 have q2 := qaa _ _ 2 _ _ _ hx0
 have q3 := qaa _ _ 3 _ _ _ hx0
 have q4 := qaa _ _ 4 _ _ _ hx0
 have q5 := qaa _ _ 5 _ _ _ hx0
 have q6 := qaa _ _ 6 _ _ _ hx0
 replace hb0 := hid hb0
 clear hx0 hz hE hA
 go_enter Tryz.func21, Tryz.ntmps21
 go_wp2_with fail
 replace hW1 := hid hW1
 refine ks.out.mono ?_
 rintro e w2 ⟨rfl, hb2⟩
 have hend := hid (hb0.out.trans (hb2.mono hb0.out.size))
 clear hb2 ks
 go_wp2_with fail
 go_ret
 exact ⟨rfl, hend.out⟩
noncomputable def one {α : Type} (a b : α) : Bool := @decide (a = b) (Classical.propDecidable _)
theorem qbY {α : Type} {a b : α} : one a b = true ↔ a = b := by unfold one; exact @decide_eq_true_iff _ (Classical.propDecidable _)
theorem qbZ {α : Type} (a : α) : one a a = true := qbY.2 rfl
theorem qdN {α : Type} {a b : α} (h : a ≠ b) : one a b = false := by
 rcases h9 : one a b with _ | _
 . rfl
 . exact absurd (qbY.1 h9) h
theorem qkd {α : Type} {l m : List α} {d : α} (hl : l.length = m.length) (h : ∀ j, j < l.length -> l.getD j d = m.getD j d) : l = m := by
 apply List.ext_getElem hl
 intro i h1 h2
 have h3 := h i h1
 rwa [List.getD_eq_getElem?_getD, List.getD_eq_getElem?_getD, List.getElem?_eq_getElem h1, List.getElem?_eq_getElem h2] at h3
theorem downN {B : Nat} {w w1 : World} (h : Below B w w1) (n : Nat) : Below B w (w1.drewN n) := ⟨h.os, h.tape, h.output, h.size, h.block⟩
def declB (a b : D) : Bool := (a.name.toList == b.name.toList) && (a.label.toList == b.label.toList) && (a.n == b.n)
theorem qeX {a b : ByteArray} (h : a.toList = b.toList) : a = b := by rw [<- X.qbx a, <- X.qbx b, <- ByteArray.toList_eq, <- ByteArray.toList_eq, h]
theorem qpB {a b : D} : declB a b = true ↔ a = b := by
 constructor
 . intro h
   unfold declB at h
   simp only [Bool.and_eq_true, beq_iff_eq] at h
   obtain ⟨a1, a2, a3⟩ := a
   obtain ⟨b1, b2, b3⟩ := b
   obtain ⟨⟨h1, h2⟩, h3⟩ := h
   dsimp only at h1 h2 h3
   rw [qeX h1, qeX h2, h3]
 . rintro rfl
   unfold declB
   simp
theorem qke (A : Option Addr) (c : Nat) (l : List D) (B : Option Addr) (d : Nat) (m : List D) (w : World) (hU : Decls w A c l) (hT : Decls w B d m) :
   Calls Tryz.prog 38 #[.slice A l.length c, .slice B m.length d] w fun e w' => e = .returned (.bool (one l m)) /\ Below w.heap.size w w' := by
 have hmx : l.length <= 9223372036854775807 := Nat.le_trans hU.cap hU.max
 have hmy : m.length <= 9223372036854775807 := Nat.le_trans hT.cap hT.max
 by_cases hlen : l.length = m.length
 . have hyes : Hid ((∀ j, j < l.length -> l.getD j d0 = m.getD j d0) -> one l m = true) := fun h => qbY.2 (qkd hlen h)
   have hno : Hid (∀ j, l.getD j d0 ≠ m.getD j d0 -> one l m = false) := fun j h => qdN (fun e => h (by rw [e]))
   replace hT := hid hT
   replace hU := hid hU
   have hlh := hid hlen
   rw [hlen] at hyes hmx ⊢
   obtain ⟨N, hN⟩ : ∃ N, m.length = N := ⟨_, rfl⟩
   rw [hN] at hyes hmx ⊢
   have g1 : ((N : Int) != (N : Int)) = false := by simp
   replace hN := hid hN
   clear hlen hmy
   go_enter Tryz.func38, Tryz.ntmps38
   go_wp2_with fail
   go_loopw [13] (fun i wr => ∃ k : Nat, k <= N /\ i = .int .i64 k /\ Hid (∀ j, j < k -> l.getD j d0 = m.getD j d0) /\ Hid (Below w.heap.size w wr)) (fun i _ => N - (intOf i).toNat)
   case atStart => exact ⟨0, Nat.zero_le _, rfl, fun j hj => by omega, Below.refl _ _⟩
   case round =>
     obtain ⟨k, hk, rfl, hok, hB⟩ := hrel
     by_cases hlt : k < N
     . obtain ⟨b, off, rfl, hb, hc⟩ := (hU.out.later hB.out).at_ (by intro e; have h1 := hN.out; have h2 := hlh.out; rw [e] at h2; simp at h2; omega)
       obtain ⟨b2, off2, rfl, hb2, hc2⟩ := (hT.out.later hB.out).at_ (by intro e; have h1 := hN.out; rw [e] at h1; simp at h1; omega)
       obtain ⟨c0, c1, c2⟩ := hc k (by have h1 := hN.out; have h2 := hlh.out; omega)
       obtain ⟨t0, t1, t2⟩ := hc2 k (by have h1 := hN.out; omega)
       clear hc hc2
       have hlo : l.getD k d0 = m.getD k d0 -> Hid (∀ j, j < k + 1 -> l.getD j d0 = m.getD j d0) := fun h j hj => by
         by_cases e : j < k
         . exact hok.out j e
         . obtain rfl : j = k := by omega
           exact h
       replace hlo := hid hlo
       have hnk := hid (hno.out k)
       have hdb := hid (@qpB (l.getD k d0) (m.getD k d0))
       unfold declB at hdb
       generalize l.getD k d0 = p at c0 c1 c2 hlo hnk hdb
       generalize m.getD k d0 = q at t0 t1 t2 hlo hnk hdb
       obtain ⟨p0, p1, p2⟩ := p
       obtain ⟨q0, q1, q2⟩ := q
       dsimp only at c0 c1 c2 t0 t1 t2 hdb
       rcases hr : (p0.toList == q0.toList) && (p1.toList == q1.toList) && (p2 == q2) with _ | _
       . have hfin := hid (hnk.out (fun e => by have h1 := hdb.out.2 e; rw [hr] at h1; cases h1))
         clear hlo hnk hdb hok
         have hB9 := hid hB.out
         replace hr : ((p0.toList == q0.toList) && ((p1.toList == q1.toList) && (p2 == q2))) = false := by rw [<- hr, Bool.and_assoc]
         by_cases e0 : (p0.toList == q0.toList) = true
         . by_cases e1 : (p1.toList == q1.toList) = true
           . have e2 : (p2 == q2) = false := by rw [e0, e1] at hr; simpa using hr
             clear hr
             go_wp2_with fail
             go_quiet (fail)
             go_wp2_with fail
             go_ret
             exact ⟨qae hfin.out.symm, downN hB9.out _⟩
           . replace e1 : (p1.toList == q1.toList) = false := by simpa using e1
             clear hr
             go_wp2_with fail
             go_quiet (fail)
             go_wp2_with fail
             go_ret
             exact ⟨qae hfin.out.symm, downN hB9.out _⟩
         . replace e0 : (p0.toList == q0.toList) = false := by simpa using e0
           clear hr
           go_wp2_with fail
           go_quiet (fail)
           go_wp2_with fail
           go_ret
           exact ⟨qae hfin.out.symm, downN hB9.out _⟩
       . have hlo2 := hid (hlo.out (hdb.out.1 hr))
         clear hlo hnk hdb
         rw [Bool.and_eq_true, Bool.and_eq_true] at hr
         obtain ⟨⟨r0, r1⟩, r2⟩ := hr
         go_wp2_with fail
         go_quiet (fail)
         go_wp2_with fail
         go_roundw
         case rel => exact ⟨k + 1, by omega, by go_num, hlo2, hid (downN hB.out _)⟩
         case measure => simp [intOf]; omega
     . obtain rfl : k = N := by omega
       have hfin := hid (hyes.out hok.out)
       clear hok
       go_wp2_with fail
       go_ret
       exact ⟨qae hfin.out.symm, hB.out⟩
 . have g1 : ((l.length : Int) != (m.length : Int)) = true := by rw [bne_iff_ne]; omega
   have hfin := hid (qdN (show l ≠ m from fun e => hlen (by rw [e])))
   clear hlen hU hT
   go_enter Tryz.func38, Tryz.ntmps38
   go_wp2_with fail
   go_ret
   exact ⟨qae hfin.out.symm, Below.refl _ _⟩
theorem qlf (a b : Df) (A B : Option Addr) (c d : Nat) (w : World) (hsz : a.t.size <= 4194304) (hT : TmV w (· < w.heap.size) a.t A c) (hU : TmV w (· < w.heap.size) b.t B d) :
   Calls Tryz.prog 40 #[.agg #[.string a.name, .int .i64 a.t.kind, .string a.t.name, .int .i64 a.t.num, .slice A a.t.kids.length c], .agg #[.string b.name, .int .i64 b.t.kind, .string b.t.name, .int .i64 b.t.num, .slice B b.t.kids.length d]] w fun e w' => e = .returned (.bool (one a b)) /\ Below w.heap.size w w' := by
 have hx0 := World.alloc_heap_new w (.cells #[.string a.name, .int .i64 a.t.kind, .string a.t.name, .int .i64 a.t.num, .slice A a.t.kids.length c] 60)
 have hb0 := X.qab w (.cells #[.string a.name, .int .i64 a.t.kind, .string a.t.name, .int .i64 a.t.num, .slice A a.t.kids.length c] 60)
 obtain ⟨W1, hW1⟩ : ∃ W, w.alloc (.cells #[.string a.name, .int .i64 a.t.kind, .string a.t.name, .int .i64 a.t.num, .slice A a.t.kids.length c] 60) = W := ⟨_, rfl⟩
 rw [hW1] at hx0 hb0
 have hy0 := World.alloc_heap_new W1 (.cells #[.string b.name, .int .i64 b.t.kind, .string b.t.name, .int .i64 b.t.num, .slice B b.t.kids.length d] 60)
 have hb1 := X.qab W1 (.cells #[.string b.name, .int .i64 b.t.kind, .string b.t.name, .int .i64 b.t.num, .slice B b.t.kids.length d] 60)
 obtain ⟨W2, hW2⟩ : ∃ W, W1.alloc (.cells #[.string b.name, .int .i64 b.t.kind, .string b.t.name, .int .i64 b.t.num, .slice B b.t.kids.length d] 60) = W := ⟨_, rfl⟩
 rw [hW2] at hy0 hb1
 have hb2 := hb0.trans (hb1.mono hb0.size)
 have ks := qlI a.t b.t A B c d W2 hsz (hT.later hb2) (hU.later hb2)
 unfold tmV at ks
 have hyes : Hid (eqT a.t b.t = true -> (a.name.toList == b.name.toList) = true -> one a b = true) := fun h g => qbY.2 (by
   have h1 := Go.Proofs.YtjnfhebbphdchaaGreatDoor.Eq.eq_of _ _ h
   have h2 := qeX (beq_iff_eq.1 g)
   obtain ⟨a1, a2⟩ := a
   obtain ⟨b1, b2⟩ := b
   dsimp only at h1 h2
   rw [h1, h2])
 have hno1 : Hid (eqT a.t b.t = false -> one a b = false) := fun h => qdN (fun e => by rw [e, Go.Proofs.YtjnfhebbphdchaaGreatDoor.Eq.self_eq] at h; cases h)
 have hno2 : Hid ((a.name.toList == b.name.toList) = false -> one a b = false) := fun h => qdN (fun e => by rw [e] at h; simp at h)
 have x0 := qaa _ _ 0 _ _ _ ((hb1.block _ (World.lt_of_get hx0)).trans hx0)
 have x1 := qaa _ _ 1 _ _ _ ((hb1.block _ (World.lt_of_get hx0)).trans hx0)
 have x2 := qaa _ _ 2 _ _ _ ((hb1.block _ (World.lt_of_get hx0)).trans hx0)
 have x3 := qaa _ _ 3 _ _ _ ((hb1.block _ (World.lt_of_get hx0)).trans hx0)
 have x4 := qaa _ _ 4 _ _ _ ((hb1.block _ (World.lt_of_get hx0)).trans hx0)
 have y0 := qaa _ _ 0 _ _ _ hy0
 have y1 := qaa _ _ 1 _ _ _ hy0
 have y2 := qaa _ _ 2 _ _ _ hy0
 have y3 := qaa _ _ 3 _ _ _ hy0
 have y4 := qaa _ _ 4 _ _ _ hy0
 replace ks := hid ks
 replace hb2 := hid hb2
 clear hx0 hy0 hb0 hb1 hT hU hsz
 by_cases e0 : (a.name.toList == b.name.toList) = true
 . rcases he : eqT a.t b.t with _ | _
   . have hfin := hid (hno1.out he)
     rw [he] at ks
     clear he hno1 hno2 hyes
     go_enter Tryz.func40, Tryz.ntmps40
     go_wp2_with fail
     refine ks.out.mono ?_
     rintro e w3 ⟨rfl, hb3⟩
     have hend := hid (hb2.out.trans (hb3.mono hb2.out.size))
     clear hb3 ks
     go_wp2_with fail
     go_ret
     exact ⟨qae hfin.out.symm, hend.out⟩
   . have hfin := hid (hyes.out he e0)
     rw [he] at ks
     clear he hno1 hno2 hyes
     go_enter Tryz.func40, Tryz.ntmps40
     go_wp2_with fail
     refine ks.out.mono ?_
     rintro e w3 ⟨rfl, hb3⟩
     have hend := hid (hb2.out.trans (hb3.mono hb2.out.size))
     clear hb3 ks
     go_wp2_with fail
     go_ret
     exact ⟨qae hfin.out.symm, hend.out⟩
 . replace e0 : (a.name.toList == b.name.toList) = false := by simpa using e0
   have hfin := hid (hno2.out e0)
   clear hno1 hno2 hyes ks
   go_enter Tryz.func40, Tryz.ntmps40
   go_wp2_with fail
   go_ret
   exact ⟨qae hfin.out.symm, hb2.out⟩
theorem qiO (A : Option Addr) (c : Nat) (l : List Df) (B : Option Addr) (d : Nat) (m : List Df) (w : World) (hz : ∀ x ∈ l, x.t.size <= 4194304) (hU : Defs w A c l) (hT : Defs w B d m) :
   Calls Tryz.prog 39 #[.slice A l.length c, .slice B m.length d, .func (.func 40) #[] #[]] w fun e w' => e = .returned (.bool (one l m)) /\ Below w.heap.size w w' := by
 have hmx : l.length <= 9223372036854775807 := Nat.le_trans hU.cap hU.max
 have hmy : m.length <= 9223372036854775807 := Nat.le_trans hT.cap hT.max
 by_cases hlen : l.length = m.length
 . have hyes : Hid ((∀ j, j < l.length -> l.getD j f0 = m.getD j f0) -> one l m = true) := fun h => qbY.2 (qkd hlen h)
   have hno : Hid (∀ j, l.getD j f0 ≠ m.getD j f0 -> one l m = false) := fun j h => qdN (fun e => h (by rw [e]))
   have hzk : Hid (∀ j, j < l.length -> (l.getD j f0).t.size <= 4194304) := fun j hj => hz _ (qbu hj)
   replace hT := hid hT
   replace hU := hid hU
   have hlh := hid hlen
   rw [hlen] at hyes hmx hzk ⊢
   obtain ⟨N, hN⟩ : ∃ N, m.length = N := ⟨_, rfl⟩
   rw [hN] at hyes hmx hzk ⊢
   have g1 : ((N : Int) != (N : Int)) = false := by simp
   replace hN := hid hN
   clear hlen hmy hz
   go_enter Tryz.func39, Tryz.ntmps39
   go_wp2_with fail
   go_loopw [17] (fun i wr => ∃ k : Nat, k <= N /\ i = .int .i64 k /\ Hid (∀ j, j < k -> l.getD j f0 = m.getD j f0) /\ Hid (Below w.heap.size w wr)) (fun i _ => N - (intOf i).toNat)
   case atStart => exact ⟨0, Nat.zero_le _, rfl, fun j hj => by omega, Below.refl _ _⟩
   case round =>
     obtain ⟨k, hk, rfl, hok, hB⟩ := hrel
     by_cases hlt : k < N
     . obtain ⟨b, off, rfl, hb, hc⟩ := (hU.out.later hB.out).at_ (by intro e; have h1 := hN.out; have h2 := hlh.out; rw [e] at h2; simp at h2; omega)
       obtain ⟨b2, off2, rfl, hb2, hc2⟩ := (hT.out.later hB.out).at_ (by intro e; have h1 := hN.out; rw [e] at h1; simp at h1; omega)
       obtain ⟨c0, hnode⟩ := hc k (by have h1 := hN.out; have h2 := hlh.out; omega)
       obtain ⟨t0, hnode2⟩ := hc2 k (by have h1 := hN.out; omega)
       clear hc hc2
       have hlo : l.getD k f0 = m.getD k f0 -> Hid (∀ j, j < k + 1 -> l.getD j f0 = m.getD j f0) := fun h j hj => by
         by_cases e : j < k
         . exact hok.out j e
         . obtain rfl : j = k := by omega
           exact h
       replace hlo := hid hlo
       have hnk := hid (hno.out k)
       have hzz := hzk.out k hlt
       generalize l.getD k f0 = p at c0 hnode hlo hnk hzz
       generalize m.getD k f0 = q at t0 hnode2 hlo hnk
       obtain ⟨p0, pt⟩ := p
       obtain ⟨q0, qt⟩ := q
       dsimp only at c0 t0 hnode hnode2 hzz
       obtain ⟨TA, tc, hh, hTT⟩ := qaG hnode
       obtain ⟨UA, uc, gg, hUU⟩ := qaG hnode2
       have c1 := hh.kind
       have c2 := hh.name
       have c3 := hh.num
       have c4 := hh.kids
       have hx0 := World.alloc_heap_new wr (.cells #[.string p0, .int .i64 pt.kind, .string pt.name, .int .i64 pt.num, .slice TA pt.kids.length tc] 60)
       have hb0 := X.qab wr (.cells #[.string p0, .int .i64 pt.kind, .string pt.name, .int .i64 pt.num, .slice TA pt.kids.length tc] 60)
       obtain ⟨W1, hW1⟩ : ∃ W, wr.alloc (.cells #[.string p0, .int .i64 pt.kind, .string pt.name, .int .i64 pt.num, .slice TA pt.kids.length tc] 60) = W := ⟨_, rfl⟩
       rw [hW1] at hx0 hb0
       have t1 := (hb0.cell (p := ⟨b2, off2 + k * 5, none⟩) hb2).trans t0
       have u1 := (hb0.cell (p := ⟨b2, off2 + k * 5 + 1, none⟩) hb2).trans gg.kind
       have u2 := (hb0.cell (p := ⟨b2, off2 + k * 5 + 1 + 1, none⟩) hb2).trans gg.name
       have u3 := (hb0.cell (p := ⟨b2, off2 + k * 5 + 1 + 2, none⟩) hb2).trans gg.num
       have u4 := (hb0.cell (p := ⟨b2, off2 + k * 5 + 1 + 3, none⟩) hb2).trans gg.kids
       have hy0 := World.alloc_heap_new W1 (.cells #[.string q0, .int .i64 qt.kind, .string qt.name, .int .i64 qt.num, .slice UA qt.kids.length uc] 60)
       have hb1 := X.qab W1 (.cells #[.string q0, .int .i64 qt.kind, .string qt.name, .int .i64 qt.num, .slice UA qt.kids.length uc] 60)
       obtain ⟨W2, hW2⟩ : ∃ W, W1.alloc (.cells #[.string q0, .int .i64 qt.kind, .string qt.name, .int .i64 qt.num, .slice UA qt.kids.length uc] 60) = W := ⟨_, rfl⟩
       rw [hW2] at hy0 hb1
       have hbb := hb0.trans (hb1.mono hb0.size)
       have kd := qlf ⟨p0, pt⟩ ⟨q0, qt⟩ TA UA tc uc W2 hzz (hTT.later hbb) (hUU.later hbb)
       dsimp only at kd
       have hB9 := hid (hB.out.trans (hbb.mono hB.out.size))
       obtain ⟨r, hr⟩ : ∃ r, one (⟨p0, pt⟩ : Df) ⟨q0, qt⟩ = r := ⟨_, rfl⟩
       rw [hr] at kd
       replace kd := hid kd
       have x0 := qaa _ _ 0 _ _ _ ((hb1.block _ (World.lt_of_get hx0)).trans hx0)
       have x1 := qaa _ _ 1 _ _ _ ((hb1.block _ (World.lt_of_get hx0)).trans hx0)
       have x2 := qaa _ _ 2 _ _ _ ((hb1.block _ (World.lt_of_get hx0)).trans hx0)
       have x3 := qaa _ _ 3 _ _ _ ((hb1.block _ (World.lt_of_get hx0)).trans hx0)
       have x4 := qaa _ _ 4 _ _ _ ((hb1.block _ (World.lt_of_get hx0)).trans hx0)
       have y0 := qaa _ _ 0 _ _ _ hy0
       have y1 := qaa _ _ 1 _ _ _ hy0
       have y2 := qaa _ _ 2 _ _ _ hy0
       have y3 := qaa _ _ 3 _ _ _ hy0
       have y4 := qaa _ _ 4 _ _ _ hy0
       clear hx0 hy0 hb0 hb1 hbb hh gg hTT hUU hnode hnode2 hzz t0
       cases r with
       | true =>
         have hlo2 := hid (hlo.out (qbY.1 hr))
         clear hlo hnk hr
         go_wp2_with fail
         refine kd.out.mono ?_
         rintro e w9 ⟨rfl, hb8⟩
         have hend := hid (hB9.out.trans (hb8.mono hB9.out.size))
         clear hb8 kd
         go_wp2_with fail
         go_roundw
         case rel => exact ⟨k + 1, by omega, by go_num, hlo2.out, hend⟩
         case measure => simp [intOf]; omega
       | false =>
         have hfin := hid (hnk.out (fun e => by rw [qbY.2 e] at hr; cases hr))
         clear hlo hnk hr
         go_wp2_with fail
         refine kd.out.mono ?_
         rintro e w9 ⟨rfl, hb8⟩
         have hend := hid (hB9.out.trans (hb8.mono hB9.out.size))
         clear hb8 kd
         go_wp2_with fail
         go_ret
         exact ⟨qae hfin.out.symm, hend.out⟩
     . obtain rfl : k = N := by omega
       have hfin := hid (hyes.out hok.out)
       clear hok
       go_wp2_with fail
       go_ret
       exact ⟨qae hfin.out.symm, hB.out⟩
 . have g1 : ((l.length : Int) != (m.length : Int)) = true := by rw [bne_iff_ne]; omega
   have hfin := hid (qdN (show l ≠ m from fun e => hlen (by rw [e])))
   clear hlen hU hT
   go_enter Tryz.func39, Tryz.ntmps39
   go_wp2_with fail
   go_ret
   exact ⟨qae hfin.out.symm, Below.refl _ _⟩
theorem qdO (x y : PV) (w : World) (hA : ProgAt w x) (hB : ProgAt w y) (hz : Small x.p) :
   Calls Tryz.prog 15 #[.agg #[.slice x.I x.p.ins.length x.i, .slice x.C x.p.cells.length x.c, .slice x.F x.p.defs.length x.f, .int .i64 x.p.body.kind, .string x.p.body.name, .int .i64 x.p.body.num, .slice x.B x.p.body.kids.length x.b], .agg #[.slice y.I y.p.ins.length y.i, .slice y.C y.p.cells.length y.c, .slice y.F y.p.defs.length y.f, .int .i64 y.p.body.kind, .string y.p.body.name, .int .i64 y.p.body.num, .slice y.B y.p.body.kids.length y.b]] w fun e w' => e = .returned (.bool (one x.p y.p)) /\ Below w.heap.size w w' := by
 have hx0 := World.alloc_heap_new w (.cells #[.slice x.I x.p.ins.length x.i, .slice x.C x.p.cells.length x.c, .slice x.F x.p.defs.length x.f, .int .i64 x.p.body.kind, .string x.p.body.name, .int .i64 x.p.body.num, .slice x.B x.p.body.kids.length x.b] 28)
 have hb0 := X.qab w (.cells #[.slice x.I x.p.ins.length x.i, .slice x.C x.p.cells.length x.c, .slice x.F x.p.defs.length x.f, .int .i64 x.p.body.kind, .string x.p.body.name, .int .i64 x.p.body.num, .slice x.B x.p.body.kids.length x.b] 28)
 obtain ⟨W1, hW1⟩ : ∃ W, w.alloc (.cells #[.slice x.I x.p.ins.length x.i, .slice x.C x.p.cells.length x.c, .slice x.F x.p.defs.length x.f, .int .i64 x.p.body.kind, .string x.p.body.name, .int .i64 x.p.body.num, .slice x.B x.p.body.kids.length x.b] 28) = W := ⟨_, rfl⟩
 rw [hW1] at hx0 hb0
 have hy0 := World.alloc_heap_new W1 (.cells #[.slice y.I y.p.ins.length y.i, .slice y.C y.p.cells.length y.c, .slice y.F y.p.defs.length y.f, .int .i64 y.p.body.kind, .string y.p.body.name, .int .i64 y.p.body.num, .slice y.B y.p.body.kids.length y.b] 28)
 have hb1 := X.qab W1 (.cells #[.slice y.I y.p.ins.length y.i, .slice y.C y.p.cells.length y.c, .slice y.F y.p.defs.length y.f, .int .i64 y.p.body.kind, .string y.p.body.name, .int .i64 y.p.body.num, .slice y.B y.p.body.kids.length y.b] 28)
 obtain ⟨W2, hW2⟩ : ∃ W, W1.alloc (.cells #[.slice y.I y.p.ins.length y.i, .slice y.C y.p.cells.length y.c, .slice y.F y.p.defs.length y.f, .int .i64 y.p.body.kind, .string y.p.body.name, .int .i64 y.p.body.num, .slice y.B y.p.body.kids.length y.b] 28) = W := ⟨_, rfl⟩
 rw [hW2] at hy0 hb1
 have hxx := hid ((hb1.block _ (World.lt_of_get hx0)).trans hx0)
 have hyy := hid hy0
 have hb2 := hb0.trans (hb1.mono hb0.size)
 replace hA := hid (hA.later hb2)
 replace hB := hid (hB.later hb2)
 obtain ⟨p, I, i, C, c, F, f, B, b⟩ := x
 obtain ⟨q, I2, i2, C2, c2, F2, f2, B2, b2⟩ := y
 obtain ⟨ins, cells, defs, body⟩ := p
 obtain ⟨ins2, cells2, defs2, body2⟩ := q
 dsimp only at hx0 hy0 hW1 hW2 hxx hyy hA hB hz ⊢
 have k1 := hid (qke I i ins I2 i2 ins2 W2 hA.out.ins hB.out.ins)
 have k2 := hid (fun (W : World) (h : Below W2.heap.size W2 W) => qke C c cells C2 c2 cells2 W (hA.out.cells.later h) (hB.out.cells.later h))
 have k3 := hid (fun (W : World) (h : Below W2.heap.size W2 W) => qiO F f defs F2 f2 defs2 W hz.defs (hA.out.defs.later h) (hB.out.defs.later h))
 have k4 := hid (fun (W : World) (h : Below W2.heap.size W2 W) => by
   have h9 := qlI body body2 B B2 b b2 W hz.body (hA.out.body.later h) (hB.out.body.later h)
   unfold tmV at h9
   exact h9)
 have hall : Hid (one ins ins2 = true -> one cells cells2 = true -> one defs defs2 = true -> eqT body body2 = true -> one (⟨ins, cells, defs, body⟩ : P) ⟨ins2, cells2, defs2, body2⟩ = true) := fun h1 h2 h3 h4 => by
   rw [qbY.1 h1, qbY.1 h2, qbY.1 h3, Go.Proofs.YtjnfhebbphdchaaGreatDoor.Eq.eq_of _ _ h4]
   exact qbZ _
 have n1 : Hid (one ins ins2 = false -> one (⟨ins, cells, defs, body⟩ : P) ⟨ins2, cells2, defs2, body2⟩ = false) := fun h => qdN (fun e => by injection e with e1 e2 e3 e4; rw [e1, qbZ] at h; cases h)
 have n2 : Hid (one cells cells2 = false -> one (⟨ins, cells, defs, body⟩ : P) ⟨ins2, cells2, defs2, body2⟩ = false) := fun h => qdN (fun e => by injection e with e1 e2 e3 e4; rw [e2, qbZ] at h; cases h)
 have n3 : Hid (one defs defs2 = false -> one (⟨ins, cells, defs, body⟩ : P) ⟨ins2, cells2, defs2, body2⟩ = false) := fun h => qdN (fun e => by injection e with e1 e2 e3 e4; rw [e3, qbZ] at h; cases h)
 have n4 : Hid (eqT body body2 = false -> one (⟨ins, cells, defs, body⟩ : P) ⟨ins2, cells2, defs2, body2⟩ = false) := fun h => qdN (fun e => by injection e with e1 e2 e3 e4; rw [e4, Go.Proofs.YtjnfhebbphdchaaGreatDoor.Eq.self_eq] at h; cases h)
 obtain ⟨r1, hr1⟩ : ∃ r, one ins ins2 = r := ⟨_, rfl⟩
 obtain ⟨r2, hr2⟩ : ∃ r, one cells cells2 = r := ⟨_, rfl⟩
 obtain ⟨r3, hr3⟩ : ∃ r, one defs defs2 = r := ⟨_, rfl⟩
 obtain ⟨r4, hr4⟩ : ∃ r, eqT body body2 = r := ⟨_, rfl⟩
 obtain ⟨R, hR⟩ : ∃ r, one (⟨ins, cells, defs, body⟩ : P) ⟨ins2, cells2, defs2, body2⟩ = r := ⟨_, rfl⟩
 rw [hr1] at k1 n1 hall
 rw [hr2] at k2 n2 hall
 rw [hr3] at k3 n3 hall
 rw [hr4] at k4 n4 hall
 rw [hR] at n1 n2 n3 n4 hall ⊢
 have q1 := hxx.out
 have q2 := hyy.out
 have x0 := qaa _ _ 0 _ _ _ q1
 have x1 := qaa _ _ 1 _ _ _ q1
 have x2 := qaa _ _ 2 _ _ _ q1
 have x3 := qaa _ _ 3 _ _ _ q1
 have x4 := qaa _ _ 4 _ _ _ q1
 have x5 := qaa _ _ 5 _ _ _ q1
 have x6 := qaa _ _ 6 _ _ _ q1
 have y0 := qaa _ _ 0 _ _ _ q2
 have y1 := qaa _ _ 1 _ _ _ q2
 have y2 := qaa _ _ 2 _ _ _ q2
 have y3 := qaa _ _ 3 _ _ _ q2
 have y4 := qaa _ _ 4 _ _ _ q2
 have y5 := qaa _ _ 5 _ _ _ q2
 have y6 := qaa _ _ 6 _ _ _ q2
 replace hb2 := hid hb2
 clear q1 q2 hx0 hy0 hb0 hb1 hA hB hz hr1 hr2 hr3 hr4 hR
 go_enter Tryz.func15, Tryz.ntmps15
 go_wp2_with fail
 refine k1.out.mono ?_
 rintro e w3 ⟨rfl, hb3⟩
 replace hW1 := hid hW1
 replace hW2 := hid hW2
 clear k1 x0 y0 x1 y1 x2 y2 x3 y3 x4 y4 x5 y5 x6 y6
 cases r1 with
 | false =>
   have hfin := hid (n1.out rfl)
   have hend := hid (hb2.out.trans (hb3.mono hb2.out.size))
   clear hb3
   go_wp2_with fail
   go_ret
   exact ⟨qae hfin.out.symm, hend.out⟩
 | true =>
 have q1 := (hb3.block _ (World.lt_of_get hxx.out)).trans hxx.out
 have q2 := (hb3.block _ (World.lt_of_get hyy.out)).trans hyy.out
 have x0 := qaa _ _ 0 _ _ _ q1
 have x1 := qaa _ _ 1 _ _ _ q1
 have x2 := qaa _ _ 2 _ _ _ q1
 have x3 := qaa _ _ 3 _ _ _ q1
 have x4 := qaa _ _ 4 _ _ _ q1
 have x5 := qaa _ _ 5 _ _ _ q1
 have x6 := qaa _ _ 6 _ _ _ q1
 have y0 := qaa _ _ 0 _ _ _ q2
 have y1 := qaa _ _ 1 _ _ _ q2
 have y2 := qaa _ _ 2 _ _ _ q2
 have y3 := qaa _ _ 3 _ _ _ q2
 have y4 := qaa _ _ 4 _ _ _ q2
 have y5 := qaa _ _ 5 _ _ _ q2
 have y6 := qaa _ _ 6 _ _ _ q2
 clear q1 q2
 replace k2 := hid (k2.out w3 hb3)
 replace hb3 := hid hb3
 go_wp2_with fail
 refine k2.out.mono ?_
 rintro e w4 ⟨rfl, hb4⟩
 replace hb4 := hb3.out.trans (hb4.mono hb3.out.size)
 clear k2 x0 y0 x1 y1 x2 y2 x3 y3 x4 y4 x5 y5 x6 y6
 cases r2 with
 | false =>
   have hfin := hid (n2.out rfl)
   have hend := hid (hb2.out.trans (hb4.mono hb2.out.size))
   clear hb4
   go_wp2_with fail
   go_ret
   exact ⟨qae hfin.out.symm, hend.out⟩
 | true =>
 have q1 := (hb4.block _ (World.lt_of_get hxx.out)).trans hxx.out
 have q2 := (hb4.block _ (World.lt_of_get hyy.out)).trans hyy.out
 have x0 := qaa _ _ 0 _ _ _ q1
 have x1 := qaa _ _ 1 _ _ _ q1
 have x2 := qaa _ _ 2 _ _ _ q1
 have x3 := qaa _ _ 3 _ _ _ q1
 have x4 := qaa _ _ 4 _ _ _ q1
 have x5 := qaa _ _ 5 _ _ _ q1
 have x6 := qaa _ _ 6 _ _ _ q1
 have y0 := qaa _ _ 0 _ _ _ q2
 have y1 := qaa _ _ 1 _ _ _ q2
 have y2 := qaa _ _ 2 _ _ _ q2
 have y3 := qaa _ _ 3 _ _ _ q2
 have y4 := qaa _ _ 4 _ _ _ q2
 have y5 := qaa _ _ 5 _ _ _ q2
 have y6 := qaa _ _ 6 _ _ _ q2
 clear q1 q2
 replace k3 := hid (k3.out w4 hb4)
 replace hb4 := hid hb4
 go_wp2_with fail
 refine k3.out.mono ?_
 rintro e w5 ⟨rfl, hb5⟩
 replace hb5 := hb4.out.trans (hb5.mono hb4.out.size)
 clear k3 x0 y0 x1 y1 x2 y2 x3 y3 x4 y4 x5 y5 x6 y6
 cases r3 with
 | false =>
   have hfin := hid (n3.out rfl)
   have hend := hid (hb2.out.trans (hb5.mono hb2.out.size))
   clear hb5
   go_wp2_with fail
   go_ret
   exact ⟨qae hfin.out.symm, hend.out⟩
 | true =>
 have q1 := (hb5.block _ (World.lt_of_get hxx.out)).trans hxx.out
 have q2 := (hb5.block _ (World.lt_of_get hyy.out)).trans hyy.out
 have x0 := qaa _ _ 0 _ _ _ q1
 have x1 := qaa _ _ 1 _ _ _ q1
 have x2 := qaa _ _ 2 _ _ _ q1
 have x3 := qaa _ _ 3 _ _ _ q1
 have x4 := qaa _ _ 4 _ _ _ q1
 have x5 := qaa _ _ 5 _ _ _ q1
 have x6 := qaa _ _ 6 _ _ _ q1
 have y0 := qaa _ _ 0 _ _ _ q2
 have y1 := qaa _ _ 1 _ _ _ q2
 have y2 := qaa _ _ 2 _ _ _ q2
 have y3 := qaa _ _ 3 _ _ _ q2
 have y4 := qaa _ _ 4 _ _ _ q2
 have y5 := qaa _ _ 5 _ _ _ q2
 have y6 := qaa _ _ 6 _ _ _ q2
 clear q1 q2
 replace k4 := hid (k4.out w5 hb5)
 replace hb5 := hid hb5
 go_wp2_with fail
 refine k4.out.mono ?_
 rintro e w6 ⟨rfl, hb6⟩
 have hend := hid (hb2.out.trans ((hb5.out.trans (hb6.mono hb5.out.size)).mono hb2.out.size))
 clear k4 hb6 x0 y0 x1 y1 x2 y2 x3 y3 x4 y4 x5 y5 x6 y6
 cases r4 with
 | false =>
   have hfin := hid (n4.out rfl)
   go_wp2_with fail
   go_ret
   exact ⟨qae hfin.out.symm, hend.out⟩
 | true =>
   have hfin := hid (hall.out (by trivial) (by trivial) (by trivial) (by trivial))
   go_wp2_with fail
   go_ret
   exact ⟨qae hfin.out.symm, hend.out⟩
theorem qfF : ∀ (l m : List Df), qaJ (l ++ m) = qaJ l + qaJ m
 | [], m => by simp [qaJ]
 | d :: l, m => by
   have h := qfF l m
   simp only [List.cons_append, qaJ]
   omega
theorem qlg {l : List Df} {k : Nat} (hk : k < l.length) : qaJ (l.take (k + 1)) = qaJ (l.take k) + (l.getD k f0).t.size := by
 rw [List.take_succ_eq_append_getElem hk, qfF, List.getD_eq_getElem?_getD, List.getElem?_eq_getElem hk]
 simp [qaJ]
theorem qpC (l : List Df) (k : Nat) : qaJ (l.take k) <= qaJ l := by
 have h : qaJ l = qaJ (l.take k) + qaJ (l.drop k) := by rw [<- qfF, List.take_append_drop]
 omega
theorem qhs (x : PV) (w : World) (hA : ProgAt w x) (hz : Small x.p) (hs : sizeP x.p <= 1099511627776) :
   Calls Tryz.prog 19 #[.agg #[.slice x.I x.p.ins.length x.i, .slice x.C x.p.cells.length x.c, .slice x.F x.p.defs.length x.f, .int .i64 x.p.body.kind, .string x.p.body.name, .int .i64 x.p.body.num, .slice x.B x.p.body.kids.length x.b]] w fun e w' => e = .returned (.int .i64 (sizeP x.p)) /\ Below w.heap.size w w' := by
 have hx0 := World.alloc_heap_new w (.cells #[.slice x.I x.p.ins.length x.i, .slice x.C x.p.cells.length x.c, .slice x.F x.p.defs.length x.f, .int .i64 x.p.body.kind, .string x.p.body.name, .int .i64 x.p.body.num, .slice x.B x.p.body.kids.length x.b] 28)
 have hb0 := X.qab w (.cells #[.slice x.I x.p.ins.length x.i, .slice x.C x.p.cells.length x.c, .slice x.F x.p.defs.length x.f, .int .i64 x.p.body.kind, .string x.p.body.name, .int .i64 x.p.body.num, .slice x.B x.p.body.kids.length x.b] 28)
 obtain ⟨W1, hW1⟩ : ∃ W, w.alloc (.cells #[.slice x.I x.p.ins.length x.i, .slice x.C x.p.cells.length x.c, .slice x.F x.p.defs.length x.f, .int .i64 x.p.body.kind, .string x.p.body.name, .int .i64 x.p.body.num, .slice x.B x.p.body.kids.length x.b] 28) = W := ⟨_, rfl⟩
 rw [hW1] at hx0 hb0
 have hxx := hid hx0
 replace hA := hid (hA.later hb0)
 obtain ⟨p, I, i, C, c, F, f, B, b⟩ := x
 obtain ⟨ins, cells, defs, body⟩ := p
 dsimp only at hx0 hW1 hxx hA hz hs ⊢
 have hsum : sizeP (⟨ins, cells, defs, body⟩ : P) = body.size + qaJ defs := rfl
 rw [hsum] at hs ⊢
 have ks := hid (show Calls Tryz.prog 23 #[.agg #[.int .i64 body.kind, .string body.name, .int .i64 body.num, .slice B body.kids.length b]] W1 fun e w' => e = .returned (.int .i64 body.size) /\ Below W1.heap.size W1 w' from by
   have h9 := qlq body B b W1 hz.body hA.out.body
   unfold tmV at h9
   exact h9)
 have hzz := hid hz.defs
 have hmx : defs.length <= 9223372036854775807 := Nat.le_trans hA.out.defs.cap hA.out.defs.max
 obtain ⟨N, hN⟩ : ∃ N, defs.length = N := ⟨_, rfl⟩
 obtain ⟨M, hM⟩ : ∃ M, body.size = M := ⟨_, rfl⟩
 rw [hN] at hx0 hW1 hxx hmx ⊢
 rw [hM] at ks hs ⊢
 replace hN := hid hN
 clear hM hz hsum
 have x0 := qaa _ _ 0 _ _ _ hx0
 have x1 := qaa _ _ 1 _ _ _ hx0
 have x2 := qaa _ _ 2 _ _ _ hx0
 have x3 := qaa _ _ 3 _ _ _ hx0
 have x4 := qaa _ _ 4 _ _ _ hx0
 have x5 := qaa _ _ 5 _ _ _ hx0
 have x6 := qaa _ _ 6 _ _ _ hx0
 clear hx0
 replace hb0 := hid hb0
 replace hs := hid hs
 go_enter Tryz.func19, Tryz.ntmps19
 go_wp2_with fail
 refine ks.out.mono ?_
 rintro e w2 ⟨rfl, hb2⟩
 replace hW1 := hid hW1
 have hB2 := hid (hb0.out.trans (hb2.mono hb0.out.size))
 have hA2 : Hid (Defs w2 F f defs) := (hA.out.later hb2).defs
 clear ks x0 x1 x2 x3 x4 x5 x6
 have hx1 := (hb2.block _ (World.lt_of_get hxx.out)).trans hxx.out
 have x0 := qaa _ _ 0 _ _ _ hx1
 have x1 := qaa _ _ 1 _ _ _ hx1
 have x2 := qaa _ _ 2 _ _ _ hx1
 have x3 := qaa _ _ 3 _ _ _ hx1
 have x4 := qaa _ _ 4 _ _ _ hx1
 have x5 := qaa _ _ 5 _ _ _ hx1
 have x6 := qaa _ _ 6 _ _ _ hx1
 clear hx1 hb2
 have hMs : M <= 1099511627776 := by have := hs.out; omega
 go_wp2_with fail
 clear x0 x1 x2 x3 x4 x5 x6
 go_loopw [12, 3] (fun i c wr => ∃ k : Nat, k <= N /\ i = .int .i64 k /\ c = .int .i64 ((M + qaJ (defs.take k) : Nat) : Int) /\ Hid (Below w2.heap.size w2 wr)) (fun i _ _ => N - (intOf i).toNat)
 case atStart => exact ⟨0, Nat.zero_le _, rfl, by simp [qaJ], Below.refl _ _⟩
 case round =>
   obtain ⟨k, hk, rfl, rfl, hB⟩ := hrel
   by_cases hlt : k < N
   . have hlk : k < defs.length := by have := hN.out; omega
     obtain ⟨bb, off, rfl, hbb, hc⟩ := (hA2.out.later hB.out).at_ (by intro e; rw [e] at hlk; simp at hlk)
     obtain ⟨c0, hnode⟩ := hc k hlk
     clear hc
     have htk := qlg hlk
     have hle := qpC defs (k + 1)
     have hzk := hzz.out _ (qbu (d := f0) hlk)
     obtain ⟨q, hq⟩ : ∃ q, defs.getD k f0 = q := ⟨_, rfl⟩
     rw [hq] at c0 hnode htk hzk
     obtain ⟨p0, pt⟩ := q
     dsimp only at c0 hnode htk hzk
     obtain ⟨TA, tc, hh, hTT⟩ := qaG hnode
     have c1 := hh.kind
     have c2 := hh.name
     have c3 := hh.num
     have c4 := hh.kids
     have hy0 := World.alloc_heap_new wr (.cells #[.string p0, .int .i64 pt.kind, .string pt.name, .int .i64 pt.num, .slice TA pt.kids.length tc] 60)
     have hb3 := X.qab wr (.cells #[.string p0, .int .i64 pt.kind, .string pt.name, .int .i64 pt.num, .slice TA pt.kids.length tc] 60)
     obtain ⟨W3, hW3⟩ : ∃ W, wr.alloc (.cells #[.string p0, .int .i64 pt.kind, .string pt.name, .int .i64 pt.num, .slice TA pt.kids.length tc] 60) = W := ⟨_, rfl⟩
     rw [hW3] at hy0 hb3
     have kd := hid (show Calls Tryz.prog 23 #[.agg #[.int .i64 pt.kind, .string pt.name, .int .i64 pt.num, .slice TA pt.kids.length tc]] W3 fun e w' => e = .returned (.int .i64 pt.size) /\ Below W3.heap.size W3 w' from by
       have h9 := qlq pt TA tc W3 hzk (hTT.later hb3)
       unfold tmV at h9
       exact h9)
     have hB3 := hid (hB.out.trans (hb3.mono hB.out.size))
     have y0 := qaa _ _ 0 _ _ _ hy0
     have y1 := qaa _ _ 1 _ _ _ hy0
     have y2 := qaa _ _ 2 _ _ _ hy0
     have y3 := qaa _ _ 3 _ _ _ hy0
     have y4 := qaa _ _ 4 _ _ _ hy0
     clear hy0 hb3 hh hTT hnode hq
     obtain ⟨s0, hs0⟩ : ∃ s, M + qaJ (defs.take k) = s := ⟨_, rfl⟩
     obtain ⟨m0, hm0⟩ : ∃ s, pt.size = s := ⟨_, rfl⟩
     rw [hs0]
     rw [hm0] at kd hzk
     have hnext : Hid (M + qaJ (defs.take (k + 1)) = s0 + m0) := by show _ = _; omega
     have hsm : s0 + m0 <= 1099511627776 := by have := hs.out; omega
     clear hs0 hm0 htk hle
     go_wp2_with fail
     refine kd.out.mono ?_
     rintro e w9 ⟨rfl, hb8⟩
     replace hW3 := hid hW3
     have hend := hid (hB3.out.trans (hb8.mono hB3.out.size))
     clear hb8 kd
     go_wp2_with fail
     go_roundw
     case rel => exact ⟨k + 1, by omega, by go_num, by rw [hnext.out]; go_num, hend⟩
     case measure => simp [intOf]; omega
   . obtain rfl : k = N := by omega
     have hfin : Hid (qaJ (defs.take k) = qaJ defs) := by
       show _ = _
       rw [List.take_of_length_le (by rw [hN.out]; exact Nat.le_refl _)]
     rw [hfin.out]
     have hend := hid (hB2.out.trans (hB.out.mono hB2.out.size))
     clear hfin
     go_wp2_with fail
     go_ret
     exact ⟨rfl, hend.out⟩
end Go.Proofs.YtjnfhebbphdchaaGreatDoor.Pg
namespace Go.Proofs.YtjnfhebbphdchaaGreatDoor.Pg
open Go.RowKit Go.Shelf Go.Tm Go.Lx Go.Maps Go.Proofs.YtjnfhebbphdchaaGreatDoor.Pa
structure PB where
 v : PV
 at_ : Nat
structure PB.At (W : World) (y : PB) : Prop where
 ok : ProgAt W y.v
 box : W.heap[y.at_]? = some (.cells #[.slice y.v.I y.v.p.ins.length y.v.i, .slice y.v.C y.v.p.cells.length y.v.c, .slice y.v.F y.v.p.defs.length y.v.f, .int .i64 y.v.p.body.kind, .string y.v.p.body.name, .int .i64 y.v.p.body.num, .slice y.v.B y.v.p.body.kids.length y.v.b] 28 (0, 0))
theorem PB.At.later {W W' : World} {y : PB} (h : y.At W) (hb : Below W.heap.size W W') : y.At W' := ⟨h.ok.later hb, (hb.block _ (World.lt_of_get h.box)).trans h.box⟩
structure Bp (w : World) (l : List PB) (W : World) : Prop where
 below : Below w.heap.size w W
 env : EnvP W
 at_ : ∀ y ∈ l, y.At W
theorem Bp.later {w W W' : World} {l : List PB} (h : Bp w l W) (hb : Below W.heap.size W W') : Bp w l W' := ⟨h.below.trans (hb.mono h.below.size), h.env.later hb, fun y hy => (h.at_ y hy).later hb⟩
theorem Bp.new {w : World} (h : EnvP w) : Bp w [] w := ⟨Below.refl _ _, h, fun _ hy => by cases hy⟩
theorem Bp.add {w W : World} {l : List PB} (h : Bp w l W) (x : PV) (hx : ProgAt W x) : Bp w (⟨x, W.heap.size⟩ :: l) (W.alloc (.cells #[.slice x.I x.p.ins.length x.i, .slice x.C x.p.cells.length x.c, .slice x.F x.p.defs.length x.f, .int .i64 x.p.body.kind, .string x.p.body.name, .int .i64 x.p.body.num, .slice x.B x.p.body.kids.length x.b] 28)) := by
 have h1 := h.later (X.qab W (.cells #[.slice x.I x.p.ins.length x.i, .slice x.C x.p.cells.length x.c, .slice x.F x.p.defs.length x.f, .int .i64 x.p.body.kind, .string x.p.body.name, .int .i64 x.p.body.num, .slice x.B x.p.body.kids.length x.b] 28))
 exact ⟨h1.below, h1.env, fun y hy => by
   rcases List.mem_cons.1 hy with rfl | hy
   . exact ⟨hx.later (X.qab _ _), World.alloc_heap_new _ _⟩
   . exact h1.at_ y hy⟩
theorem qeY {s : ByteArray} {q : P} (h : qaZ s = .inl q) (w : World) (hE : EnvP w) (hm : s.size <= 9223372036854775807) :
   Calls Tryz.prog 11 #[.string s] w fun e w' => ∃ I i C c F f B b, e = .returned (.tuple #[.agg #[.slice I q.ins.length i, .slice C q.cells.length c, .slice F q.defs.length f, .int .i64 q.body.kind, .string q.body.name, .int .i64 q.body.num, .slice B q.body.kids.length b], .int .i64 0]) /\ Below w.heap.size w w' /\ ProgAt w' ⟨q, I, i, C, c, F, f, B, b⟩ :=
 (qhb s w hE hm).mono fun e w' ⟨hb, ho⟩ => by
   rw [h] at ho
   obtain ⟨x, rfl, hx, he⟩ := ho
   obtain ⟨p, I, i, C, c, F, f, B, b⟩ := x
   exact ⟨I, i, C, c, F, f, B, b, he, hb, hx⟩
theorem qda {s : ByteArray} {n : Nat} (h : qaZ s = .inr n) (w : World) (hE : EnvP w) (hm : s.size <= 9223372036854775807) :
   Calls Tryz.prog 11 #[.string s] w fun e w' => e = .returned (.tuple #[.agg #[.slice none 0 0, .slice none 0 0, .slice none 0 0, .int .i64 0, .string ⟨#[]⟩, .int .i64 0, .slice none 0 0], .int .i64 n]) /\ Below w.heap.size w w' :=
 (qhb s w hE hm).mono fun e w' ⟨hb, ho⟩ => by
   rw [h] at ho
   exact ⟨ho, hb⟩
theorem qcD {p : P} (h : Sound p) : Small p /\ sizeP p <= 1099511627776 := by
 have h3 := qiN p.defs (fun d hd => (qbj (h.defs d hd).2.2).2.1)
 have h4 := (qbj h.body).2.1
 have h5 := h.ld
 refine ⟨⟨by omega, fun d hd => ?_⟩, by unfold sizeP; omega⟩
 have := (qbj (h.defs d hd).2.2).2.1
 omega
theorem qrc : Small P0 := ⟨by decide, fun _ h => by cases h⟩
end Go.Proofs.YtjnfhebbphdchaaGreatDoor.Pg
