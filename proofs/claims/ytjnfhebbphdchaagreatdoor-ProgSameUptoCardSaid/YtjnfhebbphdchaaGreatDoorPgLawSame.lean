/-
  ProgSame's walk: true of whatever programs. Conditions: the variables that are read lie as laid; the programs can be read; one's terms are at most 2^22 parts, all of them at most 2^40.
-/
import Derived.Test.YtjnfhebbphdchaaGreatDoorPgEx
import Derived.Test.YtjnfhebbphdchaaGreatDoorShMade
import Derived.BigQuiet
set_option maxHeartbeats 4000000
set_option maxRecDepth 100000
open Go.Lib (hid)
namespace Go.Proofs.YtjnfhebbphdchaaGreatDoor.Pg
open Go.RowKit Go.Shelf Go.Tm Go.Lx Go.Maps Go.Proofs.YtjnfhebbphdchaaGreatDoor.Pa
attribute [local go_sem] Oper.semAt_some
structure BSp (w : World) (l : List PB) where
 W : World
 ok : Bp w l W
theorem qmq {α : Type} (a b : α) : one a b = one b a := by
 rcases h : one b a with _ | _
 . exact qdN (fun e => by rw [e, qbZ] at h; cases h)
 . exact qbY.2 (qbY.1 h).symm
theorem qkh (x y z : PV) (w : World) (hE : EnvP w) (hA : ProgAt w x) (hB : ProgAt w y) (hC : ProgAt w z) (h1 : Small x.p) (h2 : Small y.p) (h3 : sizeP x.p <= 1099511627776) (h4 : sizeP y.p <= 1099511627776) :
   Calls Tryz.prog 6 #[.agg #[.slice x.I x.p.ins.length x.i, .slice x.C x.p.cells.length x.c, .slice x.F x.p.defs.length x.f, .int .i64 x.p.body.kind, .string x.p.body.name, .int .i64 x.p.body.num, .slice x.B x.p.body.kids.length x.b], .agg #[.slice y.I y.p.ins.length y.i, .slice y.C y.p.cells.length y.c, .slice y.F y.p.defs.length y.f, .int .i64 y.p.body.kind, .string y.p.body.name, .int .i64 y.p.body.num, .slice y.B y.p.body.kids.length y.b], .agg #[.slice z.I z.p.ins.length z.i, .slice z.C z.p.cells.length z.c, .slice z.F z.p.defs.length z.f, .int .i64 z.p.body.kind, .string z.p.body.name, .int .i64 z.p.body.num, .slice z.B z.p.body.kids.length z.b]] w fun e w' => e = .returned (.bool true) /\ Below w.heap.size w w' := by
 have hX := (Bp.new hE).add x hA
 have hb1 := X.qab w (.cells #[.slice x.I x.p.ins.length x.i, .slice x.C x.p.cells.length x.c, .slice x.F x.p.defs.length x.f, .int .i64 x.p.body.kind, .string x.p.body.name, .int .i64 x.p.body.num, .slice x.B x.p.body.kids.length x.b] 28)
 obtain ⟨W1, hW1⟩ : ∃ W, w.alloc (.cells #[.slice x.I x.p.ins.length x.i, .slice x.C x.p.cells.length x.c, .slice x.F x.p.defs.length x.f, .int .i64 x.p.body.kind, .string x.p.body.name, .int .i64 x.p.body.num, .slice x.B x.p.body.kids.length x.b] 28) = W := ⟨_, rfl⟩
 rw [hW1] at hX hb1
 replace hX := hX.add y (hB.later hb1)
 have hb2 := hb1.trans ((X.qab W1 (.cells #[.slice y.I y.p.ins.length y.i, .slice y.C y.p.cells.length y.c, .slice y.F y.p.defs.length y.f, .int .i64 y.p.body.kind, .string y.p.body.name, .int .i64 y.p.body.num, .slice y.B y.p.body.kids.length y.b] 28)).mono hb1.size)
 obtain ⟨W2, hW2⟩ : ∃ W, W1.alloc (.cells #[.slice y.I y.p.ins.length y.i, .slice y.C y.p.cells.length y.c, .slice y.F y.p.defs.length y.f, .int .i64 y.p.body.kind, .string y.p.body.name, .int .i64 y.p.body.num, .slice y.B y.p.body.kids.length y.b] 28) = W := ⟨_, rfl⟩
 rw [hW2] at hX hb2
 replace hX := hX.add z (hC.later hb2)
 obtain ⟨W3, hW3⟩ : ∃ W, W2.alloc (.cells #[.slice z.I z.p.ins.length z.i, .slice z.C z.p.cells.length z.c, .slice z.F z.p.defs.length z.f, .int .i64 z.p.body.kind, .string z.p.body.name, .int .i64 z.p.body.num, .slice z.B z.p.body.kids.length z.b] 28) = W := ⟨_, rfl⟩
 rw [hW3] at hX
 obtain ⟨l, hl⟩ : ∃ l, [(⟨z, W2.heap.size⟩ : PB), ⟨y, W1.heap.size⟩, ⟨x, w.heap.size⟩] = l := ⟨_, rfl⟩
 have mx : Hid ((⟨x, w.heap.size⟩ : PB) ∈ l) := by show _ ∈ l; rw [<- hl]; exact List.mem_cons_of_mem _ (List.mem_cons_of_mem _ (List.mem_cons_self ..))
 have my : Hid ((⟨y, W1.heap.size⟩ : PB) ∈ l) := by show _ ∈ l; rw [<- hl]; exact List.mem_cons_of_mem _ (List.mem_cons_self ..)
 have mz : Hid ((⟨z, W2.heap.size⟩ : PB) ∈ l) := by show _ ∈ l; rw [<- hl]; exact List.mem_cons_self ..
 rw [hl] at hX
 replace hX := hid hX
 replace h1 := hid h1
 replace h2 := hid h2
 replace h3 := hid h3
 replace h4 := hid h4
 clear hl hE hA hB hC hb1 hb2
 have kS := hid (fun (W : World) (h : Bp w l W) (u v : PV) (b1 b2 : Nat) (hu : (⟨u, b1⟩ : PB) ∈ l) (hv : (⟨v, b2⟩ : PB) ∈ l) (hz : Small u.p) => (qdO u v W (h.at_ _ hu).ok (h.at_ _ hv).ok hz).mono (fun e w' h9 => (show e = .returned (.bool (one u.p v.p)) /\ Bp w l w' from ⟨h9.1, h.later h9.2⟩)))
 have kP0 := hid (fun (S : BSp w l) (u : PV) (b1 : Nat) (hu : (⟨u, b1⟩ : PB) ∈ l) (hz : Small u.p) => (qeb u S.W S.ok.env (S.ok.at_ _ hu).ok hz).mono (fun e w' h9 => (show e = .returned (.string (qbI u.p)) /\ ∃ S' : BSp w l, w' = S'.W from ⟨h9.1, ⟨w', S.ok.later h9.2⟩, rfl⟩)))
 have kR0 := hid (fun (S : BSp w l) (u : PV) (b1 : Nat) (hu : (⟨u, b1⟩ : PB) ∈ l) (hz : Small u.p) => (qby u S.W S.ok.env (S.ok.at_ _ hu).ok hz).mono (fun e w' h9 => (show e = .returned (.bool (qar u.p)) /\ ∃ S' : BSp w l, w' = S'.W from ⟨h9.1, ⟨w', S.ok.later h9.2⟩, rfl⟩)))
 have kN0 := hid (fun (S : BSp w l) (u : PV) (b1 : Nat) (hu : (⟨u, b1⟩ : PB) ∈ l) (hz : Small u.p) (hs : sizeP u.p <= 1099511627776) => (qhs u S.W (S.ok.at_ _ hu).ok hz hs).mono (fun e w' h9 => (show e = .returned (.int .i64 (sizeP u.p)) /\ ∃ S' : BSp w l, w' = S'.W from ⟨h9.1, ⟨w', S.ok.later h9.2⟩, rfl⟩)))
 have kN : Hid (∀ (S : BSp w l) (v : PV) (r : Nat), (v = x /\ r = sizeP x.p) ∨ (v = y /\ r = sizeP y.p) -> Calls Tryz.prog 19 #[.agg #[.slice v.I v.p.ins.length v.i, .slice v.C v.p.cells.length v.c, .slice v.F v.p.defs.length v.f, .int .i64 v.p.body.kind, .string v.p.body.name, .int .i64 v.p.body.num, .slice v.B v.p.body.kids.length v.b]] S.W fun e w' => e = .returned (.int .i64 r) /\ ∃ S' : BSp w l, w' = S'.W) := fun S v r hv => by
   rcases hv with ⟨rfl, rfl⟩ | ⟨rfl, rfl⟩
   . exact kN0.out S _ _ mx.out h1.out h3.out
   . exact kN0.out S _ _ my.out h2.out h4.out
 have kP : Hid (∀ (S : BSp w l) (v : PV) (r : ByteArray), (v = x /\ r = qbI x.p) ∨ (v = y /\ r = qbI y.p) -> Calls Tryz.prog 21 #[.agg #[.slice v.I v.p.ins.length v.i, .slice v.C v.p.cells.length v.c, .slice v.F v.p.defs.length v.f, .int .i64 v.p.body.kind, .string v.p.body.name, .int .i64 v.p.body.num, .slice v.B v.p.body.kids.length v.b]] S.W fun e w' => e = .returned (.string r) /\ ∃ S' : BSp w l, w' = S'.W) := fun S v r hv => by
   rcases hv with ⟨rfl, rfl⟩ | ⟨rfl, rfl⟩
   . exact kP0.out S _ _ mx.out h1.out
   . exact kP0.out S _ _ my.out h2.out
 have kR : Hid (∀ (S : BSp w l) (v : PV) (r : Bool), (v = x /\ r = qar x.p) ∨ (v = y /\ r = qar y.p) -> Calls Tryz.prog 17 #[.agg #[.slice v.I v.p.ins.length v.i, .slice v.C v.p.cells.length v.c, .slice v.F v.p.defs.length v.f, .int .i64 v.p.body.kind, .string v.p.body.name, .int .i64 v.p.body.num, .slice v.B v.p.body.kids.length v.b]] S.W fun e w' => e = .returned (.bool r) /\ ∃ S' : BSp w l, w' = S'.W) := fun S v r hv => by
   rcases hv with ⟨rfl, rfl⟩ | ⟨rfl, rfl⟩
   . exact kR0.out S _ _ mx.out h1.out
   . exact kR0.out S _ _ my.out h2.out
 clear kP0 kR0 kN0
 have hF : Hid (∀ S : BSp w l, S.W.cell? ⟨w.heap.size, 0, none⟩ = some (.slice x.I x.p.ins.length x.i) /\ S.W.cell? ⟨w.heap.size, 1, none⟩ = some (.slice x.C x.p.cells.length x.c) /\ S.W.cell? ⟨w.heap.size, 2, none⟩ = some (.slice x.F x.p.defs.length x.f) /\ S.W.cell? ⟨w.heap.size, 3, none⟩ = some (.int .i64 x.p.body.kind) /\ S.W.cell? ⟨w.heap.size, 4, none⟩ = some (.string x.p.body.name) /\ S.W.cell? ⟨w.heap.size, 5, none⟩ = some (.int .i64 x.p.body.num) /\ S.W.cell? ⟨w.heap.size, 6, none⟩ = some (.slice x.B x.p.body.kids.length x.b) /\ S.W.cell? ⟨W1.heap.size, 0, none⟩ = some (.slice y.I y.p.ins.length y.i) /\ S.W.cell? ⟨W1.heap.size, 1, none⟩ = some (.slice y.C y.p.cells.length y.c) /\ S.W.cell? ⟨W1.heap.size, 2, none⟩ = some (.slice y.F y.p.defs.length y.f) /\ S.W.cell? ⟨W1.heap.size, 3, none⟩ = some (.int .i64 y.p.body.kind) /\ S.W.cell? ⟨W1.heap.size, 4, none⟩ = some (.string y.p.body.name) /\ S.W.cell? ⟨W1.heap.size, 5, none⟩ = some (.int .i64 y.p.body.num) /\ S.W.cell? ⟨W1.heap.size, 6, none⟩ = some (.slice y.B y.p.body.kids.length y.b)) := fun S => ⟨qaa S.W w.heap.size 0 _ _ _ (S.ok.at_ _ mx.out).box, qaa S.W w.heap.size 1 _ _ _ (S.ok.at_ _ mx.out).box, qaa S.W w.heap.size 2 _ _ _ (S.ok.at_ _ mx.out).box, qaa S.W w.heap.size 3 _ _ _ (S.ok.at_ _ mx.out).box, qaa S.W w.heap.size 4 _ _ _ (S.ok.at_ _ mx.out).box, qaa S.W w.heap.size 5 _ _ _ (S.ok.at_ _ mx.out).box, qaa S.W w.heap.size 6 _ _ _ (S.ok.at_ _ mx.out).box, qaa S.W W1.heap.size 0 _ _ _ (S.ok.at_ _ my.out).box, qaa S.W W1.heap.size 1 _ _ _ (S.ok.at_ _ my.out).box, qaa S.W W1.heap.size 2 _ _ _ (S.ok.at_ _ my.out).box, qaa S.W W1.heap.size 3 _ _ _ (S.ok.at_ _ my.out).box, qaa S.W W1.heap.size 4 _ _ _ (S.ok.at_ _ my.out).box, qaa S.W W1.heap.size 5 _ _ _ (S.ok.at_ _ my.out).box, qaa S.W W1.heap.size 6 _ _ _ (S.ok.at_ _ my.out).box⟩
 have hpo : Hid (qar x.p = true -> qar y.p = true -> qbI x.p = qbI y.p -> x.p = y.p) := fun a b c => qpc a b c
 obtain ⟨nx, hnx⟩ : ∃ n, sizeP x.p = n := ⟨_, rfl⟩
 obtain ⟨ny, hny⟩ : ∃ n, sizeP y.p = n := ⟨_, rfl⟩
 obtain ⟨sx, hsx⟩ : ∃ n, qbI x.p = n := ⟨_, rfl⟩
 obtain ⟨sy, hsy⟩ : ∃ n, qbI y.p = n := ⟨_, rfl⟩
 obtain ⟨rx, hrx⟩ : ∃ n, qar x.p = n := ⟨_, rfl⟩
 obtain ⟨ry, hry⟩ : ∃ n, qar y.p = n := ⟨_, rfl⟩
 rw [hnx, hny] at kN
 rw [hsx, hsy] at kP hpo
 rw [hrx, hry] at kR hpo
 rw [hnx] at h3
 rw [hny] at h4
 have hal : Hid (x.p = y.p -> nx = ny /\ sx = sy /\ rx = ry) := fun e => by rw [<- hnx, <- hny, <- hsx, <- hsy, <- hrx, <- hry, e]; exact ⟨rfl, rfl, rfl⟩
 clear hnx hny hsx hsy hrx hry
 go_enter Tryz.func6, Tryz.ntmps6
 go_wp2_with fail
 replace hW1 := hid hW1
 replace hW2 := hid hW2
 replace hW3 := hid hW3
 refine (qcb _ hX.out.env).mono ?_
 rintro e w1 ⟨rfl, hb⟩
 replace hX := hid (hX.out.later hb)
 clear hb
 rcases hs : one x.p y.p with _ | _
 . have x0 := qaa w1 w.heap.size 0 _ _ _ (hX.out.at_ _ mx.out).box
   have x1 := qaa w1 w.heap.size 1 _ _ _ (hX.out.at_ _ mx.out).box
   have x2 := qaa w1 w.heap.size 2 _ _ _ (hX.out.at_ _ mx.out).box
   have x3 := qaa w1 w.heap.size 3 _ _ _ (hX.out.at_ _ mx.out).box
   have x4 := qaa w1 w.heap.size 4 _ _ _ (hX.out.at_ _ mx.out).box
   have x5 := qaa w1 w.heap.size 5 _ _ _ (hX.out.at_ _ mx.out).box
   have x6 := qaa w1 w.heap.size 6 _ _ _ (hX.out.at_ _ mx.out).box
   have y0 := qaa w1 W1.heap.size 0 _ _ _ (hX.out.at_ _ my.out).box
   have y1 := qaa w1 W1.heap.size 1 _ _ _ (hX.out.at_ _ my.out).box
   have y2 := qaa w1 W1.heap.size 2 _ _ _ (hX.out.at_ _ my.out).box
   have y3 := qaa w1 W1.heap.size 3 _ _ _ (hX.out.at_ _ my.out).box
   have y4 := qaa w1 W1.heap.size 4 _ _ _ (hX.out.at_ _ my.out).box
   have y5 := qaa w1 W1.heap.size 5 _ _ _ (hX.out.at_ _ my.out).box
   have y6 := qaa w1 W1.heap.size 6 _ _ _ (hX.out.at_ _ my.out).box
   have k := kS.out w1 hX.out x y _ _ mx.out my.out h1.out
   rw [hs] at k
   replace k := hid k
   go_wp2_with fail
   refine k.out.mono ?_
   rintro e w2 ⟨rfl, hX⟩
   replace hX := hid hX
   clear k
   clear x0 x1 x2 x3 x4 x5 x6 y0 y1 y2 y3 y4 y5 y6
   have x0 := qaa w2 w.heap.size 0 _ _ _ (hX.out.at_ _ mx.out).box
   have x1 := qaa w2 w.heap.size 1 _ _ _ (hX.out.at_ _ mx.out).box
   have x2 := qaa w2 w.heap.size 2 _ _ _ (hX.out.at_ _ mx.out).box
   have x3 := qaa w2 w.heap.size 3 _ _ _ (hX.out.at_ _ mx.out).box
   have x4 := qaa w2 w.heap.size 4 _ _ _ (hX.out.at_ _ mx.out).box
   have x5 := qaa w2 w.heap.size 5 _ _ _ (hX.out.at_ _ mx.out).box
   have x6 := qaa w2 w.heap.size 6 _ _ _ (hX.out.at_ _ mx.out).box
   have k := kS.out w2 hX.out x x _ _ mx.out mx.out h1.out
   rw [qbZ] at k
   replace k := hid k
   go_wp2_with fail
   refine k.out.mono ?_
   rintro e w3 ⟨rfl, hX⟩
   replace hX := hid hX
   clear k
   clear x0 x1 x2 x3 x4 x5 x6
   have x0 := qaa w3 w.heap.size 0 _ _ _ (hX.out.at_ _ mx.out).box
   have x1 := qaa w3 w.heap.size 1 _ _ _ (hX.out.at_ _ mx.out).box
   have x2 := qaa w3 w.heap.size 2 _ _ _ (hX.out.at_ _ mx.out).box
   have x3 := qaa w3 w.heap.size 3 _ _ _ (hX.out.at_ _ mx.out).box
   have x4 := qaa w3 w.heap.size 4 _ _ _ (hX.out.at_ _ mx.out).box
   have x5 := qaa w3 w.heap.size 5 _ _ _ (hX.out.at_ _ mx.out).box
   have x6 := qaa w3 w.heap.size 6 _ _ _ (hX.out.at_ _ mx.out).box
   have y0 := qaa w3 W1.heap.size 0 _ _ _ (hX.out.at_ _ my.out).box
   have y1 := qaa w3 W1.heap.size 1 _ _ _ (hX.out.at_ _ my.out).box
   have y2 := qaa w3 W1.heap.size 2 _ _ _ (hX.out.at_ _ my.out).box
   have y3 := qaa w3 W1.heap.size 3 _ _ _ (hX.out.at_ _ my.out).box
   have y4 := qaa w3 W1.heap.size 4 _ _ _ (hX.out.at_ _ my.out).box
   have y5 := qaa w3 W1.heap.size 5 _ _ _ (hX.out.at_ _ my.out).box
   have y6 := qaa w3 W1.heap.size 6 _ _ _ (hX.out.at_ _ my.out).box
   have k := kS.out w3 hX.out y x _ _ my.out mx.out h2.out
   rw [qmq, hs] at k
   replace k := hid k
   go_wp2_with fail
   refine k.out.mono ?_
   rintro e w4 ⟨rfl, hX⟩
   replace hX := hid hX
   clear k
   clear x0 x1 x2 x3 x4 x5 x6 y0 y1 y2 y3 y4 y5 y6
   have hpr : Hid (rx = true -> ry = true -> (sx.toList == sy.toList) = false) := fun a b => by
     rw [beq_eq_false_iff_ne]
     intro e
     rw [qbY.2 (hpo.out a b (qeX e))] at hs
     cases hs
   replace hs := hid hs
   clear kS hal hpo
   cases rx <;> cases ry
   all_goals (try have hpr2 := hpr.out rfl rfl)
   all_goals
     clear hpr
     have x0 := fun S => (hF.out S).1
     have x1 := fun S => (hF.out S).2.1
     have x2 := fun S => (hF.out S).2.2.1
     have x3 := fun S => (hF.out S).2.2.2.1
     have x4 := fun S => (hF.out S).2.2.2.2.1
     have x5 := fun S => (hF.out S).2.2.2.2.2.1
     have x6 := fun S => (hF.out S).2.2.2.2.2.2.1
     have y0 := fun S => (hF.out S).2.2.2.2.2.2.2.1
     have y1 := fun S => (hF.out S).2.2.2.2.2.2.2.2.1
     have y2 := fun S => (hF.out S).2.2.2.2.2.2.2.2.2.1
     have y3 := fun S => (hF.out S).2.2.2.2.2.2.2.2.2.2.1
     have y4 := fun S => (hF.out S).2.2.2.2.2.2.2.2.2.2.2.1
     have y5 := fun S => (hF.out S).2.2.2.2.2.2.2.2.2.2.2.2.1
     have y6 := fun S => (hF.out S).2.2.2.2.2.2.2.2.2.2.2.2.2
     haveI : Nonempty (BSp w l) := ⟨⟨_, hX.out⟩⟩
     go_wp2_with fail
     refine qcI (S := BSp w l) (fun s => s.W) (by kernel_rfl) (by kernel_rfl) ⟨⟨_, hX.out.later (Below.refl _ _).drew⟩, rfl⟩ ?_
     repeat (go_big_quiet_step (first
       | (go_at_call 19; exact kN.out _ _ _ (by first | exact .inl ⟨rfl, rfl⟩ | exact .inr ⟨rfl, rfl⟩))
       | (go_at_call 21; exact kP.out _ _ _ (by first | exact .inl ⟨rfl, rfl⟩ | exact .inr ⟨rfl, rfl⟩))
       | (go_at_call 17; exact kR.out _ _ _ (by first | exact .inl ⟨rfl, rfl⟩ | exact .inr ⟨rfl, rfl⟩))))
     refine wpQuiet_nil ?_
     rintro _ ⟨S, rfl⟩
     clear hX kN kP kR hF
     have hend := hid S.ok.below
     generalize S.W = W9 at hend ⊢
     clear x0 x1 x2 x3 x4 x5 x6 y0 y1 y2 y3 y4 y5 y6
     go_wp2_with fail
     go_ret
     exact ⟨rfl, hend.out⟩
 . have hxy := qbY.1 hs
   obtain ⟨rfl, rfl, rfl⟩ := hal.out hxy
   clear hal hpo
   replace hxy := hid hxy
   have x0 := qaa w1 w.heap.size 0 _ _ _ (hX.out.at_ _ mx.out).box
   have x1 := qaa w1 w.heap.size 1 _ _ _ (hX.out.at_ _ mx.out).box
   have x2 := qaa w1 w.heap.size 2 _ _ _ (hX.out.at_ _ mx.out).box
   have x3 := qaa w1 w.heap.size 3 _ _ _ (hX.out.at_ _ mx.out).box
   have x4 := qaa w1 w.heap.size 4 _ _ _ (hX.out.at_ _ mx.out).box
   have x5 := qaa w1 w.heap.size 5 _ _ _ (hX.out.at_ _ mx.out).box
   have x6 := qaa w1 w.heap.size 6 _ _ _ (hX.out.at_ _ mx.out).box
   have y0 := qaa w1 W1.heap.size 0 _ _ _ (hX.out.at_ _ my.out).box
   have y1 := qaa w1 W1.heap.size 1 _ _ _ (hX.out.at_ _ my.out).box
   have y2 := qaa w1 W1.heap.size 2 _ _ _ (hX.out.at_ _ my.out).box
   have y3 := qaa w1 W1.heap.size 3 _ _ _ (hX.out.at_ _ my.out).box
   have y4 := qaa w1 W1.heap.size 4 _ _ _ (hX.out.at_ _ my.out).box
   have y5 := qaa w1 W1.heap.size 5 _ _ _ (hX.out.at_ _ my.out).box
   have y6 := qaa w1 W1.heap.size 6 _ _ _ (hX.out.at_ _ my.out).box
   have k := kS.out w1 hX.out x y _ _ mx.out my.out h1.out
   rw [hs] at k
   replace k := hid k
   go_wp2_with fail
   refine k.out.mono ?_
   rintro e w2 ⟨rfl, hX⟩
   replace hX := hid hX
   clear k
   clear x0 x1 x2 x3 x4 x5 x6 y0 y1 y2 y3 y4 y5 y6
   have x0 := qaa w2 w.heap.size 0 _ _ _ (hX.out.at_ _ mx.out).box
   have x1 := qaa w2 w.heap.size 1 _ _ _ (hX.out.at_ _ mx.out).box
   have x2 := qaa w2 w.heap.size 2 _ _ _ (hX.out.at_ _ mx.out).box
   have x3 := qaa w2 w.heap.size 3 _ _ _ (hX.out.at_ _ mx.out).box
   have x4 := qaa w2 w.heap.size 4 _ _ _ (hX.out.at_ _ mx.out).box
   have x5 := qaa w2 w.heap.size 5 _ _ _ (hX.out.at_ _ mx.out).box
   have x6 := qaa w2 w.heap.size 6 _ _ _ (hX.out.at_ _ mx.out).box
   have k := kS.out w2 hX.out x x _ _ mx.out mx.out h1.out
   rw [qbZ] at k
   replace k := hid k
   go_wp2_with fail
   refine k.out.mono ?_
   rintro e w3 ⟨rfl, hX⟩
   replace hX := hid hX
   clear k
   clear x0 x1 x2 x3 x4 x5 x6
   have x0 := qaa w3 w.heap.size 0 _ _ _ (hX.out.at_ _ mx.out).box
   have x1 := qaa w3 w.heap.size 1 _ _ _ (hX.out.at_ _ mx.out).box
   have x2 := qaa w3 w.heap.size 2 _ _ _ (hX.out.at_ _ mx.out).box
   have x3 := qaa w3 w.heap.size 3 _ _ _ (hX.out.at_ _ mx.out).box
   have x4 := qaa w3 w.heap.size 4 _ _ _ (hX.out.at_ _ mx.out).box
   have x5 := qaa w3 w.heap.size 5 _ _ _ (hX.out.at_ _ mx.out).box
   have x6 := qaa w3 w.heap.size 6 _ _ _ (hX.out.at_ _ mx.out).box
   have y0 := qaa w3 W1.heap.size 0 _ _ _ (hX.out.at_ _ my.out).box
   have y1 := qaa w3 W1.heap.size 1 _ _ _ (hX.out.at_ _ my.out).box
   have y2 := qaa w3 W1.heap.size 2 _ _ _ (hX.out.at_ _ my.out).box
   have y3 := qaa w3 W1.heap.size 3 _ _ _ (hX.out.at_ _ my.out).box
   have y4 := qaa w3 W1.heap.size 4 _ _ _ (hX.out.at_ _ my.out).box
   have y5 := qaa w3 W1.heap.size 5 _ _ _ (hX.out.at_ _ my.out).box
   have y6 := qaa w3 W1.heap.size 6 _ _ _ (hX.out.at_ _ my.out).box
   have k := kS.out w3 hX.out y x _ _ my.out mx.out h2.out
   rw [qmq, hs] at k
   replace k := hid k
   go_wp2_with fail
   refine k.out.mono ?_
   rintro e w4 ⟨rfl, hX⟩
   replace hX := hid hX
   clear k
   clear x0 x1 x2 x3 x4 x5 x6 y0 y1 y2 y3 y4 y5 y6
   obtain ⟨u, hu⟩ : ∃ u, one y.p z.p = u := ⟨_, rfl⟩
   replace hs := hid hs
   have y0 := qaa w4 W1.heap.size 0 _ _ _ (hX.out.at_ _ my.out).box
   have y1 := qaa w4 W1.heap.size 1 _ _ _ (hX.out.at_ _ my.out).box
   have y2 := qaa w4 W1.heap.size 2 _ _ _ (hX.out.at_ _ my.out).box
   have y3 := qaa w4 W1.heap.size 3 _ _ _ (hX.out.at_ _ my.out).box
   have y4 := qaa w4 W1.heap.size 4 _ _ _ (hX.out.at_ _ my.out).box
   have y5 := qaa w4 W1.heap.size 5 _ _ _ (hX.out.at_ _ my.out).box
   have y6 := qaa w4 W1.heap.size 6 _ _ _ (hX.out.at_ _ my.out).box
   have z0 := qaa w4 W2.heap.size 0 _ _ _ (hX.out.at_ _ mz.out).box
   have z1 := qaa w4 W2.heap.size 1 _ _ _ (hX.out.at_ _ mz.out).box
   have z2 := qaa w4 W2.heap.size 2 _ _ _ (hX.out.at_ _ mz.out).box
   have z3 := qaa w4 W2.heap.size 3 _ _ _ (hX.out.at_ _ mz.out).box
   have z4 := qaa w4 W2.heap.size 4 _ _ _ (hX.out.at_ _ mz.out).box
   have z5 := qaa w4 W2.heap.size 5 _ _ _ (hX.out.at_ _ mz.out).box
   have z6 := qaa w4 W2.heap.size 6 _ _ _ (hX.out.at_ _ mz.out).box
   have k := kS.out w4 hX.out y z _ _ my.out mz.out h2.out
   rw [hu] at k
   replace k := hid k
   go_wp2_with fail
   refine k.out.mono ?_
   rintro e w5 ⟨rfl, hX⟩
   replace hX := hid hX
   clear k
   clear y0 y1 y2 y3 y4 y5 y6 z0 z1 z2 z3 z4 z5 z6
   cases u
   case' true =>
     have hxz : Hid (one x.p z.p = true) := by show _ = true; rw [hxy.out]; exact hu
     clear hu
     have x0 := qaa w5 w.heap.size 0 _ _ _ (hX.out.at_ _ mx.out).box
     have x1 := qaa w5 w.heap.size 1 _ _ _ (hX.out.at_ _ mx.out).box
     have x2 := qaa w5 w.heap.size 2 _ _ _ (hX.out.at_ _ mx.out).box
     have x3 := qaa w5 w.heap.size 3 _ _ _ (hX.out.at_ _ mx.out).box
     have x4 := qaa w5 w.heap.size 4 _ _ _ (hX.out.at_ _ mx.out).box
     have x5 := qaa w5 w.heap.size 5 _ _ _ (hX.out.at_ _ mx.out).box
     have x6 := qaa w5 w.heap.size 6 _ _ _ (hX.out.at_ _ mx.out).box
     have z0 := qaa w5 W2.heap.size 0 _ _ _ (hX.out.at_ _ mz.out).box
     have z1 := qaa w5 W2.heap.size 1 _ _ _ (hX.out.at_ _ mz.out).box
     have z2 := qaa w5 W2.heap.size 2 _ _ _ (hX.out.at_ _ mz.out).box
     have z3 := qaa w5 W2.heap.size 3 _ _ _ (hX.out.at_ _ mz.out).box
     have z4 := qaa w5 W2.heap.size 4 _ _ _ (hX.out.at_ _ mz.out).box
     have z5 := qaa w5 W2.heap.size 5 _ _ _ (hX.out.at_ _ mz.out).box
     have z6 := qaa w5 W2.heap.size 6 _ _ _ (hX.out.at_ _ mz.out).box
     have k := kS.out w5 hX.out x z _ _ mx.out mz.out h1.out
     rw [hxz.out] at k
     replace k := hid k
     go_wp2_with fail
     refine k.out.mono ?_
     rintro e w6 ⟨rfl, hX⟩
     replace hX := hid hX
     clear k
     clear x0 x1 x2 x3 x4 x5 x6 z0 z1 z2 z3 z4 z5 z6
   all_goals clear kS
   all_goals
     cases rx
     all_goals
       have x0 := fun S => (hF.out S).1
       have x1 := fun S => (hF.out S).2.1
       have x2 := fun S => (hF.out S).2.2.1
       have x3 := fun S => (hF.out S).2.2.2.1
       have x4 := fun S => (hF.out S).2.2.2.2.1
       have x5 := fun S => (hF.out S).2.2.2.2.2.1
       have x6 := fun S => (hF.out S).2.2.2.2.2.2.1
       have y0 := fun S => (hF.out S).2.2.2.2.2.2.2.1
       have y1 := fun S => (hF.out S).2.2.2.2.2.2.2.2.1
       have y2 := fun S => (hF.out S).2.2.2.2.2.2.2.2.2.1
       have y3 := fun S => (hF.out S).2.2.2.2.2.2.2.2.2.2.1
       have y4 := fun S => (hF.out S).2.2.2.2.2.2.2.2.2.2.2.1
       have y5 := fun S => (hF.out S).2.2.2.2.2.2.2.2.2.2.2.2.1
       have y6 := fun S => (hF.out S).2.2.2.2.2.2.2.2.2.2.2.2.2
       haveI : Nonempty (BSp w l) := ⟨⟨_, hX.out⟩⟩
       go_wp2_with fail
       refine qcI (S := BSp w l) (fun s => s.W) (by kernel_rfl) (by kernel_rfl) ⟨⟨_, hX.out.later (Below.refl _ _).drew⟩, rfl⟩ ?_
       repeat (go_big_quiet_step (first
         | (go_at_call 19; exact kN.out _ _ _ (by first | exact .inl ⟨rfl, rfl⟩ | exact .inr ⟨rfl, rfl⟩))
         | (go_at_call 21; exact kP.out _ _ _ (by first | exact .inl ⟨rfl, rfl⟩ | exact .inr ⟨rfl, rfl⟩))
         | (go_at_call 17; exact kR.out _ _ _ (by first | exact .inl ⟨rfl, rfl⟩ | exact .inr ⟨rfl, rfl⟩))))
       refine wpQuiet_nil ?_
       rintro _ ⟨S, rfl⟩
       clear hX kN kP kR hF
       have hend := hid S.ok.below
       generalize S.W = W9 at hend ⊢
       clear x0 x1 x2 x3 x4 x5 x6 y0 y1 y2 y3 y4 y5 y6
       go_wp2_with fail
       go_ret
       exact ⟨rfl, hend.out⟩
end Go.Proofs.YtjnfhebbphdchaaGreatDoor.Pg
