/-
  ProgRight's walk: true of whatever text. Conditions: the variables that are read lie as laid; what comes in can be read.
-/
import Derived.Test.YticjidkomfnihaaGreatDoorPgEx
import Derived.Deep.RegionHeld3
set_option maxHeartbeats 4000000
set_option maxRecDepth 100000
namespace Go.Proofs.YticjidkomfnihaaGreatDoor.Pg
open Go.RowKit Go.Shelf Go.Tm Go.Lx Go.Maps Go.Proofs.YticjidkomfnihaaGreatDoor.Pa
attribute [local go_sem] Oper.semAt_some
theorem size_cutP (s : ByteArray) : (s.extract 0 (min (s.size : Int) 3000).toNat).size <= 3000 := by
 rw [ByteArray.size_extract]; omega
theorem print_small {q : P} (h : rightP q = true) : (printP q).size <= 65536 := by
 rw [print_right h, strOf_size]
 exact (rightP_iff.1 h).2
theorem progRight_any (s : ByteArray) (w : World) (hE : EnvP w) (hs : s.size <= 140737488355328) :
   Calls Tryz.prog 5 #[.string s] w fun e w' => e = .returned (.bool true) /\ Below w.heap.size w w' := by
 have hX := Lib.hid (Bp.new hE)
 clear hE
 go_enter Tryz.func5, Tryz.ntmps5
 go_wp2_with fail
 refine (examplesG_any _ hX.out.env).mono ?_
 rintro e w1 ⟨rfl, hb⟩
 replace hX := Lib.hid (hX.out.later hb)
 clear hb
 go_wp2_with fail
 have hcut := size_cutP s
 obtain ⟨x, hx⟩ : ∃ x, s.extract 0 (min (s.size : Int) 3000).toNat = x := ⟨_, rfl⟩
 rw [hx] at hcut ⊢
 replace hx := Lib.hid hx
 rcases hp : parseT x with q | n
 . have hR := parse_right hp hcut
   refine (parse_okP hp w1 hX.out.env (by omega)).mono ?_
   rintro e w2 ⟨I, i, C, c, F, f, B, b, rfl, hb, hA⟩
   have hS := (right_small (rightP_iff.1 hR).1).1
   have hps := print_small hR
   have hbk := right_back hR
   replace hX := Lib.hid ((hX.out.later hb).add _ hA)
   dsimp only at hX
   obtain ⟨V1, hV1⟩ : ∃ W, w2.alloc (.cells #[.slice I q.ins.length i, .slice C q.cells.length c, .slice F q.defs.length f, .int .i64 q.body.kind, .string q.body.name, .int .i64 q.body.num, .slice B q.body.kids.length b] 28) = W := ⟨_, rfl⟩
   replace hX : Hid (Bp w [⟨⟨q, I, i, C, c, F, f, B, b⟩, w2.heap.size⟩] V1) := by rw [<- hV1]; exact hX
   clear hb hA hp hcut
   have ap : PB.At V1 ⟨⟨q, I, i, C, c, F, f, B, b⟩, w2.heap.size⟩ := hX.out.at_ _ (by simp)
   have zp : V1.heap[w2.heap.size]? = some (.cells #[.slice I q.ins.length i, .slice C q.cells.length c, .slice F q.defs.length f, .int .i64 q.body.kind, .string q.body.name, .int .i64 q.body.num, .slice B q.body.kids.length b] 28 (0, 0)) := ap.box
   have p0 := cell_of_row _ _ 0 _ _ _ zp
   have p1 := cell_of_row _ _ 1 _ _ _ zp
   have p2 := cell_of_row _ _ 2 _ _ _ zp
   have p3 := cell_of_row _ _ 3 _ _ _ zp
   have p4 := cell_of_row _ _ 4 _ _ _ zp
   have p5 := cell_of_row _ _ 5 _ _ _ zp
   have p6 := cell_of_row _ _ 6 _ _ _ zp
   clear zp
   have okp : ProgAt V1 ⟨q, I, i, C, c, F, f, B, b⟩ := ap.ok
   have kp := printW_any ⟨q, I, i, C, c, F, f, B, b⟩ V1 hX.out.env okp hS
   dsimp only at kp
   obtain ⟨S, hSS⟩ : ∃ S, printP q = S := ⟨_, rfl⟩
   rw [hSS] at kp hps hbk
   replace hSS := Lib.hid hSS
   replace kp := Lib.hid kp
   replace hR := Lib.hid hR
   replace hS := Lib.hid hS
   replace hps := Lib.hid hps
   replace hbk := Lib.hid hbk
   clear ap okp
   go_wp2_with fail
   replace hV1 := Lib.hid hV1
   refine kp.out.mono ?_
   rintro e w3 ⟨rfl, hb⟩
   replace hX := Lib.hid (hX.out.later hb)
   clear hb kp p0 p1 p2 p3 p4 p5 p6
   have kq := Lib.hid (parse_okP hbk.out w3 hX.out.env (by have := hps.out; omega))
   go_wp2_with fail
   refine kq.out.mono ?_
   rintro e w4 ⟨I2, i2, C2, c2, F2, f2, B2, b2, rfl, hb, hA⟩
   replace hX := Lib.hid ((hX.out.later hb).add _ hA)
   dsimp only at hX
   obtain ⟨V2, hV2⟩ : ∃ W, w4.alloc (.cells #[.slice I2 q.ins.length i2, .slice C2 q.cells.length c2, .slice F2 q.defs.length f2, .int .i64 q.body.kind, .string q.body.name, .int .i64 q.body.num, .slice B2 q.body.kids.length b2] 28) = W := ⟨_, rfl⟩
   replace hX : Hid (Bp w [⟨⟨q, I2, i2, C2, c2, F2, f2, B2, b2⟩, w4.heap.size⟩, ⟨⟨q, I, i, C, c, F, f, B, b⟩, w2.heap.size⟩] V2) := by rw [<- hV2]; exact hX
   clear hb hA kq
   have apA : PB.At V2 ⟨⟨q, I, i, C, c, F, f, B, b⟩, w2.heap.size⟩ := hX.out.at_ _ (by simp)
   have zp : V2.heap[w2.heap.size]? = some (.cells #[.slice I q.ins.length i, .slice C q.cells.length c, .slice F q.defs.length f, .int .i64 q.body.kind, .string q.body.name, .int .i64 q.body.num, .slice B q.body.kids.length b] 28 (0, 0)) := apA.box
   have p0 := cell_of_row _ _ 0 _ _ _ zp
   have p1 := cell_of_row _ _ 1 _ _ _ zp
   have p2 := cell_of_row _ _ 2 _ _ _ zp
   have p3 := cell_of_row _ _ 3 _ _ _ zp
   have p4 := cell_of_row _ _ 4 _ _ _ zp
   have p5 := cell_of_row _ _ 5 _ _ _ zp
   have p6 := cell_of_row _ _ 6 _ _ _ zp
   clear zp
   have apB : PB.At V2 ⟨⟨q, I2, i2, C2, c2, F2, f2, B2, b2⟩, w4.heap.size⟩ := hX.out.at_ _ (by simp)
   have zr : V2.heap[w4.heap.size]? = some (.cells #[.slice I2 q.ins.length i2, .slice C2 q.cells.length c2, .slice F2 q.defs.length f2, .int .i64 q.body.kind, .string q.body.name, .int .i64 q.body.num, .slice B2 q.body.kids.length b2] 28 (0, 0)) := apB.box
   have r0 := cell_of_row _ _ 0 _ _ _ zr
   have r1 := cell_of_row _ _ 1 _ _ _ zr
   have r2 := cell_of_row _ _ 2 _ _ _ zr
   have r3 := cell_of_row _ _ 3 _ _ _ zr
   have r4 := cell_of_row _ _ 4 _ _ _ zr
   have r5 := cell_of_row _ _ 5 _ _ _ zr
   have r6 := cell_of_row _ _ 6 _ _ _ zr
   clear zr
   have hd2 : Hid (∀ W, Bp w [⟨⟨q, I2, i2, C2, c2, F2, f2, B2, b2⟩, w4.heap.size⟩, ⟨⟨q, I, i, C, c, F, f, B, b⟩, w2.heap.size⟩] W -> W.cell? ⟨w2.heap.size, 0, none⟩ = some (Value.slice I q.ins.length i) /\ W.cell? ⟨w2.heap.size, 1, none⟩ = some (Value.slice C q.cells.length c) /\ W.cell? ⟨w2.heap.size, 2, none⟩ = some (Value.slice F q.defs.length f) /\ W.cell? ⟨w2.heap.size, 3, none⟩ = some (Value.int .i64 q.body.kind) /\ W.cell? ⟨w2.heap.size, 4, none⟩ = some (Value.string q.body.name) /\ W.cell? ⟨w2.heap.size, 5, none⟩ = some (Value.int .i64 q.body.num) /\ W.cell? ⟨w2.heap.size, 6, none⟩ = some (Value.slice B q.body.kids.length b) /\ W.cell? ⟨w4.heap.size, 0, none⟩ = some (Value.slice I2 q.ins.length i2) /\ W.cell? ⟨w4.heap.size, 1, none⟩ = some (Value.slice C2 q.cells.length c2) /\ W.cell? ⟨w4.heap.size, 2, none⟩ = some (Value.slice F2 q.defs.length f2) /\ W.cell? ⟨w4.heap.size, 3, none⟩ = some (Value.int .i64 q.body.kind) /\ W.cell? ⟨w4.heap.size, 4, none⟩ = some (Value.string q.body.name) /\ W.cell? ⟨w4.heap.size, 5, none⟩ = some (Value.int .i64 q.body.num) /\ W.cell? ⟨w4.heap.size, 6, none⟩ = some (Value.slice B2 q.body.kids.length b2)) := fun W h => by
     have a1 := (h.at_ ⟨⟨q, I, i, C, c, F, f, B, b⟩, w2.heap.size⟩ (by simp)).box
     have a2 := (h.at_ ⟨⟨q, I2, i2, C2, c2, F2, f2, B2, b2⟩, w4.heap.size⟩ (by simp)).box
     exact ⟨cell_of_row _ _ 0 _ _ _ a1, cell_of_row _ _ 1 _ _ _ a1, cell_of_row _ _ 2 _ _ _ a1, cell_of_row _ _ 3 _ _ _ a1, cell_of_row _ _ 4 _ _ _ a1, cell_of_row _ _ 5 _ _ _ a1, cell_of_row _ _ 6 _ _ _ a1, cell_of_row _ _ 0 _ _ _ a2, cell_of_row _ _ 1 _ _ _ a2, cell_of_row _ _ 2 _ _ _ a2, cell_of_row _ _ 3 _ _ _ a2, cell_of_row _ _ 4 _ _ _ a2, cell_of_row _ _ 5 _ _ _ a2, cell_of_row _ _ 6 _ _ _ a2⟩
   have kr := Lib.hid (fun (W : World) (h : Bp w [⟨⟨q, I2, i2, C2, c2, F2, f2, B2, b2⟩, w4.heap.size⟩, ⟨⟨q, I, i, C, c, F, f, B, b⟩, w2.heap.size⟩] W) => (rightW_any ⟨q, I, i, C, c, F, f, B, b⟩ W h.env (h.at_ ⟨⟨q, I, i, C, c, F, f, B, b⟩, w2.heap.size⟩ (by simp)).ok hS.out).mono (fun e w' h9 => (show e = .returned (.bool true) /\ Hid (Bp w [⟨⟨q, I2, i2, C2, c2, F2, f2, B2, b2⟩, w4.heap.size⟩, ⟨⟨q, I, i, C, c, F, f, B, b⟩, w2.heap.size⟩] w') from ⟨by rw [<- hR.out]; exact h9.1, h.later h9.2⟩)))
   have ks := Lib.hid (fun (W : World) (h : Bp w [⟨⟨q, I2, i2, C2, c2, F2, f2, B2, b2⟩, w4.heap.size⟩, ⟨⟨q, I, i, C, c, F, f, B, b⟩, w2.heap.size⟩] W) => (sameP_any ⟨q, I, i, C, c, F, f, B, b⟩ ⟨q, I2, i2, C2, c2, F2, f2, B2, b2⟩ W (h.at_ ⟨⟨q, I, i, C, c, F, f, B, b⟩, w2.heap.size⟩ (by simp)).ok (h.at_ ⟨⟨q, I2, i2, C2, c2, F2, f2, B2, b2⟩, w4.heap.size⟩ (by simp)).ok hS.out).mono (fun e w' h9 => (show e = .returned (.bool true) /\ Hid (Bp w [⟨⟨q, I2, i2, C2, c2, F2, f2, B2, b2⟩, w4.heap.size⟩, ⟨⟨q, I, i, C, c, F, f, B, b⟩, w2.heap.size⟩] w') from ⟨by rw [<- one_self q]; exact h9.1, h.later h9.2⟩)))
   have kz := Lib.hid (fun (W : World) (h : Bp w [⟨⟨q, I2, i2, C2, c2, F2, f2, B2, b2⟩, w4.heap.size⟩, ⟨⟨q, I, i, C, c, F, f, B, b⟩, w2.heap.size⟩] W) (I9 : Option Addr) (i9 : Nat) (C9 : Option Addr) (c9 : Nat) (F9 : Option Addr) (f9 : Nat) (B9 : Option Addr) (b9 : Nat) (hm : ∃ n, (⟨⟨q, I9, i9, C9, c9, F9, f9, B9, b9⟩, n⟩ : PB) ∈ [⟨⟨q, I2, i2, C2, c2, F2, f2, B2, b2⟩, w4.heap.size⟩, ⟨⟨q, I, i, C, c, F, f, B, b⟩, w2.heap.size⟩]) => (printW_any ⟨q, I9, i9, C9, c9, F9, f9, B9, b9⟩ W h.env (by obtain ⟨n, hm⟩ := hm; exact (h.at_ _ hm).ok) hS.out).mono (fun e w' h9 => (show e = .returned (.string S) /\ Hid (Bp w [⟨⟨q, I2, i2, C2, c2, F2, f2, B2, b2⟩, w4.heap.size⟩, ⟨⟨q, I, i, C, c, F, f, B, b⟩, w2.heap.size⟩] w') from ⟨by rw [<- hSS.out]; exact h9.1, h.later h9.2⟩)))
   dsimp only at kr ks kz
   have hcs := hd2.out V2 hX.out
   go_wp2_with fail
   replace hV2 := Lib.hid hV2
   clear p0 p1 p2 p3 p4 p5 p6 r0 r1 r2 r3 r4 r5 r6 apA apB
   have hO : Hid (Bp w [⟨⟨q, I2, i2, C2, c2, F2, f2, B2, b2⟩, w4.heap.size⟩, ⟨⟨q, I, i, C, c, F, f, B, b⟩, w2.heap.size⟩] V2.drew) := hX.out.later (Below.refl _ V2).drew
   clear hX
   go_region_held3 (fun W => W.cell? ⟨w2.heap.size, 0, none⟩ = some (Value.slice I q.ins.length i) /\ W.cell? ⟨w2.heap.size, 1, none⟩ = some (Value.slice C q.cells.length c) /\ W.cell? ⟨w2.heap.size, 2, none⟩ = some (Value.slice F q.defs.length f) /\ W.cell? ⟨w2.heap.size, 3, none⟩ = some (Value.int .i64 q.body.kind) /\ W.cell? ⟨w2.heap.size, 4, none⟩ = some (Value.string q.body.name) /\ W.cell? ⟨w2.heap.size, 5, none⟩ = some (Value.int .i64 q.body.num) /\ W.cell? ⟨w2.heap.size, 6, none⟩ = some (Value.slice B q.body.kids.length b) /\ W.cell? ⟨w4.heap.size, 0, none⟩ = some (Value.slice I2 q.ins.length i2) /\ W.cell? ⟨w4.heap.size, 1, none⟩ = some (Value.slice C2 q.cells.length c2) /\ W.cell? ⟨w4.heap.size, 2, none⟩ = some (Value.slice F2 q.defs.length f2) /\ W.cell? ⟨w4.heap.size, 3, none⟩ = some (Value.int .i64 q.body.kind) /\ W.cell? ⟨w4.heap.size, 4, none⟩ = some (Value.string q.body.name) /\ W.cell? ⟨w4.heap.size, 5, none⟩ = some (Value.int .i64 q.body.num) /\ W.cell? ⟨w4.heap.size, 6, none⟩ = some (Value.slice B2 q.body.kids.length b2)) (first | exact hd2.out _ hO.out | exact hcs) (first
     | (go_at_call 17
        have hP := hO; clear hO
        refine (kr.out _ hP.out).mono ?_
        clear hP
        rintro e w9 ⟨rfl, hO⟩)
     | (go_at_call 15
        have hP := hO; clear hO
        refine (ks.out _ hP.out).mono ?_
        clear hP
        rintro e w9 ⟨rfl, hO⟩)
     | (go_at_call 21
        have hP := hO; clear hO
        refine (kz.out _ hP.out _ _ _ _ _ _ _ _ (by first | exact ⟨_, List.mem_cons_self ..⟩ | exact ⟨_, List.mem_cons_of_mem _ (List.mem_cons_self ..)⟩)).mono ?_
        clear hP
        rintro e w9 ⟨rfl, hO⟩))
   all_goals go_wp2_with fail
   all_goals go_ret
   all_goals exact ⟨rfl, hO.out.below⟩
 . have hn9 := Lib.hid (parse_err hp)
   refine (parse_noP hp w1 hX.out.env (by omega)).mono ?_
   rintro e w2 ⟨rfl, hb⟩
   replace hX := Lib.hid ((hX.out.later hb).add pv0 (pv0_at w2))
   clear hb hp hcut
   have ks := sameP_any pv0 pv0 (w2.alloc (.cells #[.slice none 0 0, .slice none 0 0, .slice none 0 0, .int .i64 0, .string ⟨#[]⟩, .int .i64 0, .slice none 0 0] 28)) (pv0_at _) (pv0_at _) P0_small
   rw [one_self] at ks
   replace ks : Calls Tryz.prog 15 #[.agg #[.slice none 0 0, .slice none 0 0, .slice none 0 0, .int .i64 0, .string ⟨#[]⟩, .int .i64 0, .slice none 0 0], .agg #[.slice none 0 0, .slice none 0 0, .slice none 0 0, .int .i64 0, .string ⟨#[]⟩, .int .i64 0, .slice none 0 0]] (w2.alloc (.cells #[.slice none 0 0, .slice none 0 0, .slice none 0 0, .int .i64 0, .string ⟨#[]⟩, .int .i64 0, .slice none 0 0] 28)) fun e w' => e = .returned (.bool true) /\ Below (w2.alloc (.cells #[.slice none 0 0, .slice none 0 0, .slice none 0 0, .int .i64 0, .string ⟨#[]⟩, .int .i64 0, .slice none 0 0] 28)).heap.size (w2.alloc (.cells #[.slice none 0 0, .slice none 0 0, .slice none 0 0, .int .i64 0, .string ⟨#[]⟩, .int .i64 0, .slice none 0 0] 28)) w' := ks
   replace ks := Lib.hid ks
   rcases hn9.out with rfl | rfl
   . go_wp2_with fail
     refine ks.out.mono ?_
     rintro e w3 ⟨rfl, hb⟩
     replace hX := Lib.hid (hX.out.later hb)
     clear hb ks
     go_wp2_with fail
     go_ret
     exact ⟨rfl, hX.out.below⟩
   . go_wp2_with fail
     refine ks.out.mono ?_
     rintro e w3 ⟨rfl, hb⟩
     replace hX := Lib.hid (hX.out.later hb)
     clear hb ks
     go_wp2_with fail
     go_ret
     exact ⟨rfl, hX.out.below⟩
end Go.Proofs.YticjidkomfnihaaGreatDoor.Pg
