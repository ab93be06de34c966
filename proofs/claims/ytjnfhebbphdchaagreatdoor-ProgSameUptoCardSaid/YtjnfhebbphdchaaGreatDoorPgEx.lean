/-
  The walk of chapter 6's examples: they hold. Condition: the variables that are read lie as laid.
-/
import Derived.Test.YtjnfhebbphdchaaGreatDoorPgBox
set_option maxHeartbeats 4000000
set_option maxRecDepth 100000
open Go.Lib (hid)
namespace Go.Proofs.YtjnfhebbphdchaaGreatDoor.Pg
open Go.RowKit Go.Shelf Go.Tm Go.Lx Go.Maps Go.Proofs.YtjnfhebbphdchaaGreatDoor.Pa
attribute [local go_sem] Oper.semAt_some
theorem pp1 (w : World) (hE : EnvP w) : Calls Tryz.prog 11 #[.string ⟨#[105, 110, 112, 117, 116, 32, 120, 32, 58, 32, 76, 111, 32, 46, 32, 99, 101, 108, 108, 32, 99, 32, 58, 32, 72, 105, 32, 61, 32, 53, 32, 46, 32, 100, 101, 102, 32, 102, 32, 61, 32, 102, 117, 110, 32, 121, 32, 61, 62, 32, 121, 32, 46, 32, 99, 32, 58, 61, 32, 102, 32, 120]⟩] w fun e w' => ∃ I i C c F f B b, e = .returned (.tuple #[.agg #[.slice I 1 i, .slice C 1 c, .slice F 1 f, .int .i64 11, .string ⟨#[]⟩, .int .i64 0, .slice B 2 b], .int .i64 0]) /\ Below w.heap.size w w' /\ ProgAt w' ⟨exP, I, i, C, c, F, f, B, b⟩ := qeY ps1 w hE (by decide)
theorem pp2 (w : World) (hE : EnvP w) : Calls Tryz.prog 11 #[.string ⟨#[99, 101, 108, 108, 32, 99, 32, 58, 32, 72, 105, 32, 61, 32, 53, 32, 46, 32, 105, 110, 112, 117, 116, 32, 120, 32, 58, 32, 76, 111, 32, 46, 32, 49]⟩] w fun e w' => e = .returned (.tuple #[.agg #[.slice none 0 0, .slice none 0 0, .slice none 0 0, .int .i64 0, .string ⟨#[]⟩, .int .i64 0, .slice none 0 0], .int .i64 2]) /\ Below w.heap.size w w' := qda ps2 w hE (by decide)
theorem pp3 (w : World) (hE : EnvP w) : Calls Tryz.prog 11 #[.string ⟨#[100, 101, 102, 32, 102, 32, 61, 32, 49, 32, 46, 32, 50]⟩] w fun e w' => e = .returned (.tuple #[.agg #[.slice none 0 0, .slice none 0 0, .slice none 0 0, .int .i64 0, .string ⟨#[]⟩, .int .i64 0, .slice none 0 0], .int .i64 2]) /\ Below w.heap.size w w' := qda ps3 w hE (by decide)
theorem pp4 (w : World) (hE : EnvP w) : Calls Tryz.prog 11 #[.string ⟨#[105, 110, 112, 117, 116, 32, 120, 32, 58, 32, 76, 111, 32, 46]⟩] w fun e w' => e = .returned (.tuple #[.agg #[.slice none 0 0, .slice none 0 0, .slice none 0 0, .int .i64 0, .string ⟨#[]⟩, .int .i64 0, .slice none 0 0], .int .i64 2]) /\ Below w.heap.size w w' := qda ps4 w hE (by decide)
theorem pp5 (w : World) (hE : EnvP w) : Calls Tryz.prog 21 #[.agg #[.slice none 0 0, .slice none 0 0, .slice none 0 0, .int .i64 0, .string ⟨#[]⟩, .int .i64 0, .slice none 0 0]] w fun e w' => e = .returned (.string ⟨#[]⟩) /\ Below w.heap.size w w' := by
 have h := qeb pv0 w hE (qti w) qrc
 have h1 : qbI pv0.p = ⟨#[]⟩ := qqP
 rw [h1] at h
 exact h
theorem qcb (w : World) (hE : EnvP w) : Calls Tryz.prog 10 #[] w fun e w' => e = .returned (.bool true) /\ Below w.heap.size w w' := by
 have hX0 := hid (Bp.new hE)
 clear hE
 go_enter Tryz.func10, Tryz.ntmps10
 have k1 := hid (pp1 w hX0.out.env)
 go_wp2_with fail
 refine k1.out.mono ?_
 rintro e u1 ⟨I, i, C, c, F, f, B, b, rfl, hb, hA⟩
 have hX1 := hid ((hX0.out.later hb).add _ hA)
 obtain ⟨W1, hW1⟩ : ∃ W, u1.alloc (.cells #[.slice I 1 i, .slice C 1 c, .slice F 1 f, .int .i64 11, .string ⟨#[]⟩, .int .i64 0, .slice B 2 b] 28) = W := ⟨_, rfl⟩
 replace hX1 : Hid (Bp w [⟨⟨exP, I, i, C, c, F, f, B, b⟩, u1.heap.size⟩] W1) := by rw [<- hW1]; exact hX1
 replace hW1 := hid hW1
 clear hA hb k1 hX0
 have k2 := hid (pp2 W1 hX1.out.env)
 go_wp2_with fail
 rw [hW1.out]
 refine k2.out.mono ?_
 rintro e u2 ⟨rfl, hb⟩
 obtain ⟨W2, hW2⟩ : ∃ W, u2.alloc (.cells #[.slice none 0 0, .slice none 0 0, .slice none 0 0, .int .i64 0, .string ⟨#[]⟩, .int .i64 0, .slice none 0 0] 28) = W := ⟨_, rfl⟩
 have hX2 := hid ((hX1.out.later hb).later (X.qab u2 (.cells #[.slice none 0 0, .slice none 0 0, .slice none 0 0, .int .i64 0, .string ⟨#[]⟩, .int .i64 0, .slice none 0 0] 28)))
 rw [hW2] at hX2
 replace hW2 := hid hW2
 clear hb k2 hX1
 have k3 := hid (pp3 W2 hX2.out.env)
 go_wp2_with fail
 rw [hW2.out]
 refine k3.out.mono ?_
 rintro e u3 ⟨rfl, hb⟩
 obtain ⟨W3, hW3⟩ : ∃ W, u3.alloc (.cells #[.slice none 0 0, .slice none 0 0, .slice none 0 0, .int .i64 0, .string ⟨#[]⟩, .int .i64 0, .slice none 0 0] 28) = W := ⟨_, rfl⟩
 have hX3 := hid ((hX2.out.later hb).later (X.qab u3 (.cells #[.slice none 0 0, .slice none 0 0, .slice none 0 0, .int .i64 0, .string ⟨#[]⟩, .int .i64 0, .slice none 0 0] 28)))
 rw [hW3] at hX3
 replace hW3 := hid hW3
 clear hb k3 hX2
 have k4 := hid (pp4 W3 hX3.out.env)
 go_wp2_with fail
 rw [hW3.out]
 refine k4.out.mono ?_
 rintro e u4 ⟨rfl, hb⟩
 obtain ⟨W4, hW4⟩ : ∃ W, u4.alloc (.cells #[.slice none 0 0, .slice none 0 0, .slice none 0 0, .int .i64 0, .string ⟨#[]⟩, .int .i64 0, .slice none 0 0] 28) = W := ⟨_, rfl⟩
 have hX4 := hid ((hX3.out.later hb).later (X.qab u4 (.cells #[.slice none 0 0, .slice none 0 0, .slice none 0 0, .int .i64 0, .string ⟨#[]⟩, .int .i64 0, .slice none 0 0] 28)))
 rw [hW4] at hX4
 replace hW4 := hid hW4
 clear hb k4 hX3
 rw [<- hW4.out] at hX4
 clear hW4
 have a1 : PB.At (u4.alloc (.cells #[.slice none 0 0, .slice none 0 0, .slice none 0 0, .int .i64 0, .string ⟨#[]⟩, .int .i64 0, .slice none 0 0] 28)) ⟨⟨exP, I, i, C, c, F, f, B, b⟩, u1.heap.size⟩ := hX4.out.at_ _ (by simp)
 have x9 : (u4.alloc (.cells #[.slice none 0 0, .slice none 0 0, .slice none 0 0, .int .i64 0, .string ⟨#[]⟩, .int .i64 0, .slice none 0 0] 28)).heap[u1.heap.size]? = some (.cells #[.slice I 1 i, .slice C 1 c, .slice F 1 f, .int .i64 11, .string ⟨#[]⟩, .int .i64 0, .slice B 2 b] 28 (0, 0)) := a1.box
 have x0 := qaa _ _ 0 _ _ _ x9
 have x1 := qaa _ _ 1 _ _ _ x9
 have x2 := qaa _ _ 2 _ _ _ x9
 have x3 := qaa _ _ 3 _ _ _ x9
 have x4 := qaa _ _ 4 _ _ _ x9
 have x5 := qaa _ _ 5 _ _ _ x9
 have x6 := qaa _ _ 6 _ _ _ x9
 clear x9
 obtain ⟨ib, io, hI, _, hi⟩ := a1.ok.ins.at_ (List.cons_ne_nil _ _)
 obtain ⟨cb, co, hC, _, hc⟩ := a1.ok.cells.at_ (List.cons_ne_nil _ _)
 obtain ⟨fb, fo, hF, _, hf⟩ := a1.ok.defs.at_ (List.cons_ne_nil _ _)
 dsimp only at hI hC hF
 subst hI hC hF
 have e1 : (u4.alloc (.cells #[.slice none 0 0, .slice none 0 0, .slice none 0 0, .int .i64 0, .string ⟨#[]⟩, .int .i64 0, .slice none 0 0] 28)).cell? ⟨ib, io + 1, none⟩ = some (.string ⟨#[76, 111]⟩) := by have := (hi 0 (by show 0 < 1; decide)).2.1; rw [Nat.zero_mul, Nat.add_zero] at this; exact this
 have e2 : (u4.alloc (.cells #[.slice none 0 0, .slice none 0 0, .slice none 0 0, .int .i64 0, .string ⟨#[]⟩, .int .i64 0, .slice none 0 0] 28)).cell? ⟨cb, co + 2, none⟩ = some (.int .i64 5) := by have := (hc 0 (by show 0 < 1; decide)).2.2; rw [Nat.zero_mul, Nat.add_zero] at this; exact this
 have e3 : (u4.alloc (.cells #[.slice none 0 0, .slice none 0 0, .slice none 0 0, .int .i64 0, .string ⟨#[]⟩, .int .i64 0, .slice none 0 0] 28)).cell? ⟨fb, fo, none⟩ = some (.string ⟨#[102]⟩) := by have := (hf 0 (by show 0 < 1; decide)).1; rw [Nat.zero_mul, Nat.add_zero] at this; exact this
 have kr : Calls Tryz.prog 17 _ (u4.alloc (.cells #[.slice none 0 0, .slice none 0 0, .slice none 0 0, .int .i64 0, .string ⟨#[]⟩, .int .i64 0, .slice none 0 0] 28)) _ := qby _ (u4.alloc (.cells #[.slice none 0 0, .slice none 0 0, .slice none 0 0, .int .i64 0, .string ⟨#[]⟩, .int .i64 0, .slice none 0 0] 28)) hX4.out.env a1.ok (qcD qcA).1
 rw [qjL] at kr
 replace kr := hid kr
 clear hi hc hf a1
 go_wp2_with fail
 refine kr.out.mono ?_
 rintro e w5 ⟨rfl, hb⟩
 have hX5 := hid (hX4.out.later hb)
 clear hb kr hX4 x0 x1 x2 x3 x4 x5 x6 e1 e2 e3
 have a1 : PB.At w5 ⟨⟨exP, some ⟨ib, io, none⟩, i, some ⟨cb, co, none⟩, c, some ⟨fb, fo, none⟩, f, B, b⟩, u1.heap.size⟩ := hX5.out.at_ _ (by simp)
 have x9 : w5.heap[u1.heap.size]? = some (.cells #[.slice (some ⟨ib, io, none⟩) 1 i, .slice (some ⟨cb, co, none⟩) 1 c, .slice (some ⟨fb, fo, none⟩) 1 f, .int .i64 11, .string ⟨#[]⟩, .int .i64 0, .slice B 2 b] 28 (0, 0)) := a1.box
 have x0 := qaa _ _ 0 _ _ _ x9
 have x1 := qaa _ _ 1 _ _ _ x9
 have x2 := qaa _ _ 2 _ _ _ x9
 have x3 := qaa _ _ 3 _ _ _ x9
 have x4 := qaa _ _ 4 _ _ _ x9
 have x5 := qaa _ _ 5 _ _ _ x9
 have x6 := qaa _ _ 6 _ _ _ x9
 clear x9
 have kr : Calls Tryz.prog 19 _ w5 _ := qhs _ w5 a1.ok (qcD qcA).1 (qcD qcA).2
 rw [qqN] at kr
 replace kr := hid kr
 clear a1
 go_wp2_with fail
 refine kr.out.mono ?_
 rintro e w6 ⟨rfl, hb⟩
 have hX6 := hid (hX5.out.later hb)
 clear hb kr hX5 x0 x1 x2 x3 x4 x5 x6
 have a1 : PB.At w6 ⟨⟨exP, some ⟨ib, io, none⟩, i, some ⟨cb, co, none⟩, c, some ⟨fb, fo, none⟩, f, B, b⟩, u1.heap.size⟩ := hX6.out.at_ _ (by simp)
 have x9 : w6.heap[u1.heap.size]? = some (.cells #[.slice (some ⟨ib, io, none⟩) 1 i, .slice (some ⟨cb, co, none⟩) 1 c, .slice (some ⟨fb, fo, none⟩) 1 f, .int .i64 11, .string ⟨#[]⟩, .int .i64 0, .slice B 2 b] 28 (0, 0)) := a1.box
 have x0 := qaa _ _ 0 _ _ _ x9
 have x1 := qaa _ _ 1 _ _ _ x9
 have x2 := qaa _ _ 2 _ _ _ x9
 have x3 := qaa _ _ 3 _ _ _ x9
 have x4 := qaa _ _ 4 _ _ _ x9
 have x5 := qaa _ _ 5 _ _ _ x9
 have x6 := qaa _ _ 6 _ _ _ x9
 clear x9
 have kr : Calls Tryz.prog 21 _ w6 _ := qeb _ w6 hX6.out.env a1.ok (qcD qcA).1
 rw [qpd] at kr
 unfold px5 at kr
 replace kr := hid kr
 clear a1
 go_wp2_with fail
 refine kr.out.mono ?_
 rintro e w7 ⟨rfl, hb⟩
 have hX7 := hid (hX6.out.later hb)
 clear hb kr hX6 x0 x1 x2 x3 x4 x5 x6
 have a1 : PB.At w7 ⟨⟨exP, some ⟨ib, io, none⟩, i, some ⟨cb, co, none⟩, c, some ⟨fb, fo, none⟩, f, B, b⟩, u1.heap.size⟩ := hX7.out.at_ _ (by simp)
 have x9 : w7.heap[u1.heap.size]? = some (.cells #[.slice (some ⟨ib, io, none⟩) 1 i, .slice (some ⟨cb, co, none⟩) 1 c, .slice (some ⟨fb, fo, none⟩) 1 f, .int .i64 11, .string ⟨#[]⟩, .int .i64 0, .slice B 2 b] 28 (0, 0)) := a1.box
 have x0 := qaa _ _ 0 _ _ _ x9
 have x1 := qaa _ _ 1 _ _ _ x9
 have x2 := qaa _ _ 2 _ _ _ x9
 have x3 := qaa _ _ 3 _ _ _ x9
 have x4 := qaa _ _ 4 _ _ _ x9
 have x5 := qaa _ _ 5 _ _ _ x9
 have x6 := qaa _ _ 6 _ _ _ x9
 clear x9
 have kr : Calls Tryz.prog 15 _ w7 _ := qdO _ _ w7 a1.ok a1.ok (qcD qcA).1
 rw [qbZ] at kr
 replace kr := hid kr
 clear a1
 go_wp2_with fail
 refine kr.out.mono ?_
 rintro e w8 ⟨rfl, hb⟩
 have hX8 := hid (hX7.out.later hb)
 clear hb kr hX7 x0 x1 x2 x3 x4 x5 x6
 have kr := hid (pp5 w8 hX8.out.env)
 go_wp2_with fail
 refine kr.out.mono ?_
 rintro e w9 ⟨rfl, hb⟩
 have hX9 := hid (hX8.out.later hb)
 clear hb kr
 go_wp2_with fail
 go_ret
 exact ⟨rfl, hX9.out.below⟩
end Go.Proofs.YtjnfhebbphdchaaGreatDoor.Pg
