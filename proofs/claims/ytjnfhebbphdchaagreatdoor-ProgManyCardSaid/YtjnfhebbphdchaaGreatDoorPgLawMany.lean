/-
  ProgMany's walk: true of however many, of whichever kind. Condition: the variables that are read lie as laid.
-/
import Derived.Test.YtjnfhebbphdchaaGreatDoorPgMany2
set_option maxHeartbeats 4000000
set_option maxRecDepth 100000
open Go.Lib (hid)
namespace Go.Proofs.YtjnfhebbphdchaaGreatDoor.Pg
open Go.RowKit Go.Shelf Go.Tm Go.Lx Go.Maps Go.Proofs.YtjnfhebbphdchaaGreatDoor.Pa
attribute [local go_sem] Oper.semAt_some
theorem qtq (n kd : Int) (w : World) (hE : EnvP w) (h1 : 0 <= n) (h2 : n <= 255) (h3 : 0 <= kd) (h4 : kd <= 255) (hc : kd % 3 = 0) :
   Calls Tryz.prog 8 #[.int .u8 n, .int .u8 kd] w fun e w' => e = .returned (.bool true) /\ Below w.heap.size w w' := by
 obtain ⟨i0, hi, hi2⟩ := Option.map_eq_some_iff.1 qhn
 obtain ⟨hz0, hz1, hz2⟩ : i0.zero = some (.agg #[.string ⟨#[]⟩, .string ⟨#[]⟩, .int .i64 0]) /\ i0.size = 3 /\ i0.bytes = 40 := by
   injection hi2 with h1 h2; injection h2 with h2 h3; exact ⟨h1, h2, h3⟩
 clear hi2
 replace hi := hid hi
 replace hz0 := hid hz0
 replace hz1 := hid hz1
 replace hz2 := hid hz2
 have hX := hid (Bp.new hE)
 clear hE
 obtain ⟨K, hK, hK1, hK2⟩ : ∃ K : Nat, 28 + n % 9 = (K : Int) /\ 28 <= K /\ K <= 36 := ⟨(28 + n % 9).toNat, by omega, by omega, by omega⟩
 have hK0 : IntKind.u8.wrap (n % 9) = n % 9 := by rw [IntKind.wrap_u8]; omega
 go_enter Tryz.func8, Tryz.ntmps8
 go_wp2_with fail
 refine (qcb _ hX.out.env).mono ?_
 rintro e w1 ⟨rfl, hb⟩
 replace hX := hid (hX.out.later hb)
 clear hb
 have hD0 := DrT.new 28 36 w1
 have hB0 := X.qab w1 (.cells #[.slice none 0 0, .slice none 0 0, .slice none 0 0, .int .i64 0, .string ⟨#[]⟩, .int .i64 0, .slice none 0 0] 28)
 obtain ⟨V0, hV0⟩ : ∃ W, w1.alloc (.cells #[.slice none 0 0, .slice none 0 0, .slice none 0 0, .int .i64 0, .string ⟨#[]⟩, .int .i64 0, .slice none 0 0] 28) = W := ⟨_, rfl⟩
 rw [hV0] at hD0 hB0
 replace hD0 := hid hD0
 replace hB0 := hid hB0
 go_wp2_with fail
 replace hV0 := hid hV0
 clear hK0 hK
 go_loopw [9, 7] (fun i9 s9 wr => ∃ k : Nat, k <= K /\ i9 = .int .i64 k /\ s9 = .string (X.strOf (manyS 0 k)) /\ Hid (DrTE 28 36 wr w1.heap.size (mP 0 k) /\ Below w1.heap.size w1 wr)) (fun i9 _ _ => K - (intOf i9).toNat)
 case atStart => exact ⟨0, Nat.zero_le _, rfl, rfl, ⟨_, _, _, _, hD0.out⟩, hB0.out⟩
 case round =>
   obtain ⟨k, hk, rfl, rfl, hI⟩ := hrel
   obtain ⟨⟨I, C, F, xs, hD⟩, hB⟩ := hI.out
   clear hI hD0 hB0
   by_cases hlt : k < K
   . have hlen : (mP 0 k).ins.length = k := qdl k
     have hown := hD.oi
     rw [hlen] at hown
     obtain ⟨A0, c0, hA0⟩ := qaK hown
     rw [hA0] at hown
     have q0 : wr.cell? ⟨w1.heap.size, 0, none⟩ = some (.slice A0 k c0) := by rw [qaa _ _ 0 _ _ _ hD.box, <- hA0]; rfl
     have hf0 := qac hD.box 0
     have hcv := qiR wr (97 + k / 10) (48 + k % 10) (by omega) (by omega)
     obtain ⟨D2, hD2⟩ : ∃ D2 : ByteArray, ⟨#[UInt8.ofNat (97 + k / 10), UInt8.ofNat (48 + k % 10)]⟩ = D2 := ⟨_, rfl⟩
     have hNM := qpI k
     have hD2z : D2.size = 2 := by rw [<- hD2]; rfl
     rw [hD2] at hcv hNM
     have hb1 := X.qab wr (.cells #[.int .u8 ((97 + k / 10 : Nat) : Int), .int .u8 ((48 + k % 10 : Nat) : Int)] 5)
     have e1 : ((97 + k / 10 : Nat) : Int) = 97 + (k : Int) / 10 := by omega
     have e2 : ((48 + k % 10 : Nat) : Int) = 48 + (k : Int) % 10 := by omega
     rw [e1, e2] at hcv hb1
     have e3 : IntKind.u8.wrap ((k : Int) / 10) = (k : Int) / 10 := by rw [IntKind.wrap_u8]; omega
     have e4 : IntKind.u8.wrap ((k : Int) % 10) = (k : Int) % 10 := by rw [IntKind.wrap_u8]; omega
     have e5 : IntKind.u8.wrap (97 + (k : Int) / 10) = 97 + (k : Int) / 10 := by rw [IntKind.wrap_u8]; omega
     have e6 : IntKind.u8.wrap (48 + (k : Int) % 10) = 48 + (k : Int) % 10 := by rw [IntKind.wrap_u8]; omega
     have e7 : IntKind.u8.wrap (kd % 3) = kd % 3 := by rw [IntKind.wrap_u8]; omega
     obtain ⟨V1, hV1⟩ : ∃ W, wr.alloc (.cells #[.int .u8 (97 + (k : Int) / 10), .int .u8 (48 + (k : Int) % 10)] 5) = W := ⟨_, rfl⟩
     rw [hV1] at hcv hb1
     have hv1 : V1.heap.size = wr.heap.size + 1 := by rw [<- hV1]; simp
     have hS := qct (c := 0) (k := k) (by omega)
     have hnx := qsx k
     obtain ⟨S0, hS0⟩ : ∃ S0, X.strOf (manyS 0 k) = S0 := ⟨_, rfl⟩
     rw [hS0] at hS hnx ⊢
     rw [hNM] at hnx
     have hNz : (⟨#[118]⟩ ++ D2 : ByteArray).size = 3 := by rw [ByteArray.size_append, hD2z]; rfl
     obtain ⟨NM, hNM2⟩ : ∃ NM, (⟨#[118]⟩ ++ D2 : ByteArray) = NM := ⟨_, rfl⟩
     rw [hNM2] at hnx hNM hNz
     have y0 : ¬ 9223372036854775807 < 1 + D2.size := by omega
     have y1 : ¬ 9223372036854775807 < S0.size + 6 := by omega
     have y2 : ¬ 9223372036854775807 < S0.size + 6 + NM.size := by omega
     have y3 : ¬ 9223372036854775807 < S0.size + 6 + NM.size + 8 := by omega
     have hb2 := hb1.trans ((X.qab V1 (.cells #[.string NM, .string ⟨#[76, 111]⟩, .int .i64 0] 67)).mono hb1.size)
     have hx3 := World.alloc_heap_new V1 (.cells #[.string NM, .string ⟨#[76, 111]⟩, .int .i64 0] 67)
     obtain ⟨V3, hV3⟩ : ∃ W, V1.alloc (.cells #[.string NM, .string ⟨#[76, 111]⟩, .int .i64 0] 67) = W := ⟨_, rfl⟩
     rw [hV3] at hb2 hx3
     have hown3 := hid (qbX hown hb2)
     have hbz : Hid (w1.heap.size + 1 <= V3.heap.size) := by show _ <= _; have := hb2.size; have := hD.lt; omega
     have hlow : Hid (∀ g, (Value.slice A0 k c0).ownBlock = some g -> w1.heap.size < g) := fun g hg => (qaU hown hg).1
     have kend := hid (fun (v7 : Value) (w7 : World) (ho : w7.ownsRow (w1.heap.size + 1) 67 3 v7 (k + 1) ((insN k).flatMap declC ++ [.string NM, .string ⟨#[76, 111]⟩, .int .i64 0])) (hg : V3.grownBy w7 (Value.slice A0 k c0).ownBlock) (hat : v7.ownBlock = (Value.slice A0 k c0).ownBlock ∨ v7.ownBlock = some V3.heap.size) => (show DrTE 28 36 (w7.setCell ⟨w1.heap.size, 0, none⟩ v7) w1.heap.size (mP 0 (k + 1)) /\ Below w1.heap.size w1 (w7.setCell ⟨w1.heap.size, 0, none⟩ v7) from by
       have hadd : Added w1.heap.size 0 67 3 I (mP 0 k).ins.length ((mP 0 k).ins.flatMap declC) (declC ⟨nmV k, loS, 0⟩) wr (w7.setCell ⟨w1.heap.size, 0, none⟩ v7) := by
         rw [hlen, hA0]
         rw [<- hNM] at ho
         exact ⟨V3, w7, v7, hb2, hg, ho, hat, rfl⟩
       obtain ⟨h8, h9, _⟩ := hD.addI (by rw [hlen]; omega) ⟨by show (nmV k).size <= _; rw [qlj]; decide, by show loS.size <= _; decide⟩ hadd
       have e9 : mP 0 (k + 1) = { mP 0 k with ins := (mP 0 k).ins ++ [⟨nmV k, loS, 0⟩] } := by rw [mP_0, qkj]; rfl
       rw [e9]
       exact ⟨h8, hB.trans h9⟩
       ))
     have kblk := hid (fun (w7 : World) (hg : V3.grownBy w7 (Value.slice A0 k c0).ownBlock) => (show w7.heap[w1.heap.size]? = wr.heap[w1.heap.size]? from (hg.block _ (by have := hb2.size; have := hD.lt; omega) (fun e => by have := hlow.out _ e.symm; omega)).trans (hb2.block _ hD.lt)))
     have qh := hid q0
     have fh := hid hf0
     replace hx3 := hid hx3
     replace hb1 := hid hb1
     replace hb2 := hid hb2
     replace hD := hid hD
     replace hB := hid hB
     replace hown := hid hown
     replace hA0 := hid hA0
     replace hnx := hid hnx
     replace hNM := hid hNM
     replace hD2 := hid hD2
     replace hS0 := hid hS0
     replace hv1 := hid hv1
     replace hlen := hid hlen
     clear e1 e2 hf0
     have q1 : V1.cell? ⟨w1.heap.size, 0, none⟩ = some (.slice A0 k c0) := (hb1.out.cell (p := ⟨w1.heap.size, 0, none⟩) hD.out.lt).trans q0
     clear q0
     rw [hc] at e7
     go_wp2_with (at_builtin; refine wpList_append_own_at _ rfl _ _ 22 rfl (w1.heap.size + 1) 67 i0 (.agg #[.string ⟨#[]⟩, .string ⟨#[]⟩, .int .i64 0]) 3 40 Tryz.underlying22 hi.out hz0.out hz1.out hz2.out rfl (by decide) (.slice A0 k c0) k ((insN k).flatMap declC) rfl hown3.out ⟨V1.heap.size, 0, none⟩ 1 1 [.string NM, .string ⟨#[76, 111]⟩, .int .i64 0] rfl rfl ?cc (fun u hu => by simp at hu; rcases hu with rfl | rfl | rfl <;> rfl) ?c4 ?c5 hbz.out ?_)
     case cc =>
       intro j u hj
       match j, hj with
       | 0, hj => cases hj; exact qaa _ _ 0 _ _ _ hx3.out
       | 1, hj => cases hj; exact qaa _ _ 1 _ _ _ hx3.out
       | 2, hj => cases hj; exact qaa _ _ 2 _ _ _ hx3.out
       | j + 3, hj => simp at hj
     case c4 => unfold maxLen; omega
     case c5 => omega
     . intro v7 w7 ho7 hg7 hnil7 hat7
       have hend := kend.out v7 w7 ho7 hg7 hat7
       have hbl := kblk.out w7 hg7
       have q7 : w7.cell? ⟨w1.heap.size, 0, none⟩ = some (.slice A0 k c0) := (World.cell?_of_block (a := ⟨w1.heap.size, 0, none⟩) hbl).trans qh.out
       have f7 : w7.frozen? ⟨w1.heap.size, 0, none⟩ = false := (World.frozen?_of_block (a := ⟨w1.heap.size, 0, none⟩) hbl).trans fh.out
       obtain ⟨A7, c7, rfl, _, _⟩ := qbe ho7
       replace hend := hid hend
       clear ho7 hg7 hat7 hnil7 hbl
       go_wp2_with fail
       go_roundw
       case rel => exact ⟨k + 1, by omega, by go_num, by rw [hnx.out], hend.out⟩
       case measure => simp [intOf]; omega
   . obtain rfl : k = K := by omega
     have hlen : (mP 0 k).ins.length = k := qdl k
     have hlenM : (manyP 0 k).ins.length = k := qdl k
     have hB5 := qfI hB (Nat.le_refl _)
     obtain ⟨IA, iA, CA, cA, FA, fA, rfl, rfl, rfl, hP⟩ := qhx hD (V := setB wr w1.heap.size) qhz (fun j hj => qfH hj) (TmV.leaf (setB wr w1.heap.size) _ (k := 1) (n := 0) (s := ⟨#[]⟩) (by decide))
     have hx5 := qhy hD.box
     have hbx := hD.box
     rw [hlen] at hx5 hbx
     replace hP : ProgAt (setB wr w1.heap.size) ⟨manyP 0 k, IA, iA, CA, cA, FA, fA, none, 0⟩ := hP
     have hX5 : Bp w [⟨⟨manyP 0 k, IA, iA, CA, cA, FA, fA, none, 0⟩, w1.heap.size⟩] (setB wr w1.heap.size) := ⟨hX.out.below.trans (hB5.mono hX.out.below.size), hX.out.env.later hB5, fun y hy => by
       rw [List.mem_singleton.1 hy]
       refine ⟨hP, ?_⟩
       dsimp only
       rw [hlenM]
       exact hx5⟩
     have hsm := qfG 0 k
     have hpt := qfz (k := 0) hK2
     have hS := qct (c := 0) (k := k) hK2
     rw [qbw] at hpt
     obtain ⟨S0, hS0⟩ : ∃ S0, X.strOf (manyS 0 k) = S0 := ⟨_, rfl⟩
     rw [hS0] at hS hpt ⊢
     have hs9 : (S0 ++ X.strOf [48]).size <= 65537 := by rw [ByteArray.size_append]; show S0.size + 1 <= _; omega
     obtain ⟨l, hl⟩ : ∃ l, [(⟨⟨manyP 0 k, IA, iA, CA, cA, FA, fA, none, 0⟩, w1.heap.size⟩ : PB)] = l := ⟨_, rfl⟩
     have mx : Hid ((⟨⟨manyP 0 k, IA, iA, CA, cA, FA, fA, none, 0⟩, w1.heap.size⟩ : PB) ∈ l) := by show _ ∈ l; rw [<- hl]; exact List.mem_cons_self ..
     rw [hl] at hX5
     have f3 := qac hbx 3
     have f4 := qac hbx 4
     have f5 := qac hbx 5
     have f6 := qac hbx 6
     have g3 := qaa _ _ 3 _ _ _ hbx
     have g4 := qaa _ _ 4 _ _ _ hbx
     have g5 := qaa _ _ 5 _ _ _ hbx
     have g6 := qaa _ _ 6 _ _ _ hbx
     have y1 : ¬ 9223372036854775807 < S0.size + 1 := by omega
     have hcX : Hid (∀ W, (∃ m, Bp w m W /\ (⟨⟨manyP 0 k, IA, iA, CA, cA, FA, fA, none, 0⟩, w1.heap.size⟩ : PB) ∈ m) -> W.heap[w1.heap.size]? = some (.cells #[Value.slice IA k iA, Value.slice CA 0 cA, Value.slice FA 0 fA, Value.int .i64 1, Value.string ⟨#[]⟩, Value.int .i64 0, Value.slice none 0 0] 28 (0, 0))) := fun W ⟨m, h, hm⟩ => by
       have a1 := (h.at_ _ hm).box
       dsimp only at a1
       rw [hlenM] at a1
       exact a1
     have kR : Hid (∀ W, (∃ m, Bp w m W /\ (⟨⟨manyP 0 k, IA, iA, CA, cA, FA, fA, none, 0⟩, w1.heap.size⟩ : PB) ∈ m) -> Calls Tryz.prog 17 #[.agg #[Value.slice IA k iA, Value.slice CA 0 cA, Value.slice FA 0 fA, Value.int .i64 1, Value.string ⟨#[]⟩, Value.int .i64 0, Value.slice none 0 0]] W fun e w' => e = .returned (.bool (qar (manyP 0 k))) /\ Below W.heap.size W w') := fun W ⟨m, h, hm⟩ => by
       have h9 := qby ⟨manyP 0 k, IA, iA, CA, cA, FA, fA, none, 0⟩ W h.env (h.at_ _ hm).ok hsm
       dsimp only at h9
       rw [hlenM] at h9
       exact h9
     obtain ⟨V5, hV5⟩ : ∃ W, setB wr w1.heap.size = W := ⟨_, rfl⟩
     rw [hV5] at hX5 hP hx5
     unfold setB at hV5
     replace hX5 := hid hX5
     replace hbx := hid hbx
     replace hx5 := hid hx5
     replace hP := hid hP
     replace hD := hid hD
     replace hB := hid hB
     replace hB5 := hid hB5
     replace hlen := hid hlen
     replace hS0 := hid hS0
     replace hl := hid hl
     clear hi hz0 hz1 hz2
     by_cases h32 : k <= 32
     . have hpq := hpt.1 h32
       have kp : Calls Tryz.prog 11 #[.string (S0 ++ X.strOf [48])] V5 fun e w' => ∃ IQ iQ CQ cQ FQ fQ BQ bQ, e = .returned (.tuple #[.agg #[Value.slice IQ k iQ, Value.slice CQ 0 cQ, Value.slice FQ 0 fQ, Value.int .i64 1, Value.string ⟨#[]⟩, Value.int .i64 0, Value.slice BQ 0 bQ], .int .i64 0]) /\ Below V5.heap.size V5 w' /\ ProgAt w' ⟨manyP 0 k, IQ, iQ, CQ, cQ, FQ, fQ, BQ, bQ⟩ := by
         have h9 := qeY hpq V5 hX5.out.env (by omega)
         rw [hlenM] at h9
         exact h9
       have h33 : ¬ (32 : Int) < k := by omega
       have ks : Hid (∀ W IQ iQ CQ cQ FQ fQ BQ bQ, (∃ m, Bp w m W /\ (⟨⟨manyP 0 k, IA, iA, CA, cA, FA, fA, none, 0⟩, w1.heap.size⟩ : PB) ∈ m /\ ∃ a, (⟨⟨manyP 0 k, IQ, iQ, CQ, cQ, FQ, fQ, BQ, bQ⟩, a⟩ : PB) ∈ m) -> Calls Tryz.prog 15 #[.agg #[Value.slice IQ k iQ, Value.slice CQ 0 cQ, Value.slice FQ 0 fQ, Value.int .i64 1, Value.string ⟨#[]⟩, Value.int .i64 0, Value.slice BQ 0 bQ], .agg #[Value.slice IA k iA, Value.slice CA 0 cA, Value.slice FA 0 fA, Value.int .i64 1, Value.string ⟨#[]⟩, Value.int .i64 0, Value.slice none 0 0]] W fun e w' => e = .returned (.bool true) /\ Below W.heap.size W w') := fun W IQ iQ CQ cQ FQ fQ BQ bQ ⟨m, h, hm, a, hq⟩ => by
         have h9 := qdO ⟨manyP 0 k, IQ, iQ, CQ, cQ, FQ, fQ, BQ, bQ⟩ ⟨manyP 0 k, IA, iA, CA, cA, FA, fA, none, 0⟩ W (h.at_ _ hq).ok (h.at_ _ hm).ok hsm
         dsimp only at h9
         rw [qbZ, hlenM] at h9
         exact h9
       rw [qfx h32] at kR
       replace kp := hid kp
       replace hpt := hid hpt
       replace hpq := hid hpq
       replace hlenM := hid hlenM
       replace hsm := hid hsm
       go_wp2_with fail
       refine kp.out.mono ?_
       rintro e w2 ⟨IQ, iQ, CQ, cQ, FQ, fQ, BQ, bQ, rfl, hb, hA⟩
       have hX := hid ((hX5.out.later hb).add _ hA)
       dsimp only at hX
       rw [hlenM.out] at hX
       obtain ⟨V6, hV6⟩ : ∃ W, w2.alloc (.cells #[Value.slice IQ k iQ, Value.slice CQ 0 cQ, Value.slice FQ 0 fQ, Value.int .i64 1, Value.string ⟨#[]⟩, Value.int .i64 0, Value.slice BQ 0 bQ] 28) = W := ⟨_, rfl⟩
       replace hX : Hid (Bp w (⟨⟨manyP 0 k, IQ, iQ, CQ, cQ, FQ, fQ, BQ, bQ⟩, w2.heap.size⟩ :: l) V6) := by rw [<- hV6]; exact hX
       clear hb hA kp hX5
       have hxX := hcX.out V6 ⟨_, hX.out, List.mem_cons_of_mem _ mx.out⟩
       have hxQ := (hX.out.at_ _ (List.mem_cons_self ..)).box
       dsimp only at hxQ
       rw [hlenM.out] at hxQ
       have x0 := qaa V6 w1.heap.size 0 _ _ _ hxX
       have x1 := qaa V6 w1.heap.size 1 _ _ _ hxX
       have x2 := qaa V6 w1.heap.size 2 _ _ _ hxX
       have x3 := qaa V6 w1.heap.size 3 _ _ _ hxX
       have x4 := qaa V6 w1.heap.size 4 _ _ _ hxX
       have x5 := qaa V6 w1.heap.size 5 _ _ _ hxX
       have x6 := qaa V6 w1.heap.size 6 _ _ _ hxX
       have q0 := qaa V6 w2.heap.size 0 _ _ _ hxQ
       have q1 := qaa V6 w2.heap.size 1 _ _ _ hxQ
       have q2 := qaa V6 w2.heap.size 2 _ _ _ hxQ
       have q3 := qaa V6 w2.heap.size 3 _ _ _ hxQ
       have q4 := qaa V6 w2.heap.size 4 _ _ _ hxQ
       have q5 := qaa V6 w2.heap.size 5 _ _ _ hxQ
       have q6 := qaa V6 w2.heap.size 6 _ _ _ hxQ
       replace hxX := hid hxX
       replace hxQ := hid hxQ
       go_wp2_with fail
       refine (ks.out V6 _ _ _ _ _ _ _ _ ⟨_, hX.out, List.mem_cons_of_mem _ mx.out, _, List.mem_cons_self ..⟩).mono ?_
       rintro e w3 ⟨rfl, hb⟩
       replace hV6 := hid hV6
       have hX7 := hid (hX.out.later hb)
       clear hb hX hxX hxQ
       clear x0 x1 x2 x3 x4 x5 x6
       clear q0 q1 q2 q3 q4 q5 q6
       have hxX := hcX.out w3 ⟨_, hX7.out, List.mem_cons_of_mem _ mx.out⟩
       have x0 := qaa w3 w1.heap.size 0 _ _ _ hxX
       have x1 := qaa w3 w1.heap.size 1 _ _ _ hxX
       have x2 := qaa w3 w1.heap.size 2 _ _ _ hxX
       have x3 := qaa w3 w1.heap.size 3 _ _ _ hxX
       have x4 := qaa w3 w1.heap.size 4 _ _ _ hxX
       have x5 := qaa w3 w1.heap.size 5 _ _ _ hxX
       have x6 := qaa w3 w1.heap.size 6 _ _ _ hxX
       replace hxX := hid hxX
       go_wp2_with fail
       refine (kR.out w3 ⟨_, hX7.out, List.mem_cons_of_mem _ mx.out⟩).mono ?_
       rintro e w4 ⟨rfl, hb⟩
       have hX8 := hid (hX7.out.later hb)
       clear hb
       go_wp2_with fail
       go_ret
       exact ⟨rfl, hX8.out.below⟩
     . have hpq := hpt.2 (by omega)
       have kp := hid (qda hpq V5 hX5.out.env (by omega))
       have h33 : (32 : Int) < k := by omega
       rw [qfy (by omega)] at kR
       replace hpt := hid hpt
       replace hpq := hid hpq
       replace hlenM := hid hlenM
       replace hsm := hid hsm
       go_wp2_with fail
       refine kp.out.mono ?_
       rintro e w2 ⟨rfl, hb⟩
       have hX := hid ((hX5.out.later hb).later (X.qab w2 (.cells #[.slice none 0 0, .slice none 0 0, .slice none 0 0, .int .i64 0, .string ⟨#[]⟩, .int .i64 0, .slice none 0 0] 28)))
       clear hb kp hX5
       have hxX := hcX.out _ ⟨_, hX.out, mx.out⟩
       have x0 := qaa _ w1.heap.size 0 _ _ _ hxX
       have x1 := qaa _ w1.heap.size 1 _ _ _ hxX
       have x2 := qaa _ w1.heap.size 2 _ _ _ hxX
       have x3 := qaa _ w1.heap.size 3 _ _ _ hxX
       have x4 := qaa _ w1.heap.size 4 _ _ _ hxX
       have x5 := qaa _ w1.heap.size 5 _ _ _ hxX
       have x6 := qaa _ w1.heap.size 6 _ _ _ hxX
       replace hxX := hid hxX
       have kr := hid (kR.out _ ⟨_, hX.out, mx.out⟩)
       go_wp2_with fail
       refine kr.out.mono ?_
       rintro e w4 ⟨rfl, hb⟩
       have hX8 := hid (hX.out.later hb)
       clear hb
       go_wp2_with fail
       go_ret
       exact ⟨rfl, hX8.out.below⟩
theorem qtr (n kd : Int) (w : World) (hE : EnvP w) (h1 : 0 <= n) (h2 : n <= 255) (h3 : 0 <= kd) (h4 : kd <= 255) (hc : kd % 3 = 1) :
   Calls Tryz.prog 8 #[.int .u8 n, .int .u8 kd] w fun e w' => e = .returned (.bool true) /\ Below w.heap.size w w' := by
 obtain ⟨i0, hi, hi2⟩ := Option.map_eq_some_iff.1 qhn
 obtain ⟨hz0, hz1, hz2⟩ : i0.zero = some (.agg #[.string ⟨#[]⟩, .string ⟨#[]⟩, .int .i64 0]) /\ i0.size = 3 /\ i0.bytes = 40 := by
   injection hi2 with h1 h2; injection h2 with h2 h3; exact ⟨h1, h2, h3⟩
 clear hi2
 replace hi := hid hi
 replace hz0 := hid hz0
 replace hz1 := hid hz1
 replace hz2 := hid hz2
 have hX := hid (Bp.new hE)
 clear hE
 obtain ⟨K, hK, hK1, hK2⟩ : ∃ K : Nat, 28 + n % 9 = (K : Int) /\ 28 <= K /\ K <= 36 := ⟨(28 + n % 9).toNat, by omega, by omega, by omega⟩
 have hK0 : IntKind.u8.wrap (n % 9) = n % 9 := by rw [IntKind.wrap_u8]; omega
 go_enter Tryz.func8, Tryz.ntmps8
 go_wp2_with fail
 refine (qcb _ hX.out.env).mono ?_
 rintro e w1 ⟨rfl, hb⟩
 replace hX := hid (hX.out.later hb)
 clear hb
 have hD0 := DrT.new 28 36 w1
 have hB0 := X.qab w1 (.cells #[.slice none 0 0, .slice none 0 0, .slice none 0 0, .int .i64 0, .string ⟨#[]⟩, .int .i64 0, .slice none 0 0] 28)
 obtain ⟨V0, hV0⟩ : ∃ W, w1.alloc (.cells #[.slice none 0 0, .slice none 0 0, .slice none 0 0, .int .i64 0, .string ⟨#[]⟩, .int .i64 0, .slice none 0 0] 28) = W := ⟨_, rfl⟩
 rw [hV0] at hD0 hB0
 replace hD0 := hid hD0
 replace hB0 := hid hB0
 go_wp2_with fail
 replace hV0 := hid hV0
 clear hK0 hK
 go_loopw [9, 7] (fun i9 s9 wr => ∃ k : Nat, k <= K /\ i9 = .int .i64 k /\ s9 = .string (X.strOf (manyS 1 k)) /\ Hid (DrTE 28 36 wr w1.heap.size (mP 1 k) /\ Below w1.heap.size w1 wr)) (fun i9 _ _ => K - (intOf i9).toNat)
 case atStart => exact ⟨0, Nat.zero_le _, rfl, rfl, ⟨_, _, _, _, hD0.out⟩, hB0.out⟩
 case round =>
   obtain ⟨k, hk, rfl, rfl, hI⟩ := hrel
   obtain ⟨⟨I, C, F, xs, hD⟩, hB⟩ := hI.out
   clear hI hD0 hB0
   by_cases hlt : k < K
   . have hlen : (mP 1 k).cells.length = k := qce k
     have hown := hD.oc
     rw [hlen] at hown
     obtain ⟨A0, c0, hA0⟩ := qaK hown
     rw [hA0] at hown
     have q0 : wr.cell? ⟨w1.heap.size, 1, none⟩ = some (.slice A0 k c0) := by rw [qaa _ _ 1 _ _ _ hD.box, <- hA0]; rfl
     have hf0 := qac hD.box 1
     have hcv := qiR wr (97 + k / 10) (48 + k % 10) (by omega) (by omega)
     obtain ⟨D2, hD2⟩ : ∃ D2 : ByteArray, ⟨#[UInt8.ofNat (97 + k / 10), UInt8.ofNat (48 + k % 10)]⟩ = D2 := ⟨_, rfl⟩
     have hNM := qpI k
     have hD2z : D2.size = 2 := by rw [<- hD2]; rfl
     rw [hD2] at hcv hNM
     have hb1 := X.qab wr (.cells #[.int .u8 ((97 + k / 10 : Nat) : Int), .int .u8 ((48 + k % 10 : Nat) : Int)] 5)
     have e1 : ((97 + k / 10 : Nat) : Int) = 97 + (k : Int) / 10 := by omega
     have e2 : ((48 + k % 10 : Nat) : Int) = 48 + (k : Int) % 10 := by omega
     rw [e1, e2] at hcv hb1
     have e3 : IntKind.u8.wrap ((k : Int) / 10) = (k : Int) / 10 := by rw [IntKind.wrap_u8]; omega
     have e4 : IntKind.u8.wrap ((k : Int) % 10) = (k : Int) % 10 := by rw [IntKind.wrap_u8]; omega
     have e5 : IntKind.u8.wrap (97 + (k : Int) / 10) = 97 + (k : Int) / 10 := by rw [IntKind.wrap_u8]; omega
     have e6 : IntKind.u8.wrap (48 + (k : Int) % 10) = 48 + (k : Int) % 10 := by rw [IntKind.wrap_u8]; omega
     have e7 : IntKind.u8.wrap (kd % 3) = kd % 3 := by rw [IntKind.wrap_u8]; omega
     obtain ⟨V1, hV1⟩ : ∃ W, wr.alloc (.cells #[.int .u8 (97 + (k : Int) / 10), .int .u8 (48 + (k : Int) % 10)] 5) = W := ⟨_, rfl⟩
     rw [hV1] at hcv hb1
     have hv1 : V1.heap.size = wr.heap.size + 1 := by rw [<- hV1]; simp
     have hS := qct (c := 1) (k := k) (by omega)
     have hnx := qsy k
     obtain ⟨S0, hS0⟩ : ∃ S0, X.strOf (manyS 1 k) = S0 := ⟨_, rfl⟩
     rw [hS0] at hS hnx ⊢
     rw [hNM] at hnx
     have hNz : (⟨#[118]⟩ ++ D2 : ByteArray).size = 3 := by rw [ByteArray.size_append, hD2z]; rfl
     obtain ⟨NM, hNM2⟩ : ∃ NM, (⟨#[118]⟩ ++ D2 : ByteArray) = NM := ⟨_, rfl⟩
     rw [hNM2] at hnx hNM hNz
     have y0 : ¬ 9223372036854775807 < 1 + D2.size := by omega
     have y1 : ¬ 9223372036854775807 < S0.size + 5 := by omega
     have y2 : ¬ 9223372036854775807 < S0.size + 5 + NM.size := by omega
     have y3 : ¬ 9223372036854775807 < S0.size + 5 + NM.size + 12 := by omega
     have hb2 := hb1.trans ((X.qab V1 (.cells #[.string NM, .string ⟨#[76, 111]⟩, .int .i64 3] 67)).mono hb1.size)
     have hx3 := World.alloc_heap_new V1 (.cells #[.string NM, .string ⟨#[76, 111]⟩, .int .i64 3] 67)
     obtain ⟨V3, hV3⟩ : ∃ W, V1.alloc (.cells #[.string NM, .string ⟨#[76, 111]⟩, .int .i64 3] 67) = W := ⟨_, rfl⟩
     rw [hV3] at hb2 hx3
     have hown3 := hid (qbX hown hb2)
     have hbz : Hid (w1.heap.size + 1 <= V3.heap.size) := by show _ <= _; have := hb2.size; have := hD.lt; omega
     have hlow : Hid (∀ g, (Value.slice A0 k c0).ownBlock = some g -> w1.heap.size < g) := fun g hg => (qaU hown hg).1
     have kend := hid (fun (v7 : Value) (w7 : World) (ho : w7.ownsRow (w1.heap.size + 1) 67 3 v7 (k + 1) ((qcB k).flatMap declC ++ [.string NM, .string ⟨#[76, 111]⟩, .int .i64 3])) (hg : V3.grownBy w7 (Value.slice A0 k c0).ownBlock) (hat : v7.ownBlock = (Value.slice A0 k c0).ownBlock ∨ v7.ownBlock = some V3.heap.size) => (show DrTE 28 36 (w7.setCell ⟨w1.heap.size, 1, none⟩ v7) w1.heap.size (mP 1 (k + 1)) /\ Below w1.heap.size w1 (w7.setCell ⟨w1.heap.size, 1, none⟩ v7) from by
       have hadd : Added w1.heap.size 1 67 3 C (mP 1 k).cells.length ((mP 1 k).cells.flatMap declC) (declC ⟨nmV k, loS, 3⟩) wr (w7.setCell ⟨w1.heap.size, 1, none⟩ v7) := by
         rw [hlen, hA0]
         rw [<- hNM] at ho
         exact ⟨V3, w7, v7, hb2, hg, ho, hat, rfl⟩
       obtain ⟨h8, h9, _⟩ := hD.addC (by rw [hlen]; omega) ⟨by show (nmV k).size <= _; rw [qlj]; decide, by show loS.size <= _; decide⟩ hadd
       have e9 : mP 1 (k + 1) = { mP 1 k with cells := (mP 1 k).cells ++ [⟨nmV k, loS, 3⟩] } := by rw [mP_1, qhw]; rfl
       rw [e9]
       exact ⟨h8, hB.trans h9⟩
       ))
     have kblk := hid (fun (w7 : World) (hg : V3.grownBy w7 (Value.slice A0 k c0).ownBlock) => (show w7.heap[w1.heap.size]? = wr.heap[w1.heap.size]? from (hg.block _ (by have := hb2.size; have := hD.lt; omega) (fun e => by have := hlow.out _ e.symm; omega)).trans (hb2.block _ hD.lt)))
     have qh := hid q0
     have fh := hid hf0
     replace hx3 := hid hx3
     replace hb1 := hid hb1
     replace hb2 := hid hb2
     replace hD := hid hD
     replace hB := hid hB
     replace hown := hid hown
     replace hA0 := hid hA0
     replace hnx := hid hnx
     replace hNM := hid hNM
     replace hD2 := hid hD2
     replace hS0 := hid hS0
     replace hv1 := hid hv1
     replace hlen := hid hlen
     clear e1 e2 hf0
     have q1 : V1.cell? ⟨w1.heap.size, 1, none⟩ = some (.slice A0 k c0) := (hb1.out.cell (p := ⟨w1.heap.size, 1, none⟩) hD.out.lt).trans q0
     clear q0
     rw [hc] at e7
     go_wp2_with (at_builtin; refine wpList_append_own_at _ rfl _ _ 22 rfl (w1.heap.size + 1) 67 i0 (.agg #[.string ⟨#[]⟩, .string ⟨#[]⟩, .int .i64 0]) 3 40 Tryz.underlying22 hi.out hz0.out hz1.out hz2.out rfl (by decide) (.slice A0 k c0) k ((qcB k).flatMap declC) rfl hown3.out ⟨V1.heap.size, 0, none⟩ 1 1 [.string NM, .string ⟨#[76, 111]⟩, .int .i64 3] rfl rfl ?cc (fun u hu => by simp at hu; rcases hu with rfl | rfl | rfl <;> rfl) ?c4 ?c5 hbz.out ?_)
     case cc =>
       intro j u hj
       match j, hj with
       | 0, hj => cases hj; exact qaa _ _ 0 _ _ _ hx3.out
       | 1, hj => cases hj; exact qaa _ _ 1 _ _ _ hx3.out
       | 2, hj => cases hj; exact qaa _ _ 2 _ _ _ hx3.out
       | j + 3, hj => simp at hj
     case c4 => unfold maxLen; omega
     case c5 => omega
     . intro v7 w7 ho7 hg7 hnil7 hat7
       have hend := kend.out v7 w7 ho7 hg7 hat7
       have hbl := kblk.out w7 hg7
       have q7 : w7.cell? ⟨w1.heap.size, 1, none⟩ = some (.slice A0 k c0) := (World.cell?_of_block (a := ⟨w1.heap.size, 1, none⟩) hbl).trans qh.out
       have f7 : w7.frozen? ⟨w1.heap.size, 1, none⟩ = false := (World.frozen?_of_block (a := ⟨w1.heap.size, 1, none⟩) hbl).trans fh.out
       obtain ⟨A7, c7, rfl, _, _⟩ := qbe ho7
       replace hend := hid hend
       clear ho7 hg7 hat7 hnil7 hbl
       go_wp2_with fail
       go_roundw
       case rel => exact ⟨k + 1, by omega, by go_num, by rw [hnx.out], hend.out⟩
       case measure => simp [intOf]; omega
   . obtain rfl : k = K := by omega
     have hlen : (mP 1 k).cells.length = k := qce k
     have hlenM : (manyP 1 k).cells.length = k := qce k
     have hB5 := qfI hB (Nat.le_refl _)
     obtain ⟨IA, iA, CA, cA, FA, fA, rfl, rfl, rfl, hP⟩ := qhx hD (V := setB wr w1.heap.size) qhz (fun j hj => qfH hj) (TmV.leaf (setB wr w1.heap.size) _ (k := 1) (n := 0) (s := ⟨#[]⟩) (by decide))
     have hx5 := qhy hD.box
     have hbx := hD.box
     rw [hlen] at hx5 hbx
     replace hP : ProgAt (setB wr w1.heap.size) ⟨manyP 1 k, IA, iA, CA, cA, FA, fA, none, 0⟩ := hP
     have hX5 : Bp w [⟨⟨manyP 1 k, IA, iA, CA, cA, FA, fA, none, 0⟩, w1.heap.size⟩] (setB wr w1.heap.size) := ⟨hX.out.below.trans (hB5.mono hX.out.below.size), hX.out.env.later hB5, fun y hy => by
       rw [List.mem_singleton.1 hy]
       refine ⟨hP, ?_⟩
       dsimp only
       rw [hlenM]
       exact hx5⟩
     have hsm := qfG 1 k
     have hpt := qfz (k := 1) hK2
     have hS := qct (c := 1) (k := k) hK2
     rw [qbw] at hpt
     obtain ⟨S0, hS0⟩ : ∃ S0, X.strOf (manyS 1 k) = S0 := ⟨_, rfl⟩
     rw [hS0] at hS hpt ⊢
     have hs9 : (S0 ++ X.strOf [48]).size <= 65537 := by rw [ByteArray.size_append]; show S0.size + 1 <= _; omega
     obtain ⟨l, hl⟩ : ∃ l, [(⟨⟨manyP 1 k, IA, iA, CA, cA, FA, fA, none, 0⟩, w1.heap.size⟩ : PB)] = l := ⟨_, rfl⟩
     have mx : Hid ((⟨⟨manyP 1 k, IA, iA, CA, cA, FA, fA, none, 0⟩, w1.heap.size⟩ : PB) ∈ l) := by show _ ∈ l; rw [<- hl]; exact List.mem_cons_self ..
     rw [hl] at hX5
     have f3 := qac hbx 3
     have f4 := qac hbx 4
     have f5 := qac hbx 5
     have f6 := qac hbx 6
     have g3 := qaa _ _ 3 _ _ _ hbx
     have g4 := qaa _ _ 4 _ _ _ hbx
     have g5 := qaa _ _ 5 _ _ _ hbx
     have g6 := qaa _ _ 6 _ _ _ hbx
     have y1 : ¬ 9223372036854775807 < S0.size + 1 := by omega
     have hcX : Hid (∀ W, (∃ m, Bp w m W /\ (⟨⟨manyP 1 k, IA, iA, CA, cA, FA, fA, none, 0⟩, w1.heap.size⟩ : PB) ∈ m) -> W.heap[w1.heap.size]? = some (.cells #[Value.slice IA 0 iA, Value.slice CA k cA, Value.slice FA 0 fA, Value.int .i64 1, Value.string ⟨#[]⟩, Value.int .i64 0, Value.slice none 0 0] 28 (0, 0))) := fun W ⟨m, h, hm⟩ => by
       have a1 := (h.at_ _ hm).box
       dsimp only at a1
       rw [hlenM] at a1
       exact a1
     have kR : Hid (∀ W, (∃ m, Bp w m W /\ (⟨⟨manyP 1 k, IA, iA, CA, cA, FA, fA, none, 0⟩, w1.heap.size⟩ : PB) ∈ m) -> Calls Tryz.prog 17 #[.agg #[Value.slice IA 0 iA, Value.slice CA k cA, Value.slice FA 0 fA, Value.int .i64 1, Value.string ⟨#[]⟩, Value.int .i64 0, Value.slice none 0 0]] W fun e w' => e = .returned (.bool (qar (manyP 1 k))) /\ Below W.heap.size W w') := fun W ⟨m, h, hm⟩ => by
       have h9 := qby ⟨manyP 1 k, IA, iA, CA, cA, FA, fA, none, 0⟩ W h.env (h.at_ _ hm).ok hsm
       dsimp only at h9
       rw [hlenM] at h9
       exact h9
     obtain ⟨V5, hV5⟩ : ∃ W, setB wr w1.heap.size = W := ⟨_, rfl⟩
     rw [hV5] at hX5 hP hx5
     unfold setB at hV5
     replace hX5 := hid hX5
     replace hbx := hid hbx
     replace hx5 := hid hx5
     replace hP := hid hP
     replace hD := hid hD
     replace hB := hid hB
     replace hB5 := hid hB5
     replace hlen := hid hlen
     replace hS0 := hid hS0
     replace hl := hid hl
     clear hi hz0 hz1 hz2
     by_cases h32 : k <= 32
     . have hpq := hpt.1 h32
       have kp : Calls Tryz.prog 11 #[.string (S0 ++ X.strOf [48])] V5 fun e w' => ∃ IQ iQ CQ cQ FQ fQ BQ bQ, e = .returned (.tuple #[.agg #[Value.slice IQ 0 iQ, Value.slice CQ k cQ, Value.slice FQ 0 fQ, Value.int .i64 1, Value.string ⟨#[]⟩, Value.int .i64 0, Value.slice BQ 0 bQ], .int .i64 0]) /\ Below V5.heap.size V5 w' /\ ProgAt w' ⟨manyP 1 k, IQ, iQ, CQ, cQ, FQ, fQ, BQ, bQ⟩ := by
         have h9 := qeY hpq V5 hX5.out.env (by omega)
         rw [hlenM] at h9
         exact h9
       have h33 : ¬ (32 : Int) < k := by omega
       have ks : Hid (∀ W IQ iQ CQ cQ FQ fQ BQ bQ, (∃ m, Bp w m W /\ (⟨⟨manyP 1 k, IA, iA, CA, cA, FA, fA, none, 0⟩, w1.heap.size⟩ : PB) ∈ m /\ ∃ a, (⟨⟨manyP 1 k, IQ, iQ, CQ, cQ, FQ, fQ, BQ, bQ⟩, a⟩ : PB) ∈ m) -> Calls Tryz.prog 15 #[.agg #[Value.slice IQ 0 iQ, Value.slice CQ k cQ, Value.slice FQ 0 fQ, Value.int .i64 1, Value.string ⟨#[]⟩, Value.int .i64 0, Value.slice BQ 0 bQ], .agg #[Value.slice IA 0 iA, Value.slice CA k cA, Value.slice FA 0 fA, Value.int .i64 1, Value.string ⟨#[]⟩, Value.int .i64 0, Value.slice none 0 0]] W fun e w' => e = .returned (.bool true) /\ Below W.heap.size W w') := fun W IQ iQ CQ cQ FQ fQ BQ bQ ⟨m, h, hm, a, hq⟩ => by
         have h9 := qdO ⟨manyP 1 k, IQ, iQ, CQ, cQ, FQ, fQ, BQ, bQ⟩ ⟨manyP 1 k, IA, iA, CA, cA, FA, fA, none, 0⟩ W (h.at_ _ hq).ok (h.at_ _ hm).ok hsm
         dsimp only at h9
         rw [qbZ, hlenM] at h9
         exact h9
       rw [qfx h32] at kR
       replace kp := hid kp
       replace hpt := hid hpt
       replace hpq := hid hpq
       replace hlenM := hid hlenM
       replace hsm := hid hsm
       go_wp2_with fail
       refine kp.out.mono ?_
       rintro e w2 ⟨IQ, iQ, CQ, cQ, FQ, fQ, BQ, bQ, rfl, hb, hA⟩
       have hX := hid ((hX5.out.later hb).add _ hA)
       dsimp only at hX
       rw [hlenM.out] at hX
       obtain ⟨V6, hV6⟩ : ∃ W, w2.alloc (.cells #[Value.slice IQ 0 iQ, Value.slice CQ k cQ, Value.slice FQ 0 fQ, Value.int .i64 1, Value.string ⟨#[]⟩, Value.int .i64 0, Value.slice BQ 0 bQ] 28) = W := ⟨_, rfl⟩
       replace hX : Hid (Bp w (⟨⟨manyP 1 k, IQ, iQ, CQ, cQ, FQ, fQ, BQ, bQ⟩, w2.heap.size⟩ :: l) V6) := by rw [<- hV6]; exact hX
       clear hb hA kp hX5
       have hxX := hcX.out V6 ⟨_, hX.out, List.mem_cons_of_mem _ mx.out⟩
       have hxQ := (hX.out.at_ _ (List.mem_cons_self ..)).box
       dsimp only at hxQ
       rw [hlenM.out] at hxQ
       have x0 := qaa V6 w1.heap.size 0 _ _ _ hxX
       have x1 := qaa V6 w1.heap.size 1 _ _ _ hxX
       have x2 := qaa V6 w1.heap.size 2 _ _ _ hxX
       have x3 := qaa V6 w1.heap.size 3 _ _ _ hxX
       have x4 := qaa V6 w1.heap.size 4 _ _ _ hxX
       have x5 := qaa V6 w1.heap.size 5 _ _ _ hxX
       have x6 := qaa V6 w1.heap.size 6 _ _ _ hxX
       have q0 := qaa V6 w2.heap.size 0 _ _ _ hxQ
       have q1 := qaa V6 w2.heap.size 1 _ _ _ hxQ
       have q2 := qaa V6 w2.heap.size 2 _ _ _ hxQ
       have q3 := qaa V6 w2.heap.size 3 _ _ _ hxQ
       have q4 := qaa V6 w2.heap.size 4 _ _ _ hxQ
       have q5 := qaa V6 w2.heap.size 5 _ _ _ hxQ
       have q6 := qaa V6 w2.heap.size 6 _ _ _ hxQ
       replace hxX := hid hxX
       replace hxQ := hid hxQ
       go_wp2_with fail
       refine (ks.out V6 _ _ _ _ _ _ _ _ ⟨_, hX.out, List.mem_cons_of_mem _ mx.out, _, List.mem_cons_self ..⟩).mono ?_
       rintro e w3 ⟨rfl, hb⟩
       replace hV6 := hid hV6
       have hX7 := hid (hX.out.later hb)
       clear hb hX hxX hxQ
       clear x0 x1 x2 x3 x4 x5 x6
       clear q0 q1 q2 q3 q4 q5 q6
       have hxX := hcX.out w3 ⟨_, hX7.out, List.mem_cons_of_mem _ mx.out⟩
       have x0 := qaa w3 w1.heap.size 0 _ _ _ hxX
       have x1 := qaa w3 w1.heap.size 1 _ _ _ hxX
       have x2 := qaa w3 w1.heap.size 2 _ _ _ hxX
       have x3 := qaa w3 w1.heap.size 3 _ _ _ hxX
       have x4 := qaa w3 w1.heap.size 4 _ _ _ hxX
       have x5 := qaa w3 w1.heap.size 5 _ _ _ hxX
       have x6 := qaa w3 w1.heap.size 6 _ _ _ hxX
       replace hxX := hid hxX
       go_wp2_with fail
       refine (kR.out w3 ⟨_, hX7.out, List.mem_cons_of_mem _ mx.out⟩).mono ?_
       rintro e w4 ⟨rfl, hb⟩
       have hX8 := hid (hX7.out.later hb)
       clear hb
       go_wp2_with fail
       go_ret
       exact ⟨rfl, hX8.out.below⟩
     . have hpq := hpt.2 (by omega)
       have kp := hid (qda hpq V5 hX5.out.env (by omega))
       have h33 : (32 : Int) < k := by omega
       rw [qfy (by omega)] at kR
       replace hpt := hid hpt
       replace hpq := hid hpq
       replace hlenM := hid hlenM
       replace hsm := hid hsm
       go_wp2_with fail
       refine kp.out.mono ?_
       rintro e w2 ⟨rfl, hb⟩
       have hX := hid ((hX5.out.later hb).later (X.qab w2 (.cells #[.slice none 0 0, .slice none 0 0, .slice none 0 0, .int .i64 0, .string ⟨#[]⟩, .int .i64 0, .slice none 0 0] 28)))
       clear hb kp hX5
       have hxX := hcX.out _ ⟨_, hX.out, mx.out⟩
       have x0 := qaa _ w1.heap.size 0 _ _ _ hxX
       have x1 := qaa _ w1.heap.size 1 _ _ _ hxX
       have x2 := qaa _ w1.heap.size 2 _ _ _ hxX
       have x3 := qaa _ w1.heap.size 3 _ _ _ hxX
       have x4 := qaa _ w1.heap.size 4 _ _ _ hxX
       have x5 := qaa _ w1.heap.size 5 _ _ _ hxX
       have x6 := qaa _ w1.heap.size 6 _ _ _ hxX
       replace hxX := hid hxX
       have kr := hid (kR.out _ ⟨_, hX.out, mx.out⟩)
       go_wp2_with fail
       refine kr.out.mono ?_
       rintro e w4 ⟨rfl, hb⟩
       have hX8 := hid (hX.out.later hb)
       clear hb
       go_wp2_with fail
       go_ret
       exact ⟨rfl, hX8.out.below⟩
theorem qts (n kd : Int) (w : World) (hE : EnvP w) (h1 : 0 <= n) (h2 : n <= 255) (h3 : 0 <= kd) (h4 : kd <= 255) (hc : kd % 3 = 2) :
   Calls Tryz.prog 8 #[.int .u8 n, .int .u8 kd] w fun e w' => e = .returned (.bool true) /\ Below w.heap.size w w' := by
 obtain ⟨i0, hi, hi2⟩ := Option.map_eq_some_iff.1 qmj
 obtain ⟨hz0, hz1, hz2⟩ : i0.zero = some (.agg #[.string ⟨#[]⟩, .int .i64 0, .string ⟨#[]⟩, .int .i64 0, .slice none 0 0]) /\ i0.size = 5 /\ i0.bytes = 72 := by
   injection hi2 with h1 h2; injection h2 with h2 h3; exact ⟨h1, h2, h3⟩
 clear hi2
 replace hi := hid hi
 replace hz0 := hid hz0
 replace hz1 := hid hz1
 replace hz2 := hid hz2
 have hX := hid (Bp.new hE)
 clear hE
 obtain ⟨K, hK, hK1, hK2⟩ : ∃ K : Nat, 28 + n % 9 = (K : Int) /\ 28 <= K /\ K <= 36 := ⟨(28 + n % 9).toNat, by omega, by omega, by omega⟩
 have hK0 : IntKind.u8.wrap (n % 9) = n % 9 := by rw [IntKind.wrap_u8]; omega
 go_enter Tryz.func8, Tryz.ntmps8
 go_wp2_with fail
 refine (qcb _ hX.out.env).mono ?_
 rintro e w1 ⟨rfl, hb⟩
 replace hX := hid (hX.out.later hb)
 clear hb
 have hD0 := DrT.new 28 36 w1
 have hB0 := X.qab w1 (.cells #[.slice none 0 0, .slice none 0 0, .slice none 0 0, .int .i64 0, .string ⟨#[]⟩, .int .i64 0, .slice none 0 0] 28)
 obtain ⟨V0, hV0⟩ : ∃ W, w1.alloc (.cells #[.slice none 0 0, .slice none 0 0, .slice none 0 0, .int .i64 0, .string ⟨#[]⟩, .int .i64 0, .slice none 0 0] 28) = W := ⟨_, rfl⟩
 rw [hV0] at hD0 hB0
 replace hD0 := hid hD0
 replace hB0 := hid hB0
 go_wp2_with fail
 replace hV0 := hid hV0
 clear hK0 hK
 go_loopw [9, 7] (fun i9 s9 wr => ∃ k : Nat, k <= K /\ i9 = .int .i64 k /\ s9 = .string (X.strOf (manyS 2 k)) /\ Hid (DrTE 28 36 wr w1.heap.size (mP 2 k) /\ Below w1.heap.size w1 wr)) (fun i9 _ _ => K - (intOf i9).toNat)
 case atStart => exact ⟨0, Nat.zero_le _, rfl, rfl, ⟨_, _, _, _, hD0.out⟩, hB0.out⟩
 case round =>
   obtain ⟨k, hk, rfl, rfl, hI⟩ := hrel
   obtain ⟨⟨I, C, F, xs, hD⟩, hB⟩ := hI.out
   clear hI hD0 hB0
   by_cases hlt : k < K
   . have hlen : (mP 2 k).defs.length = k := qcC k
     have hown := hD.of_
     rw [hlen] at hown
     obtain ⟨A0, c0, hA0⟩ := qaK hown
     rw [hA0] at hown
     have q0 : wr.cell? ⟨w1.heap.size, 2, none⟩ = some (.slice A0 k c0) := by rw [qaa _ _ 2 _ _ _ hD.box, <- hA0]; rfl
     have hf0 := qac hD.box 2
     have hcv := qiR wr (97 + k / 10) (48 + k % 10) (by omega) (by omega)
     obtain ⟨D2, hD2⟩ : ∃ D2 : ByteArray, ⟨#[UInt8.ofNat (97 + k / 10), UInt8.ofNat (48 + k % 10)]⟩ = D2 := ⟨_, rfl⟩
     have hNM := qpI k
     have hD2z : D2.size = 2 := by rw [<- hD2]; rfl
     rw [hD2] at hcv hNM
     have hb1 := X.qab wr (.cells #[.int .u8 ((97 + k / 10 : Nat) : Int), .int .u8 ((48 + k % 10 : Nat) : Int)] 5)
     have e1 : ((97 + k / 10 : Nat) : Int) = 97 + (k : Int) / 10 := by omega
     have e2 : ((48 + k % 10 : Nat) : Int) = 48 + (k : Int) % 10 := by omega
     rw [e1, e2] at hcv hb1
     have e3 : IntKind.u8.wrap ((k : Int) / 10) = (k : Int) / 10 := by rw [IntKind.wrap_u8]; omega
     have e4 : IntKind.u8.wrap ((k : Int) % 10) = (k : Int) % 10 := by rw [IntKind.wrap_u8]; omega
     have e5 : IntKind.u8.wrap (97 + (k : Int) / 10) = 97 + (k : Int) / 10 := by rw [IntKind.wrap_u8]; omega
     have e6 : IntKind.u8.wrap (48 + (k : Int) % 10) = 48 + (k : Int) % 10 := by rw [IntKind.wrap_u8]; omega
     have e7 : IntKind.u8.wrap (kd % 3) = kd % 3 := by rw [IntKind.wrap_u8]; omega
     obtain ⟨V1, hV1⟩ : ∃ W, wr.alloc (.cells #[.int .u8 (97 + (k : Int) / 10), .int .u8 (48 + (k : Int) % 10)] 5) = W := ⟨_, rfl⟩
     rw [hV1] at hcv hb1
     have hv1 : V1.heap.size = wr.heap.size + 1 := by rw [<- hV1]; simp
     have hS := qct (c := 2) (k := k) (by omega)
     have hnx := qsz k
     obtain ⟨S0, hS0⟩ : ∃ S0, X.strOf (manyS 2 k) = S0 := ⟨_, rfl⟩
     rw [hS0] at hS hnx ⊢
     rw [hNM] at hnx
     have hNz : (⟨#[118]⟩ ++ D2 : ByteArray).size = 3 := by rw [ByteArray.size_append, hD2z]; rfl
     obtain ⟨NM, hNM2⟩ : ∃ NM, (⟨#[118]⟩ ++ D2 : ByteArray) = NM := ⟨_, rfl⟩
     rw [hNM2] at hnx hNM hNz
     have y0 : ¬ 9223372036854775807 < 1 + D2.size := by omega
     have y1 : ¬ 9223372036854775807 < S0.size + 4 := by omega
     have y2 : ¬ 9223372036854775807 < S0.size + 4 + NM.size := by omega
     have y3 : ¬ 9223372036854775807 < S0.size + 4 + NM.size + 16 := by omega
     have hbk := hb1.trans ((X.qab V1 (.cells #[.int .i64 2, .string ⟨#[120]⟩, .int .i64 0, .slice none 0 0] 26)).mono hb1.size)
     have hxk := World.alloc_heap_new V1 (.cells #[.int .i64 2, .string ⟨#[120]⟩, .int .i64 0, .slice none 0 0] 26)
     obtain ⟨V2, hV2⟩ : ∃ W, V1.alloc (.cells #[.int .i64 2, .string ⟨#[120]⟩, .int .i64 0, .slice none 0 0] 26) = W := ⟨_, rfl⟩
     rw [hV2] at hbk hxk
     have hv2 : V2.heap.size = wr.heap.size + 1 + 1 := by rw [<- hV2, World.size_alloc, hv1]
     have hb2 := X.qab V2 (.cells #[.string NM, .int .i64 3, .string ⟨#[120]⟩, .int .i64 0, .slice (some ⟨V1.heap.size, 0, none⟩) 1 1] 60)
     have hx3 := World.alloc_heap_new V2 (.cells #[.string NM, .int .i64 3, .string ⟨#[120]⟩, .int .i64 0, .slice (some ⟨V1.heap.size, 0, none⟩) 1 1] 60)
     obtain ⟨V3, hV3⟩ : ∃ W, V2.alloc (.cells #[.string NM, .int .i64 3, .string ⟨#[120]⟩, .int .i64 0, .slice (some ⟨V1.heap.size, 0, none⟩) 1 1] 60) = W := ⟨_, rfl⟩
     rw [hV3] at hb2 hx3
     have hD2w := hD.later hbk
     have hkid : TmV V2 (FarB V2 w1.heap.size I C F) idT (some ⟨V1.heap.size, 0, none⟩) 1 := by
       refine ⟨by decide, .inr ⟨_, _, rfl, ?_⟩⟩
       show RowAt V2 _ V1.heap.size 0 [.node 2 xS 0 []]
       rw [RowAt, RowAt]
       refine ⟨qpu (A := none) (c := 0) ⟨by have := hD.lt; omega, by omega, fun e => by have := (qaU hD.oi e).2; omega, fun e => by have := (qaU hD.oc e).2; omega, fun e => by have := (qaU hD.of_ e).2; omega⟩ (qaa _ _ 0 _ _ _ hxk) (qaa _ _ 1 _ _ _ hxk) (qaa _ _ 2 _ _ _ hxk) (qaa _ _ 3 _ _ _ hxk) (TmV.leaf _ _ (by decide)), trivial⟩
     replace hkid := hid hkid
     replace hD2w := hid hD2w
     replace hbk := hid hbk
     replace hxk := hid hxk
     have hown3 := hid (qbX (qbX hown hbk.out) hb2)
     have hbz : Hid (w1.heap.size + 1 <= V3.heap.size) := by show _ <= _; have := hb2.size; have := hD.lt; omega
     have hlow : Hid (∀ g, (Value.slice A0 k c0).ownBlock = some g -> w1.heap.size < g) := fun g hg => (qaU hown hg).1
     have kend := hid (fun (v7 : Value) (w7 : World) (ho : w7.ownsRow (w1.heap.size + 1) 60 5 v7 (k + 1) (xs.flatMap defC ++ [.string NM, .int .i64 3, .string ⟨#[120]⟩, .int .i64 0, .slice (some ⟨V1.heap.size, 0, none⟩) 1 1])) (hg : V3.grownBy w7 (Value.slice A0 k c0).ownBlock) (hat : v7.ownBlock = (Value.slice A0 k c0).ownBlock ∨ v7.ownBlock = some V3.heap.size) => (show DrTE 28 36 (w7.setCell ⟨w1.heap.size, 2, none⟩ v7) w1.heap.size (mP 2 (k + 1)) /\ Below w1.heap.size w1 (w7.setCell ⟨w1.heap.size, 2, none⟩ v7) from by
       have hadd : Added w1.heap.size 2 60 5 F (mP 2 k).defs.length (xs.flatMap defC) (defC (⟨nmV k, idT⟩, some ⟨V1.heap.size, 0, none⟩, 1)) V2 (w7.setCell ⟨w1.heap.size, 2, none⟩ v7) := by
         rw [hlen, hA0]
         rw [<- hNM] at ho
         exact ⟨V3, w7, v7, hb2, hg, ho, hat, rfl⟩
       obtain ⟨h8, h9, _⟩ := hD2w.out.addF (x := (⟨nmV k, idT⟩, some ⟨V1.heap.size, 0, none⟩, 1)) (by rw [hlen]; omega) (by show (nmV k).size <= _; rw [qlj]; decide) hkid.out hadd
       have e9 : mP 2 (k + 1) = { mP 2 k with defs := (mP 2 k).defs ++ [⟨nmV k, idT⟩] } := by rw [mP_2, qih]; rfl
       rw [e9]
       exact ⟨h8, hB.trans ((hbk.out.mono (Nat.le_of_lt hD.lt)).trans h9)⟩
       ))
     have kblk := hid (fun (w7 : World) (hg : V3.grownBy w7 (Value.slice A0 k c0).ownBlock) => (show w7.heap[w1.heap.size]? = wr.heap[w1.heap.size]? from (hg.block _ (by have := hb2.size; have := hD.lt; omega) (fun e => by have := hlow.out _ e.symm; omega)).trans ((hb2.block _ (by have := hD.lt; omega)).trans (hbk.out.block _ hD.lt))))
     have qh := hid q0
     have fh := hid hf0
     replace hx3 := hid hx3
     replace hb1 := hid hb1
     replace hb2 := hid hb2
     replace hD := hid hD
     replace hB := hid hB
     replace hown := hid hown
     replace hA0 := hid hA0
     replace hnx := hid hnx
     replace hNM := hid hNM
     replace hD2 := hid hD2
     replace hS0 := hid hS0
     replace hv1 := hid hv1
     replace hv2 := hid hv2
     replace hlen := hid hlen
     clear e1 e2 hf0
     have q1 : V1.cell? ⟨w1.heap.size, 2, none⟩ = some (.slice A0 k c0) := (hb1.out.cell (p := ⟨w1.heap.size, 2, none⟩) hD.out.lt).trans q0
     clear q0
     rw [hc] at e7
     go_wp2_with (at_builtin; refine wpList_append_own_at _ rfl _ _ 23 rfl (w1.heap.size + 1) 60 i0 (.agg #[.string ⟨#[]⟩, .int .i64 0, .string ⟨#[]⟩, .int .i64 0, .slice none 0 0]) 5 72 Tryz.underlying23 hi.out hz0.out hz1.out hz2.out rfl (by decide) (.slice A0 k c0) k (xs.flatMap defC) rfl hown3.out ⟨V2.heap.size, 0, none⟩ 1 1 [.string NM, .int .i64 3, .string ⟨#[120]⟩, .int .i64 0, .slice (some ⟨V1.heap.size, 0, none⟩) 1 1] rfl rfl ?cc (fun u hu => by simp at hu; rcases hu with rfl | rfl | rfl | rfl | rfl <;> rfl) ?c4 ?c5 hbz.out ?_)
     case cc =>
       intro j u hj
       match j, hj with
       | 0, hj => cases hj; exact qaa _ _ 0 _ _ _ hx3.out
       | 1, hj => cases hj; exact qaa _ _ 1 _ _ _ hx3.out
       | 2, hj => cases hj; exact qaa _ _ 2 _ _ _ hx3.out
       | 3, hj => cases hj; exact qaa _ _ 3 _ _ _ hx3.out
       | 4, hj => cases hj; exact qaa _ _ 4 _ _ _ hx3.out
       | j + 5, hj => simp at hj
     case c4 => unfold maxLen; omega
     case c5 => omega
     . intro v7 w7 ho7 hg7 hnil7 hat7
       have hend := kend.out v7 w7 ho7 hg7 hat7
       have hbl := kblk.out w7 hg7
       have q7 : w7.cell? ⟨w1.heap.size, 2, none⟩ = some (.slice A0 k c0) := (World.cell?_of_block (a := ⟨w1.heap.size, 2, none⟩) hbl).trans qh.out
       have f7 : w7.frozen? ⟨w1.heap.size, 2, none⟩ = false := (World.frozen?_of_block (a := ⟨w1.heap.size, 2, none⟩) hbl).trans fh.out
       obtain ⟨A7, c7, rfl, _, _⟩ := qbe ho7
       replace hend := hid hend
       clear ho7 hg7 hat7 hnil7 hbl
       go_wp2_with fail
       go_roundw
       case rel => exact ⟨k + 1, by omega, by go_num, by rw [hnx.out], hend.out⟩
       case measure => simp [intOf]; omega
   . obtain rfl : k = K := by omega
     have hlen : (mP 2 k).defs.length = k := qcC k
     have hlenM : (manyP 2 k).defs.length = k := qcC k
     have hB5 := qfI hB (Nat.le_refl _)
     obtain ⟨IA, iA, CA, cA, FA, fA, rfl, rfl, rfl, hP⟩ := qhx hD (V := setB wr w1.heap.size) qhz (fun j hj => qfH hj) (TmV.leaf (setB wr w1.heap.size) _ (k := 1) (n := 0) (s := ⟨#[]⟩) (by decide))
     have hx5 := qhy hD.box
     have hbx := hD.box
     rw [hlen] at hx5 hbx
     replace hP : ProgAt (setB wr w1.heap.size) ⟨manyP 2 k, IA, iA, CA, cA, FA, fA, none, 0⟩ := hP
     have hX5 : Bp w [⟨⟨manyP 2 k, IA, iA, CA, cA, FA, fA, none, 0⟩, w1.heap.size⟩] (setB wr w1.heap.size) := ⟨hX.out.below.trans (hB5.mono hX.out.below.size), hX.out.env.later hB5, fun y hy => by
       rw [List.mem_singleton.1 hy]
       refine ⟨hP, ?_⟩
       dsimp only
       rw [hlenM]
       exact hx5⟩
     have hsm := qfG 2 k
     have hpt := qfz (k := 2) hK2
     have hS := qct (c := 2) (k := k) hK2
     rw [qbw] at hpt
     obtain ⟨S0, hS0⟩ : ∃ S0, X.strOf (manyS 2 k) = S0 := ⟨_, rfl⟩
     rw [hS0] at hS hpt ⊢
     have hs9 : (S0 ++ X.strOf [48]).size <= 65537 := by rw [ByteArray.size_append]; show S0.size + 1 <= _; omega
     obtain ⟨l, hl⟩ : ∃ l, [(⟨⟨manyP 2 k, IA, iA, CA, cA, FA, fA, none, 0⟩, w1.heap.size⟩ : PB)] = l := ⟨_, rfl⟩
     have mx : Hid ((⟨⟨manyP 2 k, IA, iA, CA, cA, FA, fA, none, 0⟩, w1.heap.size⟩ : PB) ∈ l) := by show _ ∈ l; rw [<- hl]; exact List.mem_cons_self ..
     rw [hl] at hX5
     have f3 := qac hbx 3
     have f4 := qac hbx 4
     have f5 := qac hbx 5
     have f6 := qac hbx 6
     have g3 := qaa _ _ 3 _ _ _ hbx
     have g4 := qaa _ _ 4 _ _ _ hbx
     have g5 := qaa _ _ 5 _ _ _ hbx
     have g6 := qaa _ _ 6 _ _ _ hbx
     have y1 : ¬ 9223372036854775807 < S0.size + 1 := by omega
     have hcX : Hid (∀ W, (∃ m, Bp w m W /\ (⟨⟨manyP 2 k, IA, iA, CA, cA, FA, fA, none, 0⟩, w1.heap.size⟩ : PB) ∈ m) -> W.heap[w1.heap.size]? = some (.cells #[Value.slice IA 0 iA, Value.slice CA 0 cA, Value.slice FA k fA, Value.int .i64 1, Value.string ⟨#[]⟩, Value.int .i64 0, Value.slice none 0 0] 28 (0, 0))) := fun W ⟨m, h, hm⟩ => by
       have a1 := (h.at_ _ hm).box
       dsimp only at a1
       rw [hlenM] at a1
       exact a1
     have kR : Hid (∀ W, (∃ m, Bp w m W /\ (⟨⟨manyP 2 k, IA, iA, CA, cA, FA, fA, none, 0⟩, w1.heap.size⟩ : PB) ∈ m) -> Calls Tryz.prog 17 #[.agg #[Value.slice IA 0 iA, Value.slice CA 0 cA, Value.slice FA k fA, Value.int .i64 1, Value.string ⟨#[]⟩, Value.int .i64 0, Value.slice none 0 0]] W fun e w' => e = .returned (.bool (qar (manyP 2 k))) /\ Below W.heap.size W w') := fun W ⟨m, h, hm⟩ => by
       have h9 := qby ⟨manyP 2 k, IA, iA, CA, cA, FA, fA, none, 0⟩ W h.env (h.at_ _ hm).ok hsm
       dsimp only at h9
       rw [hlenM] at h9
       exact h9
     obtain ⟨V5, hV5⟩ : ∃ W, setB wr w1.heap.size = W := ⟨_, rfl⟩
     rw [hV5] at hX5 hP hx5
     unfold setB at hV5
     replace hX5 := hid hX5
     replace hbx := hid hbx
     replace hx5 := hid hx5
     replace hP := hid hP
     replace hD := hid hD
     replace hB := hid hB
     replace hB5 := hid hB5
     replace hlen := hid hlen
     replace hS0 := hid hS0
     replace hl := hid hl
     clear hi hz0 hz1 hz2
     by_cases h32 : k <= 32
     . have hpq := hpt.1 h32
       have kp : Calls Tryz.prog 11 #[.string (S0 ++ X.strOf [48])] V5 fun e w' => ∃ IQ iQ CQ cQ FQ fQ BQ bQ, e = .returned (.tuple #[.agg #[Value.slice IQ 0 iQ, Value.slice CQ 0 cQ, Value.slice FQ k fQ, Value.int .i64 1, Value.string ⟨#[]⟩, Value.int .i64 0, Value.slice BQ 0 bQ], .int .i64 0]) /\ Below V5.heap.size V5 w' /\ ProgAt w' ⟨manyP 2 k, IQ, iQ, CQ, cQ, FQ, fQ, BQ, bQ⟩ := by
         have h9 := qeY hpq V5 hX5.out.env (by omega)
         rw [hlenM] at h9
         exact h9
       have h33 : ¬ (32 : Int) < k := by omega
       have ks : Hid (∀ W IQ iQ CQ cQ FQ fQ BQ bQ, (∃ m, Bp w m W /\ (⟨⟨manyP 2 k, IA, iA, CA, cA, FA, fA, none, 0⟩, w1.heap.size⟩ : PB) ∈ m /\ ∃ a, (⟨⟨manyP 2 k, IQ, iQ, CQ, cQ, FQ, fQ, BQ, bQ⟩, a⟩ : PB) ∈ m) -> Calls Tryz.prog 15 #[.agg #[Value.slice IQ 0 iQ, Value.slice CQ 0 cQ, Value.slice FQ k fQ, Value.int .i64 1, Value.string ⟨#[]⟩, Value.int .i64 0, Value.slice BQ 0 bQ], .agg #[Value.slice IA 0 iA, Value.slice CA 0 cA, Value.slice FA k fA, Value.int .i64 1, Value.string ⟨#[]⟩, Value.int .i64 0, Value.slice none 0 0]] W fun e w' => e = .returned (.bool true) /\ Below W.heap.size W w') := fun W IQ iQ CQ cQ FQ fQ BQ bQ ⟨m, h, hm, a, hq⟩ => by
         have h9 := qdO ⟨manyP 2 k, IQ, iQ, CQ, cQ, FQ, fQ, BQ, bQ⟩ ⟨manyP 2 k, IA, iA, CA, cA, FA, fA, none, 0⟩ W (h.at_ _ hq).ok (h.at_ _ hm).ok hsm
         dsimp only at h9
         rw [qbZ, hlenM] at h9
         exact h9
       rw [qfx h32] at kR
       replace kp := hid kp
       replace hpt := hid hpt
       replace hpq := hid hpq
       replace hlenM := hid hlenM
       replace hsm := hid hsm
       go_wp2_with fail
       refine kp.out.mono ?_
       rintro e w2 ⟨IQ, iQ, CQ, cQ, FQ, fQ, BQ, bQ, rfl, hb, hA⟩
       have hX := hid ((hX5.out.later hb).add _ hA)
       dsimp only at hX
       rw [hlenM.out] at hX
       obtain ⟨V6, hV6⟩ : ∃ W, w2.alloc (.cells #[Value.slice IQ 0 iQ, Value.slice CQ 0 cQ, Value.slice FQ k fQ, Value.int .i64 1, Value.string ⟨#[]⟩, Value.int .i64 0, Value.slice BQ 0 bQ] 28) = W := ⟨_, rfl⟩
       replace hX : Hid (Bp w (⟨⟨manyP 2 k, IQ, iQ, CQ, cQ, FQ, fQ, BQ, bQ⟩, w2.heap.size⟩ :: l) V6) := by rw [<- hV6]; exact hX
       clear hb hA kp hX5
       have hxX := hcX.out V6 ⟨_, hX.out, List.mem_cons_of_mem _ mx.out⟩
       have hxQ := (hX.out.at_ _ (List.mem_cons_self ..)).box
       dsimp only at hxQ
       rw [hlenM.out] at hxQ
       have x0 := qaa V6 w1.heap.size 0 _ _ _ hxX
       have x1 := qaa V6 w1.heap.size 1 _ _ _ hxX
       have x2 := qaa V6 w1.heap.size 2 _ _ _ hxX
       have x3 := qaa V6 w1.heap.size 3 _ _ _ hxX
       have x4 := qaa V6 w1.heap.size 4 _ _ _ hxX
       have x5 := qaa V6 w1.heap.size 5 _ _ _ hxX
       have x6 := qaa V6 w1.heap.size 6 _ _ _ hxX
       have q0 := qaa V6 w2.heap.size 0 _ _ _ hxQ
       have q1 := qaa V6 w2.heap.size 1 _ _ _ hxQ
       have q2 := qaa V6 w2.heap.size 2 _ _ _ hxQ
       have q3 := qaa V6 w2.heap.size 3 _ _ _ hxQ
       have q4 := qaa V6 w2.heap.size 4 _ _ _ hxQ
       have q5 := qaa V6 w2.heap.size 5 _ _ _ hxQ
       have q6 := qaa V6 w2.heap.size 6 _ _ _ hxQ
       replace hxX := hid hxX
       replace hxQ := hid hxQ
       go_wp2_with fail
       refine (ks.out V6 _ _ _ _ _ _ _ _ ⟨_, hX.out, List.mem_cons_of_mem _ mx.out, _, List.mem_cons_self ..⟩).mono ?_
       rintro e w3 ⟨rfl, hb⟩
       replace hV6 := hid hV6
       have hX7 := hid (hX.out.later hb)
       clear hb hX hxX hxQ
       clear x0 x1 x2 x3 x4 x5 x6
       clear q0 q1 q2 q3 q4 q5 q6
       have hxX := hcX.out w3 ⟨_, hX7.out, List.mem_cons_of_mem _ mx.out⟩
       have x0 := qaa w3 w1.heap.size 0 _ _ _ hxX
       have x1 := qaa w3 w1.heap.size 1 _ _ _ hxX
       have x2 := qaa w3 w1.heap.size 2 _ _ _ hxX
       have x3 := qaa w3 w1.heap.size 3 _ _ _ hxX
       have x4 := qaa w3 w1.heap.size 4 _ _ _ hxX
       have x5 := qaa w3 w1.heap.size 5 _ _ _ hxX
       have x6 := qaa w3 w1.heap.size 6 _ _ _ hxX
       replace hxX := hid hxX
       go_wp2_with fail
       refine (kR.out w3 ⟨_, hX7.out, List.mem_cons_of_mem _ mx.out⟩).mono ?_
       rintro e w4 ⟨rfl, hb⟩
       have hX8 := hid (hX7.out.later hb)
       clear hb
       go_wp2_with fail
       go_ret
       exact ⟨rfl, hX8.out.below⟩
     . have hpq := hpt.2 (by omega)
       have kp := hid (qda hpq V5 hX5.out.env (by omega))
       have h33 : (32 : Int) < k := by omega
       rw [qfy (by omega)] at kR
       replace hpt := hid hpt
       replace hpq := hid hpq
       replace hlenM := hid hlenM
       replace hsm := hid hsm
       go_wp2_with fail
       refine kp.out.mono ?_
       rintro e w2 ⟨rfl, hb⟩
       have hX := hid ((hX5.out.later hb).later (X.qab w2 (.cells #[.slice none 0 0, .slice none 0 0, .slice none 0 0, .int .i64 0, .string ⟨#[]⟩, .int .i64 0, .slice none 0 0] 28)))
       clear hb kp hX5
       have hxX := hcX.out _ ⟨_, hX.out, mx.out⟩
       have x0 := qaa _ w1.heap.size 0 _ _ _ hxX
       have x1 := qaa _ w1.heap.size 1 _ _ _ hxX
       have x2 := qaa _ w1.heap.size 2 _ _ _ hxX
       have x3 := qaa _ w1.heap.size 3 _ _ _ hxX
       have x4 := qaa _ w1.heap.size 4 _ _ _ hxX
       have x5 := qaa _ w1.heap.size 5 _ _ _ hxX
       have x6 := qaa _ w1.heap.size 6 _ _ _ hxX
       replace hxX := hid hxX
       have kr := hid (kR.out _ ⟨_, hX.out, mx.out⟩)
       go_wp2_with fail
       refine kr.out.mono ?_
       rintro e w4 ⟨rfl, hb⟩
       have hX8 := hid (hX.out.later hb)
       clear hb
       go_wp2_with fail
       go_ret
       exact ⟨rfl, hX8.out.below⟩
theorem qkk (n kd : Int) (w : World) (hE : EnvP w) (h1 : 0 <= n) (h2 : n < 256) (h3 : 0 <= kd) (h4 : kd < 256) :
   Calls Tryz.prog 8 #[.int .u8 n, .int .u8 kd] w fun e w' => e = .returned (.bool true) /\ Below w.heap.size w w' := by
 rcases (show kd % 3 = 0 ∨ kd % 3 = 1 ∨ kd % 3 = 2 by omega) with h | h | h
 . exact qtq n kd w hE h1 (by omega) h3 (by omega) h
 . exact qtr n kd w hE h1 (by omega) h3 (by omega) h
 . exact qts n kd w hE h1 (by omega) h3 (by omega) h
end Go.Proofs.YtjnfhebbphdchaaGreatDoor.Pg
