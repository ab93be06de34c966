/-
  ProgDecls's walk: true of whatever program. Conditions: the variables that are read lie as laid; the program can be read; one's terms are at most 2^22 parts, all of them at most 2^40.
-/
import Derived.Test.YtjnfhebbphdchaaGreatDoorPgEx
set_option maxHeartbeats 4000000
set_option maxRecDepth 100000
open Go.Lib (hid)
namespace Go.Proofs.YtjnfhebbphdchaaGreatDoor.Pg
open Go.RowKit Go.Shelf Go.Tm Go.Lx Go.Maps Go.Proofs.YtjnfhebbphdchaaGreatDoor.Pa
attribute [local go_sem] Oper.semAt_some
theorem qiP {α : Type} {l : List α} {f : α -> Bool} {k : Nat} {d : α} (hk : k < l.length) : (l.take (k + 1)).all f = ((l.take k).all f && f (l.getD k d)) := by
 rw [List.take_succ_eq_append_getElem hk, List.all_append, List.getD_eq_getElem?_getD, List.getElem?_eq_getElem hk]; simp
theorem qki {W : World} {A : Option Addr} {c k : Nat} {ds : List D} (h : Decls W A c ds) (hk : k < ds.length) : ∃ b off, A = some ⟨b, off, none⟩ /\ ∀ n, 1 <= n -> n <= 9223372036854775807 -> Decls W (some ⟨b, off + k * 3, none⟩) n [ds.getD k d0] := by
 obtain ⟨b, off, hA, hlt, hc⟩ := h.at_ (by rintro rfl; simp at hk)
 refine ⟨b, off, hA, fun n h1 h2 => ⟨h1, h2, fun d hd => by rw [List.mem_singleton.1 hd]; exact h.szs _ (qbu hk), fun _ => ⟨b, off + k * 3, rfl, hlt, fun j hj => ?_⟩⟩⟩
 have e : j = 0 := by simpa using hj
 subst e
 simpa using hc k hk
theorem qre {W : World} {A : Option Addr} {c k : Nat} {ds : List Df} (h : Defs W A c ds) (hk : k < ds.length) : ∃ b off, A = some ⟨b, off, none⟩ /\ ∀ n, 1 <= n -> n <= 9223372036854775807 -> Defs W (some ⟨b, off + k * 5, none⟩) n [ds.getD k f0] := by
 obtain ⟨b, off, hA, hlt, hc⟩ := h.at_ (by rintro rfl; simp at hk)
 refine ⟨b, off, hA, fun n h1 h2 => ⟨h1, h2, fun d hd => by rw [List.mem_singleton.1 hd]; exact h.szs _ (qbu hk), fun _ => ⟨b, off + k * 5, rfl, hlt, fun j hj => ?_⟩⟩⟩
 have e : j = 0 := by simpa using hj
 subst e
 simpa using hc k hk
theorem qiQ (x : PV) (w : World) (hE : EnvP w) (hA : ProgAt w x) (h1 : Small x.p) (h2 : sizeP x.p <= 1099511627776) :
   Calls Tryz.prog 9 #[.agg #[.slice x.I x.p.ins.length x.i, .slice x.C x.p.cells.length x.c, .slice x.F x.p.defs.length x.f, .int .i64 x.p.body.kind, .string x.p.body.name, .int .i64 x.p.body.num, .slice x.B x.p.body.kids.length x.b]] w fun e w' => e = .returned (.bool true) /\ Below w.heap.size w w' := by
 have hX := (Bp.new hE).add x hA
 obtain ⟨p, I, i, C, c, F, f, B, b⟩ := x
 obtain ⟨ins, cells, defs, body⟩ := p
 dsimp only at hX h1 h2 ⊢
 obtain ⟨n1, hn1⟩ : ∃ n, ins.length = n := ⟨_, rfl⟩
 obtain ⟨n2, hn2⟩ : ∃ n, cells.length = n := ⟨_, rfl⟩
 obtain ⟨n3, hn3⟩ : ∃ n, defs.length = n := ⟨_, rfl⟩
 obtain ⟨nb, hnb⟩ : ∃ n, body.kids.length = n := ⟨_, rfl⟩
 rw [hn1, hn2, hn3, hnb] at hX ⊢
 obtain ⟨W1, hW1⟩ : ∃ W, w.alloc (.cells #[.slice I n1 i, .slice C n2 c, .slice F n3 f, .int .i64 body.kind, .string body.name, .int .i64 body.num, .slice B nb b] 28) = W := ⟨_, rfl⟩
 rw [hW1] at hX
 obtain ⟨l, hl⟩ : ∃ l, [(⟨⟨⟨ins, cells, defs, body⟩, I, i, C, c, F, f, B, b⟩, w.heap.size⟩ : PB)] = l := ⟨_, rfl⟩
 have mx : Hid ((⟨⟨⟨ins, cells, defs, body⟩, I, i, C, c, F, f, B, b⟩, w.heap.size⟩ : PB) ∈ l) := by show _ ∈ l; rw [<- hl]; exact List.mem_cons_self ..
 rw [hl] at hX
 clear hE hA hl
 have hA : ∀ W, Bp w l W -> ProgAt W ⟨⟨ins, cells, defs, body⟩, I, i, C, c, F, f, B, b⟩ := fun W h => (h.at_ _ mx.out).ok
 have kB := hid (fun (W : World) (h : Bp w l W) => (show Calls Tryz.prog 17 #[.agg #[.slice none 0 0, .slice none 0 0, .slice none 0 0, .int .i64 body.kind, .string body.name, .int .i64 body.num, .slice B nb b]] W fun e w' => e = .returned (.bool (qar (oneB body))) /\ Bp w l w' from by
   have h9 := qby ⟨oneB body, none, 0, none, 0, none, 0, B, b⟩ W h.env ⟨Decls.nil W, Decls.nil W, Defs.nil W, (hA W h).body⟩ ⟨h1.body, fun _ hd => by cases hd⟩
   rw [<- hnb]
   exact h9.mono fun e w' h8 => ⟨h8.1, h.later h8.2⟩))
 have kI := hid (fun (W : World) (h : Bp w l W) (k : Nat) (hk : k < n1) => (show ∃ bb oo, I = some ⟨bb, oo, none⟩ /\ ∀ m, 1 <= m -> m <= 9223372036854775807 -> Calls Tryz.prog 17 #[.agg #[.slice (some ⟨bb, oo + k * 3, none⟩) 1 m, .slice none 0 0, .slice none 0 0, .int .i64 1, .string ⟨#[]⟩, .int .i64 0, .slice none 0 0]] W fun e w' => e = .returned (.bool (qar (oneI (ins.getD k d0)))) /\ Bp w l w' from by
   have hk9 : k < ins.length := by omega
   obtain ⟨bb, oo, hI, hD⟩ := qki (hA W h).ins hk9
   refine ⟨bb, oo, hI, fun m m1 m2 => ?_⟩
   have h9 := qby ⟨oneI (ins.getD k d0), some ⟨bb, oo + k * 3, none⟩, m, none, 0, none, 0, none, 0⟩ W h.env ⟨hD m m1 m2, Decls.nil W, Defs.nil W, TmV.leaf W _ (by decide)⟩ ⟨(by show zeroT.size <= 4194304; decide), fun _ hd => by cases hd⟩
   exact h9.mono fun e w' h8 => ⟨h8.1, h.later h8.2⟩))
 have kC := hid (fun (W : World) (h : Bp w l W) (k : Nat) (hk : k < n2) => (show ∃ bb oo, C = some ⟨bb, oo, none⟩ /\ ∀ m, 1 <= m -> m <= 9223372036854775807 -> Calls Tryz.prog 17 #[.agg #[.slice none 0 0, .slice (some ⟨bb, oo + k * 3, none⟩) 1 m, .slice none 0 0, .int .i64 1, .string ⟨#[]⟩, .int .i64 0, .slice none 0 0]] W fun e w' => e = .returned (.bool (qar (oneC (cells.getD k d0)))) /\ Bp w l w' from by
   have hk9 : k < cells.length := by omega
   obtain ⟨bb, oo, hI, hD⟩ := qki (hA W h).cells hk9
   refine ⟨bb, oo, hI, fun m m1 m2 => ?_⟩
   have h9 := qby ⟨oneC (cells.getD k d0), none, 0, some ⟨bb, oo + k * 3, none⟩, m, none, 0, none, 0⟩ W h.env ⟨Decls.nil W, hD m m1 m2, Defs.nil W, TmV.leaf W _ (by decide)⟩ ⟨(by show zeroT.size <= 4194304; decide), fun _ hd => by cases hd⟩
   exact h9.mono fun e w' h8 => ⟨h8.1, h.later h8.2⟩))
 have kF := hid (fun (W : World) (h : Bp w l W) (k : Nat) (hk : k < n3) => (show ∃ bb oo, F = some ⟨bb, oo, none⟩ /\ ∀ m, 1 <= m -> m <= 9223372036854775807 -> Calls Tryz.prog 17 #[.agg #[.slice none 0 0, .slice none 0 0, .slice (some ⟨bb, oo + k * 5, none⟩) 1 m, .int .i64 1, .string ⟨#[]⟩, .int .i64 0, .slice none 0 0]] W fun e w' => e = .returned (.bool (qar (oneF (defs.getD k f0)))) /\ Bp w l w' from by
   have hk9 : k < defs.length := by omega
   obtain ⟨bb, oo, hI, hD⟩ := qre (hA W h).defs hk9
   refine ⟨bb, oo, hI, fun m m1 m2 => ?_⟩
   have h9 := qby ⟨oneF (defs.getD k f0), none, 0, none, 0, some ⟨bb, oo + k * 5, none⟩, m, none, 0⟩ W h.env ⟨Decls.nil W, Decls.nil W, hD m m1 m2, TmV.leaf W _ (by decide)⟩ ⟨(by show zeroT.size <= 4194304; decide), fun d hd => by rw [List.mem_singleton.1 hd]; exact h1.defs _ (qbu hk9)⟩
   exact h9.mono fun e w' h8 => ⟨h8.1, h.later h8.2⟩))
 have kR := hid (fun (W : World) (h : Bp w l W) => (show Calls Tryz.prog 17 #[.agg #[.slice I n1 i, .slice C n2 c, .slice F n3 f, .int .i64 body.kind, .string body.name, .int .i64 body.num, .slice B nb b]] W fun e w' => e = .returned (.bool (qar ⟨ins, cells, defs, body⟩)) /\ Bp w l w' from by
   have h9 := qby ⟨⟨ins, cells, defs, body⟩, I, i, C, c, F, f, B, b⟩ W h.env (hA W h) h1
   rw [<- hn1, <- hn2, <- hn3, <- hnb]
   exact h9.mono fun e w' h8 => ⟨h8.1, h.later h8.2⟩))
 have kP := hid (fun (W : World) (h : Bp w l W) => (show Calls Tryz.prog 21 #[.agg #[.slice I n1 i, .slice C n2 c, .slice F n3 f, .int .i64 body.kind, .string body.name, .int .i64 body.num, .slice B nb b]] W fun e w' => e = .returned (.string (qbI ⟨ins, cells, defs, body⟩)) /\ Bp w l w' from by
   have h9 := qeb ⟨⟨ins, cells, defs, body⟩, I, i, C, c, F, f, B, b⟩ W h.env (hA W h) h1
   rw [<- hn1, <- hn2, <- hn3, <- hnb]
   exact h9.mono fun e w' h8 => ⟨h8.1, h.later h8.2⟩))
 have kS := hid (fun (W : World) (h : Bp w l W) => (show Calls Tryz.prog 19 #[.agg #[.slice I n1 i, .slice C n2 c, .slice F n3 f, .int .i64 body.kind, .string body.name, .int .i64 body.num, .slice B nb b]] W fun e w' => e = .returned (.int .i64 (sizeP ⟨ins, cells, defs, body⟩)) /\ Bp w l w' from by
   have h9 := qhs ⟨⟨ins, cells, defs, body⟩, I, i, C, c, F, f, B, b⟩ W (hA W h) h1 h2
   rw [<- hn1, <- hn2, <- hn3, <- hnb]
   exact h9.mono fun e w' h8 => ⟨h8.1, h.later h8.2⟩))
 have hfit : Hid ((((qar (oneB body) && ins.all (fun d => qar (oneI d))) && cells.all (fun d => qar (oneC d))) && defs.all (fun d => qar (oneF d))) = fitsP ⟨ins, cells, defs, body⟩) := rfl
 have hyes := hid (fun (h : qar ⟨ins, cells, defs, body⟩ = true) => (show fitsP ⟨ins, cells, defs, body⟩ = true /\ n1 <= 32 /\ n2 <= 32 /\ n3 <= 32 /\ (qbI ⟨ins, cells, defs, body⟩).size <= 65536 from by
   have hs := (qaE.1 h).1
   have z1 := hs.li
   have z2 := hs.lc
   have z3 := hs.ld
   dsimp only at z1 z2 z3
   refine ⟨qnn h, by omega, by omega, by omega, ?_⟩
   rw [qdj h, qfE]
   exact (qaE.1 h).2))
 have hnot := hid (fun (h : qar ⟨ins, cells, defs, body⟩ = false) (hf : fitsP ⟨ins, cells, defs, body⟩ = true) (z1 : n1 <= 32) (z2 : n2 <= 32) (z3 : n3 <= 32) => (show 1000 < sizeP ⟨ins, cells, defs, body⟩ from Nat.lt_of_not_le fun hz => by
   have := qno hf (by dsimp only; omega) (by dsimp only; omega) (by dsimp only; omega) hz
   rw [h] at this
   cases this))
 have hpn := hid (fun (h : qar ⟨ins, cells, defs, body⟩ = false) => qdk h)
 have hz9 : sizeP ⟨ins, cells, defs, body⟩ <= 1099511627776 := h2
 have hm1 : n1 <= i /\ i <= 9223372036854775807 := by have := (hA W1 hX).ins; exact ⟨by have := this.cap; dsimp only at this; omega, this.max⟩
 have hm2 : n2 <= c /\ c <= 9223372036854775807 := by have := (hA W1 hX).cells; exact ⟨by have := this.cap; dsimp only at this; omega, this.max⟩
 have hm3 : n3 <= f /\ f <= 9223372036854775807 := by have := (hA W1 hX).defs; exact ⟨by have := this.cap; dsimp only at this; omega, this.max⟩
 obtain ⟨M, hM⟩ : ∃ M : Nat, (if (if n1 < n2 then (n2 : Int) else (n1 : Int)) < (n3 : Int) then (n3 : Int) else if n1 < n2 then (n2 : Int) else (n1 : Int)) = (M : Int) := by
   refine ⟨max (max n1 n2) n3, ?_⟩
   split <;> split <;> omega
 have hM2 : Hid ((M : Int) = max (max n1 n2) n3) := by
   show (M : Int) = _
   rw [<- hM]
   split <;> split <;> omega
 replace hM := hid hM
 have hbx : Hid (∀ W, Bp w l W -> W.cell? ⟨w.heap.size, 0, none⟩ = some (.slice I n1 i) /\ W.cell? ⟨w.heap.size, 1, none⟩ = some (.slice C n2 c) /\ W.cell? ⟨w.heap.size, 2, none⟩ = some (.slice F n3 f) /\ W.cell? ⟨w.heap.size, 3, none⟩ = some (.int .i64 body.kind) /\ W.cell? ⟨w.heap.size, 4, none⟩ = some (.string body.name) /\ W.cell? ⟨w.heap.size, 5, none⟩ = some (.int .i64 body.num) /\ W.cell? ⟨w.heap.size, 6, none⟩ = some (.slice B nb b)) := fun W h => by
   have a1 := (h.at_ _ mx.out).box
   dsimp only at a1
   rw [hn1, hn2, hn3, hnb] at a1
   exact ⟨qaa _ _ 0 _ _ _ a1, qaa _ _ 1 _ _ _ a1, qaa _ _ 2 _ _ _ a1, qaa _ _ 3 _ _ _ a1, qaa _ _ 4 _ _ _ a1, qaa _ _ 5 _ _ _ a1, qaa _ _ 6 _ _ _ a1⟩
 replace hA := hid hA
 replace hX := hid hX
 replace h1 := hid h1
 replace h2 := hid h2
 obtain ⟨SZ, hSZ⟩ : ∃ n, sizeP ⟨ins, cells, defs, body⟩ = n := ⟨_, rfl⟩
 obtain ⟨PR, hPR⟩ : ∃ n, qbI ⟨ins, cells, defs, body⟩ = n := ⟨_, rfl⟩
 obtain ⟨RR, hRR⟩ : ∃ n, qar ⟨ins, cells, defs, body⟩ = n := ⟨_, rfl⟩
 obtain ⟨FT, hFT⟩ : ∃ n, fitsP ⟨ins, cells, defs, body⟩ = n := ⟨_, rfl⟩
 obtain ⟨b0, hb0⟩ : ∃ n, qar (oneB body) = n := ⟨_, rfl⟩
 rw [hSZ] at kS hnot hz9
 rw [hPR] at kP hyes hpn
 rw [hRR] at kR hyes hnot hpn
 rw [hFT] at hfit hyes hnot
 rw [hb0] at kB hfit
 replace hm1 := hid hm1
 replace hm2 := hid hm2
 replace hm3 := hid hm3
 replace hz9 := hid hz9
 replace hn1 := hid hn1
 replace hn2 := hid hn2
 replace hn3 := hid hn3
 replace hnb := hid hnb
 clear hSZ hPR hRR hFT hb0
 go_enter Tryz.func9, Tryz.ntmps9
 go_wp2_with fail
 replace hW1 := hid hW1
 refine (qcb _ hX.out.env).mono ?_
 rintro e w1 ⟨rfl, hb⟩
 replace hX := hid (hX.out.later hb)
 clear hb
 have x0 := hbx.out w1 hX.out |>.1
 have x1 := hbx.out w1 hX.out |>.2.1
 have x2 := hbx.out w1 hX.out |>.2.2.1
 have x3 := hbx.out w1 hX.out |>.2.2.2.1
 have x4 := hbx.out w1 hX.out |>.2.2.2.2.1
 have x5 := hbx.out w1 hX.out |>.2.2.2.2.2.1
 have x6 := hbx.out w1 hX.out |>.2.2.2.2.2.2
 have hX2 := hX.out.later (X.qab w1 (.cells #[.slice none 0 0, .slice none 0 0, .slice none 0 0, .int .i64 body.kind, .string body.name, .int .i64 body.num, .slice B nb b] 28))
 have hr9 := World.alloc_heap_new w1 (.cells #[.slice none 0 0, .slice none 0 0, .slice none 0 0, .int .i64 body.kind, .string body.name, .int .i64 body.num, .slice B nb b] 28)
 obtain ⟨V, hV⟩ : ∃ W, w1.alloc (.cells #[.slice none 0 0, .slice none 0 0, .slice none 0 0, .int .i64 body.kind, .string body.name, .int .i64 body.num, .slice B nb b] 28) = W := ⟨_, rfl⟩
 rw [hV] at hX2 hr9
 have s0 := qaa _ w1.heap.size 0 _ _ _ hr9
 have s1 := qaa _ w1.heap.size 1 _ _ _ hr9
 have s2 := qaa _ w1.heap.size 2 _ _ _ hr9
 have s3 := qaa _ w1.heap.size 3 _ _ _ hr9
 have s4 := qaa _ w1.heap.size 4 _ _ _ hr9
 have s5 := qaa _ w1.heap.size 5 _ _ _ hr9
 have s6 := qaa _ w1.heap.size 6 _ _ _ hr9
 have kb := hid (kB.out _ hX2)
 replace hr9 := hid hr9
 clear kB hX2 hX
 go_wp2_with fail
 refine kb.out.mono ?_
 rintro e w2 ⟨rfl, hX⟩
 replace hX := hid hX
 replace hV := hid hV
 clear kb hr9 s0 x0 s1 x1 s2 x2 s3 x3 s4 x4 s5 x5 s6 x6
 go_wp2_with fail
 go_loopw [6, 5] (fun i9 g9 wr => ∃ k : Nat, k <= n1 /\ i9 = .int .i64 k /\ g9 = .bool (b0 && (ins.take k).all (fun d => qar (oneI d))) /\ Hid (Bp w l wr)) (fun i9 _ _ => n1 - (intOf i9).toNat)
 case atStart => exact ⟨0, Nat.zero_le _, rfl, by simp, hX.out⟩
 case round =>
   clear hX
   obtain ⟨k, hk, rfl, rfl, hX⟩ := hrel
   have x0 := hbx.out wr hX.out |>.1
   by_cases hlt : k < n1
   . obtain ⟨bb, oo, hI9, kk⟩ := kI.out wr hX.out k hlt
     have kk := hid (kk (i - k) (by have := hm1.out; omega) (by have := hm1.out; omega))
     have hcp : k + 1 <= i := by have := hm1.out; omega
     have hcq : i <= 9223372036854775807 := hm1.out.2
     have hnx := hid (qiP (f := (fun d => qar (oneI d))) (d := d0) (show k < ins.length by have := hn1.out; omega))
     rw [hI9] at x0
     replace hI9 := hid hI9
     obtain ⟨g, hg⟩ : ∃ g, (b0 && (ins.take k).all (fun d => qar (oneI d))) = g := ⟨_, rfl⟩
     rw [hg]
     obtain ⟨r, hr⟩ : ∃ r, qar (oneI (ins.getD k d0)) = r := ⟨_, rfl⟩
     rw [hr] at kk
     have hgn : Hid ((b0 && (ins.take (k + 1)).all (fun d => qar (oneI d))) = (g && r)) := by show _ = _; rw [hnx.out, <- Bool.and_assoc, hg, <- hr]
     clear hnx hg hr
     cases g with
     | false =>
       clear kk
       go_wp2_with fail
       go_roundw
       case rel => exact ⟨k + 1, by omega, by go_num, by rw [hgn.out]; rfl, hX.out⟩
       case measure => simp [intOf]; omega
     | true =>
       go_wp2_with fail
       refine kk.out.mono ?_
       rintro e w9 ⟨rfl, hX⟩
       replace hX := hid hX
       go_wp2_with fail
       go_roundw
       case rel => exact ⟨k + 1, by omega, by go_num, by rw [hgn.out]; rfl, hX.out⟩
       case measure => simp [intOf]; omega
   . obtain rfl : k = n1 := by omega
     have hal : (b0 && (ins.take k).all (fun d => qar (oneI d))) = (b0 && ins.all (fun d => qar (oneI d))) := by
       rw [List.take_of_length_le (by have := hn1.out; omega)]
     rw [hal]
     clear hal hlt hk
     obtain ⟨b1, hb1⟩ : ∃ b, (b0 && ins.all (fun d => qar (oneI d))) = b := ⟨_, rfl⟩
     rw [hb1] at hfit ⊢
     replace hb1 := hid hb1
     have x1 := hbx.out wr hX.out |>.2.1
     go_wp2_with fail
     clear x0 x1
     go_loopw [7, 5] (fun i9 g9 wr => ∃ k : Nat, k <= n2 /\ i9 = .int .i64 k /\ g9 = .bool (b1 && (cells.take k).all (fun d => qar (oneC d))) /\ Hid (Bp w l wr)) (fun i9 _ _ => n2 - (intOf i9).toNat)
     case atStart => exact ⟨0, Nat.zero_le _, rfl, by simp, hX.out⟩
     case round =>
       clear hX
       obtain ⟨k, hk, rfl, rfl, hX⟩ := hrel
       have x1 := hbx.out wr hX.out |>.2.1
       by_cases hlt : k < n2
       . obtain ⟨bb, oo, hI9, kk⟩ := kC.out wr hX.out k hlt
         have kk := hid (kk (c - k) (by have := hm2.out; omega) (by have := hm2.out; omega))
         have hcp : k + 1 <= c := by have := hm2.out; omega
         have hcq : c <= 9223372036854775807 := hm2.out.2
         have hnx := hid (qiP (f := (fun d => qar (oneC d))) (d := d0) (show k < cells.length by have := hn2.out; omega))
         rw [hI9] at x1
         replace hI9 := hid hI9
         obtain ⟨g, hg⟩ : ∃ g, (b1 && (cells.take k).all (fun d => qar (oneC d))) = g := ⟨_, rfl⟩
         rw [hg]
         obtain ⟨r, hr⟩ : ∃ r, qar (oneC (cells.getD k d0)) = r := ⟨_, rfl⟩
         rw [hr] at kk
         have hgn : Hid ((b1 && (cells.take (k + 1)).all (fun d => qar (oneC d))) = (g && r)) := by show _ = _; rw [hnx.out, <- Bool.and_assoc, hg, <- hr]
         clear hnx hg hr
         cases g with
         | false =>
           clear kk
           go_wp2_with fail
           go_roundw
           case rel => exact ⟨k + 1, by omega, by go_num, by rw [hgn.out]; rfl, hX.out⟩
           case measure => simp [intOf]; omega
         | true =>
           go_wp2_with fail
           refine kk.out.mono ?_
           rintro e w9 ⟨rfl, hX⟩
           replace hX := hid hX
           go_wp2_with fail
           go_roundw
           case rel => exact ⟨k + 1, by omega, by go_num, by rw [hgn.out]; rfl, hX.out⟩
           case measure => simp [intOf]; omega
       . obtain rfl : k = n2 := by omega
         have hal : (b1 && (cells.take k).all (fun d => qar (oneC d))) = (b1 && cells.all (fun d => qar (oneC d))) := by
           rw [List.take_of_length_le (by have := hn2.out; omega)]
         rw [hal]
         clear hal hlt hk
         obtain ⟨b2, hb2⟩ : ∃ b, (b1 && cells.all (fun d => qar (oneC d))) = b := ⟨_, rfl⟩
         rw [hb2] at hfit ⊢
         replace hb2 := hid hb2
         have x2 := hbx.out wr hX.out |>.2.2.1
         go_wp2_with fail
         clear x1 x2
         go_loopw [8, 5] (fun i9 g9 wr => ∃ k : Nat, k <= n3 /\ i9 = .int .i64 k /\ g9 = .bool (b2 && (defs.take k).all (fun d => qar (oneF d))) /\ Hid (Bp w l wr)) (fun i9 _ _ => n3 - (intOf i9).toNat)
         case atStart => exact ⟨0, Nat.zero_le _, rfl, by simp, hX.out⟩
         case round =>
           clear hX
           obtain ⟨k, hk, rfl, rfl, hX⟩ := hrel
           have x2 := hbx.out wr hX.out |>.2.2.1
           by_cases hlt : k < n3
           . obtain ⟨bb, oo, hI9, kk⟩ := kF.out wr hX.out k hlt
             have kk := hid (kk (f - k) (by have := hm3.out; omega) (by have := hm3.out; omega))
             have hcp : k + 1 <= f := by have := hm3.out; omega
             have hcq : f <= 9223372036854775807 := hm3.out.2
             have hnx := hid (qiP (f := (fun d => qar (oneF d))) (d := f0) (show k < defs.length by have := hn3.out; omega))
             rw [hI9] at x2
             replace hI9 := hid hI9
             obtain ⟨g, hg⟩ : ∃ g, (b2 && (defs.take k).all (fun d => qar (oneF d))) = g := ⟨_, rfl⟩
             rw [hg]
             obtain ⟨r, hr⟩ : ∃ r, qar (oneF (defs.getD k f0)) = r := ⟨_, rfl⟩
             rw [hr] at kk
             have hgn : Hid ((b2 && (defs.take (k + 1)).all (fun d => qar (oneF d))) = (g && r)) := by show _ = _; rw [hnx.out, <- Bool.and_assoc, hg, <- hr]
             clear hnx hg hr
             cases g with
             | false =>
               clear kk
               go_wp2_with fail
               go_roundw
               case rel => exact ⟨k + 1, by omega, by go_num, by rw [hgn.out]; rfl, hX.out⟩
               case measure => simp [intOf]; omega
             | true =>
               go_wp2_with fail
               refine kk.out.mono ?_
               rintro e w9 ⟨rfl, hX⟩
               replace hX := hid hX
               go_wp2_with fail
               go_roundw
               case rel => exact ⟨k + 1, by omega, by go_num, by rw [hgn.out]; rfl, hX.out⟩
               case measure => simp [intOf]; omega
           . obtain rfl : k = n3 := by omega
             have hal : (b2 && (defs.take k).all (fun d => qar (oneF d))) = (b2 && defs.all (fun d => qar (oneF d))) := by
               rw [List.take_of_length_le (by have := hn3.out; omega)]
             rw [hal]
             clear hal hlt hk
             obtain ⟨b3, hb3⟩ : ∃ b, (b2 && defs.all (fun d => qar (oneF d))) = b := ⟨_, rfl⟩
             rw [hb3] at hfit ⊢
             replace hb3 := hid hb3
             clear x2
             have x0 := hbx.out wr hX.out |>.1
             have x1 := hbx.out wr hX.out |>.2.1
             have x2 := hbx.out wr hX.out |>.2.2.1
             have x3 := hbx.out wr hX.out |>.2.2.2.1
             have x4 := hbx.out wr hX.out |>.2.2.2.2.1
             have x5 := hbx.out wr hX.out |>.2.2.2.2.2.1
             have x6 := hbx.out wr hX.out |>.2.2.2.2.2.2
             replace hM := hM.out
             go_wp2_with fail
             refine (kR.out wr hX.out).mono ?_
             rintro e w3 ⟨rfl, hX⟩
             replace hX := hid hX
             clear x0 x1 x2 x3 x4 x5 x6
             have x0 := hbx.out w3 hX.out |>.1
             have x1 := hbx.out w3 hX.out |>.2.1
             have x2 := hbx.out w3 hX.out |>.2.2.1
             have x3 := hbx.out w3 hX.out |>.2.2.2.1
             have x4 := hbx.out w3 hX.out |>.2.2.2.2.1
             have x5 := hbx.out w3 hX.out |>.2.2.2.2.2.1
             have x6 := hbx.out w3 hX.out |>.2.2.2.2.2.2
             replace hM := hid hM
             cases RR with
             | true =>
               obtain ⟨hf, z1, z2, z3, zp⟩ := hyes.out rfl
               have hb9 : b3 = true := by rw [show b3 = FT from hfit.out, hf]
               subst hb9
               have hm9 : (M : Int) <= 32 := by have := hM2.out; omega
               have zp9 : (PR.size : Int) <= 65536 := by omega
               clear hyes hnot hpn hM2 hfit hf z1 z2 z3 zp
               go_wp2_with fail
               refine (kP.out w3 hX.out).mono ?_
               rintro e w4 ⟨rfl, hX⟩
               replace hX := hid hX
               go_wp2_with fail
               go_ret
               exact ⟨rfl, hX.out.below⟩
             | false =>
               have hp9 := hpn.out rfl
               subst hp9
               clear hyes hpn
               cases b3 with
               | false =>
                 clear hnot hM2
                 go_wp2_with fail
                 refine (kP.out w3 hX.out).mono ?_
                 rintro e w4 ⟨rfl, hX⟩
                 replace hX := hid hX
                 go_wp2_with fail
                 go_ret
                 exact ⟨rfl, hX.out.below⟩
               | true =>
                 have hf9 : FT = true := (show true = FT from hfit.out).symm
                 by_cases hm9 : (M : Int) <= 32
                 . have hs9 := hnot.out rfl hf9 (by have := hM2.out; omega) (by have := hM2.out; omega) (by have := hM2.out; omega)
                   have hm8 : ¬ (32 : Int) < M := by omega
                   have hs8 : (1000 : Int) < SZ := by omega
                   clear hnot hM2 hfit hf9 hs9 hm9
                   go_wp2_with fail
                   refine (kP.out w3 hX.out).mono ?_
                   rintro e w4 ⟨rfl, hX⟩
                   replace hX := hid hX
                   clear x0 x1 x2 x3 x4 x5 x6
                   have x0 := hbx.out w4 hX.out |>.1
                   have x1 := hbx.out w4 hX.out |>.2.1
                   have x2 := hbx.out w4 hX.out |>.2.2.1
                   have x3 := hbx.out w4 hX.out |>.2.2.2.1
                   have x4 := hbx.out w4 hX.out |>.2.2.2.2.1
                   have x5 := hbx.out w4 hX.out |>.2.2.2.2.2.1
                   have x6 := hbx.out w4 hX.out |>.2.2.2.2.2.2
                   go_wp2_with fail
                   refine (kS.out w4 hX.out).mono ?_
                   rintro e w5 ⟨rfl, hX⟩
                   replace hX := hid hX
                   go_wp2_with fail
                   go_ret
                   exact ⟨rfl, hX.out.below⟩
                 . have hm8 : (32 : Int) < M := by omega
                   clear hnot hM2 hfit hf9 hm9
                   go_wp2_with fail
                   refine (kP.out w3 hX.out).mono ?_
                   rintro e w4 ⟨rfl, hX⟩
                   replace hX := hid hX
                   go_wp2_with fail
                   go_ret
                   exact ⟨rfl, hX.out.below⟩
end Go.Proofs.YtjnfhebbphdchaaGreatDoor.Pg
