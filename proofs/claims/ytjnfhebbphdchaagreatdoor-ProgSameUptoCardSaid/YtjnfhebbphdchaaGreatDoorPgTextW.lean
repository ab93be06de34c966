/-
  strings.Builder's copyCheck, WriteString, WriteByte at a builder that a call has made itself. Condition: what it holds is at most 2^47 bytes.
  prog.name and prog.sound.
  prog.line:
  prog.text:
-/
import Derived.Test.YtjnfhebbphdchaaGreatDoorTmRun
import Derived.Test.YtjnfhebbphdchaaGreatDoorProg
import Derived.Shelf.RegionOpenPlain
import Derived.Lib.Strings
import Derived.Lib.Builder
import Derived.Lib.AppendStr
import Derived.Lib.UnsafeStr
import Derived.Laws.Externs
import Derived.WalkKit
import Derived.Test.YtjnfhebbphdchaaGreatDoorPgParse
import Derived.Test.YtjnfhebbphdchaaGreatDoorPgDraft
import Derived.Test.YtjnfhebbphdchaaGreatDoorShShow
import Derived.Deep.RegionHeld3
set_option maxHeartbeats 4000000
set_option maxRecDepth 100000
open Go.Lib (hid)
namespace Go.Proofs.YtjnfhebbphdchaaGreatDoor.Pg
open Go.RowKit Go.Shelf
def qbf (B : Nat) (w w' : World) : Prop := ∀ (k : Nat) (cs : Array Value) (ty : TypeId) (fr : Nat × Nat), w.heap[k]? = some (Obj.cells cs ty fr) -> ty ≠ 5 -> k ≠ B -> w'.heap[k]? = some (Obj.cells cs ty fr)
theorem qbf.refl (B : Nat) (w : World) : qbf B w w := fun _ _ _ _ h _ _ => h
theorem qbf.trans {B : Nat} {a b c : World} (h : qbf B a b) (g : qbf B b c) : qbf B a c := fun k cs ty fr hk ht hb => g k cs ty fr (h k cs ty fr hk ht hb) ht hb
theorem qbf.of {B : Nat} {w w' : World} (h : Below w.heap.size w w') : qbf B w w' := fun k _ _ _ hk _ _ => (h.block k ((Array.getElem?_eq_some_iff.1 hk).1)).trans hk
theorem qbf.set (B i : Nat) (w : World) (v : Value) : qbf B w (w.setCell ⟨B, i, none⟩ v) := fun _ _ _ _ hk _ hb => (Below.heap_setCell _ _ _ _ hb).trans hk
theorem qbf.grown {B base n : Nat} {v : Value} {xs : List Value} {w w' : World} (ho : w.ownsRow base 5 1 v n xs) (hg : w.grownBy w' v.ownBlock) : qbf B w w' := fun k cs ty fr hk ht _ => by
 refine (hg.block k ((Array.getElem?_eq_some_iff.1 hk).1) (fun e => ?_)).trans hk
 obtain ⟨_, ⟨rfl, _⟩ | ⟨g, cap, cur, rfl, hbg, hgg, _⟩⟩ := ho
 . cases e
 . cases e
   rw [hgg] at hk
   cases hk
   exact ht rfl
theorem qmo : (Tryz.prog.info? 181).map (·.size) = some 2 := by kernel_rfl
theorem qra : liesAt Tryz.prog Tryz.prog.depth 181 (2 / Tryz.prog.cellsOf 181) 0 181 1 = true := by kernel_rfl
theorem qjZ : (Tryz.prog.info? 5).map (fun i => (i.zero, i.size, i.bytes)) = some (some (.int .u8 0), 1, 1) := by kernel_rfl
theorem qnv (b : Nat) (w : World) (h0 : w.cell? ⟨b, 0, none⟩ = some (.pointer (some ⟨b, 0, none⟩))) :
   Calls Tryz.prog 154 #[.pointer (some ⟨b, 0, none⟩)] w fun e w' => e = .returned (.tuple #[]) /\ w' = w := by
 obtain ⟨j, hj, _⟩ := Option.map_eq_some_iff.1 qmo
 go_enter Tryz.func154, Tryz.ntmps154
 go_wp2
 rw [Lib.run_neq_ptr_same w _ Tryz.underlying179 hj]
 go_wp2
 go_end0
 exact ⟨rfl, rfl⟩
theorem qld (b : Nat) (w : World) (h0 : w.cell? ⟨b, 0, none⟩ = some (.pointer none)) (hsh : w.shape? b = some (181, 2)) (hfz : w.frozen? ⟨b, 0, none⟩ = false) :
   Calls Tryz.prog 154 #[.pointer (some ⟨b, 0, none⟩)] w fun e w' => e = .returned (.tuple #[]) /\ w' = w.setCell ⟨b, 0, none⟩ (.pointer (some ⟨b, 0, none⟩)) := by
 obtain ⟨j, hj, hjs⟩ := Option.map_eq_some_iff.1 qmo
 go_enter Tryz.func154, Tryz.ntmps154
 go_wp2
 rw [Lib.run_to_unsafe w ⟨b, 0, none⟩ Tryz.underlying179 Tryz.underlying218 hj (by rw [hjs]; decide) hsh (Nat.zero_lt_succ 1)]
 simp only [Result.andThen]
 rw [Oper.upon_value]
 go_wp2
 rw [run_callFunc_extern Tryz.func177 (by kernel_rfl) (by kernel_rfl) (by kernel_rfl) (e := Extern.AbiNoEscape.same) (by kernel_rfl)]
 rw [Lib.run_noEscape]
 simp only [Result.andThen]
 rw [Oper.upon_value]
 go_wp2
 rw [Lib.run_from_unsafe w ⟨b, 0, none⟩ Tryz.underlying218 Tryz.underlying179 hj hsh qra]
 simp only [Result.andThen]
 rw [Oper.upon_value]
 go_wp2
 go_end0
 exact ⟨rfl, rfl⟩
theorem qka (B b : Nat) (bs : List Value) (w : World) (h : Lib.IsBuilder 181 5 B b bs w) :
   Calls Tryz.prog 154 #[.pointer (some ⟨b, 0, none⟩)] w fun e w' => e = .returned (.tuple #[]) /\ (Lib.BuilderAt 181 5 B b (.pointer (some ⟨b, 0, none⟩)) bs w' /\ Below B w w' /\ qbf b w w') := by
 rcases h with h | h
 . refine (qld b w h.cell0 h.shape h.frozen0).mono ?_
   rintro e w' ⟨rfl, rfl⟩
   exact ⟨rfl, h.used _, (Below.refl B w).setCell (p := ⟨b, 0, none⟩) h.1 _, qbf.set b 0 w _⟩
 . refine (qnv b w h.cell0).mono ?_
   rintro e w' ⟨rfl, rfl⟩
   exact ⟨rfl, h, Below.refl B _, qbf.refl _ _⟩
theorem qiM (B b : Nat) (bs : List Value) (c : Int) (w : World) (h : Lib.IsBuilder 181 5 B b bs w) (hlen : bs.length + 1 <= 140737488355328) (hBw : B <= w.heap.size) :
   Calls Tryz.prog 149 #[.pointer (some ⟨b, 0, none⟩), .int .u8 c] w fun e w' => e = .returned .nilIface /\ (Lib.BuilderAt 181 5 B b (.pointer (some ⟨b, 0, none⟩)) (bs ++ [.int .u8 c]) w' /\ Below B w w' /\ qbf b w w') := by
 obtain ⟨i0, hi, hi2⟩ := Option.map_eq_some_iff.1 qjZ
 obtain ⟨hz0, hz1, hz2⟩ : i0.zero = some (.int .u8 0) /\ i0.size = 1 /\ i0.bytes = 1 := by
   injection hi2 with h1 h2; injection h2 with h2 h3; exact ⟨h1, h2, h3⟩
 have kc := hid (qka B b bs w h)
 go_enter Tryz.func149, Tryz.ntmps149
 go_wp2_with fail
 refine kc.out.mono ?_
 rintro e w1 ⟨rfl, h1, hb1, hk1⟩
 obtain ⟨hB, v, hbk, hown, hne⟩ := h1
 have c0 : w1.cell? ⟨b, 0, none⟩ = some (.pointer (some ⟨b, 0, none⟩)) := by rw [Lib.cell_of_heap hbk]; rfl
 have c1 : w1.cell? ⟨b, 1, none⟩ = some v := by rw [Lib.cell_of_heap hbk]; rfl
 go_wp2_with (at_builtin; refine wpList_append_own _ rfl _ _ 29 rfl B 5 i0 (.int .u8 0) 1 1 Tryz.underlying29 hi hz0 hz1 hz2 rfl (by decide) _ _ _ rfl (hown.alloc _) ⟨w1.heap.size, 0, none⟩ 1 1 [.int .u8 c] rfl rfl ?c1 ?c2 ?c3 ?c4 ?c5 ?_)
 case c1 =>
   intro j u hj
   match j, hj with
   | 0, hj => simp at hj; subst hj; simp [Addr.add]
 case c2 => intro u hu; simp at hu; subst hu; rfl
 case c3 => unfold maxLen; omega
 case c4 => omega
 case c5 => have := hb1.size; simp; omega
 intro v' w2 hown' hgrow _
 have hlt : b < w1.heap.size := by
   rcases Nat.lt_or_ge b w1.heap.size with h' | h'
   . exact h'
   . simp [Array.getElem?_eq_none h'] at hbk
 have hb2 : w2.heap[b]? = some (.cells #[.pointer (some ⟨b, 0, none⟩), v] 181 (0, 0)) := by
   rw [hgrow.block b (by simp; omega) (fun e => hne e.symm), Lib.alloc_old w1 _ b hlt]
   exact hbk
 have d0 : w2.cell? ⟨b, 0, none⟩ = some (.pointer (some ⟨b, 0, none⟩)) := by rw [Lib.cell_of_heap hb2]; rfl
 have d1 : w2.cell? ⟨b, 1, none⟩ = some v := by rw [Lib.cell_of_heap hb2]; rfl
 have f1 : w2.frozen? ⟨b, 1, none⟩ = false := Lib.frozen_of_heap hb2 1
 obtain ⟨g, cap, rfl⟩ : ∃ g cap, v' = .slice (some ⟨g, 0, none⟩) (bs.length + 1) cap := by
   rcases hown'.2 with ⟨_, h0⟩ | ⟨g, cap, cur, hv, _⟩
   . omega
   . exact ⟨g, cap, hv⟩
 go_wp2
 go_ret
 refine ⟨rfl, ?_, ?_, ?_⟩
 . exact Lib.BuilderAt.put (T := 181) (e := 5) hB hb2 (bs' := bs ++ [.int .u8 c]) (by simpa using hown') (by decide)
 . exact ((hb1.alloc (by have := hb1.size; omega) _).grown hgrow (by have := hb1.size; simp; omega) (fun k hk => (hown.lt k hk).1)).setCell (p := ⟨b, 1, none⟩) hB _
 . exact ((hk1.trans (qbf.of ((Below.refl _ w1).alloc (Nat.le_refl _) _))).trans (qbf.grown (hown.alloc _) hgrow)).trans (qbf.set b 1 w2 _)
theorem qhp (B b : Nat) (bs : List Value) (s : ByteArray) (w : World) (h : Lib.IsBuilder 181 5 B b bs w) (hlen : bs.length + s.size <= 140737488355328) (hBw : B <= w.heap.size) :
   Calls Tryz.prog 125 #[.pointer (some ⟨b, 0, none⟩), .string s] w fun e w' => e = .returned (.tuple #[.int .i64 s.size, .nilIface]) /\ (Lib.BuilderAt 181 5 B b (.pointer (some ⟨b, 0, none⟩)) (bs ++ Lib.strCells s) w' /\ Below B w w' /\ qbf b w w') := by
 obtain ⟨i0, hi, hi2⟩ := Option.map_eq_some_iff.1 qjZ
 obtain ⟨hz0, hz1, hz2⟩ : i0.zero = some (.int .u8 0) /\ i0.size = 1 /\ i0.bytes = 1 := by
   injection hi2 with h1 h2; injection h2 with h2 h3; exact ⟨h1, h2, h3⟩
 have kc := hid (qka B b bs w h)
 go_enter Tryz.func125, Tryz.ntmps125
 go_wp2_with fail
 refine kc.out.mono ?_
 rintro e w1 ⟨rfl, h1, hb1, hk1⟩
 obtain ⟨hB, v, hbk, hown, hne⟩ := h1
 have c0 : w1.cell? ⟨b, 0, none⟩ = some (.pointer (some ⟨b, 0, none⟩)) := by rw [Lib.cell_of_heap hbk]; rfl
 have c1 : w1.cell? ⟨b, 1, none⟩ = some v := by rw [Lib.cell_of_heap hbk]; rfl
 go_wp2_with (at_builtin; refine Lib.wpList_append_own_string _ rfl _ _ 29 9 rfl B 5 i0 Tryz.underlying29 Tryz.underlying9 hi hz0 hz1 hz2 _ _ _ rfl hown s rfl ?c3 ?c4 ?c5 ?_)
 case c3 => unfold maxLen; omega
 case c4 => omega
 case c5 => have := hb1.size; omega
 intro v' w2 hown' hgrow _
 have hlt : b < w1.heap.size := by
   rcases Nat.lt_or_ge b w1.heap.size with h' | h'
   . exact h'
   . simp [Array.getElem?_eq_none h'] at hbk
 have hb2 : w2.heap[b]? = some (.cells #[.pointer (some ⟨b, 0, none⟩), v] 181 (0, 0)) := by
   rw [hgrow.block b hlt (fun e => hne e.symm)]
   exact hbk
 have d0 : w2.cell? ⟨b, 0, none⟩ = some (.pointer (some ⟨b, 0, none⟩)) := by rw [Lib.cell_of_heap hb2]; rfl
 have d1 : w2.cell? ⟨b, 1, none⟩ = some v := by rw [Lib.cell_of_heap hb2]; rfl
 have f1 : w2.frozen? ⟨b, 1, none⟩ = false := Lib.frozen_of_heap hb2 1
 obtain ⟨ao, n', cap, rfl⟩ : ∃ ao n' cap, v' = .slice ao n' cap := by
   rcases hown'.2 with ⟨hv, _⟩ | ⟨g, cap, cur, hv, _⟩
   . exact ⟨_, _, _, hv⟩
   . exact ⟨_, _, _, hv⟩
 go_wp2
 go_ret2
 refine ⟨rfl, ?_, ?_, ?_⟩
 . exact Lib.BuilderAt.put (T := 181) (e := 5) hB hb2 (bs' := bs ++ Lib.strCells s) (by simpa [Lib.strCells_length] using hown') (by decide)
 . exact (hb1.grown hgrow (by have := hb1.size; omega) (fun k hk => (hown.lt k hk).1)).setCell (p := ⟨b, 1, none⟩) hB _
 . exact (hk1.trans (qbf.grown hown hgrow)).trans (qbf.set b 1 w2 _)
end Go.Proofs.YtjnfhebbphdchaaGreatDoor.Pg
namespace Go.Proofs.YtjnfhebbphdchaaGreatDoor.Pg
open Go.RowKit Go.Shelf Go.Tm Go.Lx Go.Maps Go.Proofs.YtjnfhebbphdchaaGreatDoor.Pa
attribute [local go_sem] Oper.semAt_some
theorem qdM (s : ByteArray) (w : World) (hE : Go.Proofs.YtjnfhebbphdchaaGreatDoor.Env w) (hs : s.size <= 9223372036854775807) : Calls Tryz.prog 112 #[.string s] w fun e w' => e = .returned (.bool (wordB s)) /\ w = w' := by
 have k1 := YtjnfhebbphdchaaGreatDoor.qbD s w hs
 have k2 := hid (YtjnfhebbphdchaaGreatDoor.qbN s w hE)
 have hw : ∀ a b, nameB s = a -> isKey s.data.toList = b -> wordB s = (a && !b) := fun a b ha hb => by unfold wordB; rw [ha, hb]
 cases h1 : nameB s with
 | false =>
   rw [h1] at k1
   have hr : Hid (wordB s = false) := by show _ = _; rw [hw _ _ h1 rfl]; rfl
   replace k1 := hid k1
   clear hw h1 hs hE
   go_enter Tryz.func112, Tryz.ntmps112
   go_wp2_with fail
   refine k1.out.mono ?_
   rintro e w' ⟨rfl, rfl⟩
   go_wp2_with fail
   go_ret
   exact ⟨qae hr.out.symm, rfl⟩
 | true =>
   rw [h1] at k1
   obtain ⟨b, hb⟩ : ∃ b, isKey s.data.toList = b := ⟨_, rfl⟩
   have hr : Hid (wordB s = !b) := by show _ = _; rw [hw _ _ h1 hb]; rfl
   rw [hb] at k2
   replace k1 := hid k1
   clear hw h1 hs hE hb
   go_enter Tryz.func112, Tryz.ntmps112
   go_wp2_with fail
   refine k1.out.mono ?_
   rintro e w' ⟨rfl, rfl⟩
   go_wp2_with fail
   refine k2.out.mono ?_
   rintro e w' ⟨rfl, rfl⟩
   go_wp2_with fail
   go_ret
   exact ⟨qae hr.out.symm, rfl⟩
structure Small (p : P) : Prop where
 body : p.body.size <= 4194304
 defs : ∀ d ∈ p.defs, d.t.size <= 4194304
theorem qpy {α : Type} {l : List α} {f : α -> Bool} {d : α} {k : Nat} (hk : k < l.length) (h : f (l.getD k d) = false) : l.all f = false := by
 rw [List.all_eq_false]
 exact ⟨_, qbu hk, by rw [h]; decide⟩
theorem qle {α : Type} {l : List α} {f : α -> Bool} {d : α} (h : ∀ j, j < l.length -> f (l.getD j d) = true) : l.all f = true := by
 rw [List.all_eq_true]
 intro x hx
 obtain ⟨j, hj, rfl⟩ := List.getElem_of_mem hx
 have := h j hj
 rwa [List.getD_eq_getElem?_getD, List.getElem?_eq_getElem hj] at this
theorem qpz (x : PV) (w : World) (hE : EnvP w) (hA : ProgAt w x) (hz : Small x.p) :
   Calls Tryz.prog 70 #[.agg #[.slice x.I x.p.ins.length x.i, .slice x.C x.p.cells.length x.c, .slice x.F x.p.defs.length x.f, .int .i64 x.p.body.kind, .string x.p.body.name, .int .i64 x.p.body.num, .slice x.B x.p.body.kids.length x.b]] w fun e w' => e = .returned (.bool (qdq x.p)) /\ Below w.heap.size w w' := by
 have hx0 := World.alloc_heap_new w (.cells #[.slice x.I x.p.ins.length x.i, .slice x.C x.p.cells.length x.c, .slice x.F x.p.defs.length x.f, .int .i64 x.p.body.kind, .string x.p.body.name, .int .i64 x.p.body.num, .slice x.B x.p.body.kids.length x.b] 28)
 have hb0 := X.qab w (.cells #[.slice x.I x.p.ins.length x.i, .slice x.C x.p.cells.length x.c, .slice x.F x.p.defs.length x.f, .int .i64 x.p.body.kind, .string x.p.body.name, .int .i64 x.p.body.num, .slice x.B x.p.body.kids.length x.b] 28)
 obtain ⟨W1, hW1⟩ : ∃ W, w.alloc (.cells #[.slice x.I x.p.ins.length x.i, .slice x.C x.p.cells.length x.c, .slice x.F x.p.defs.length x.f, .int .i64 x.p.body.kind, .string x.p.body.name, .int .i64 x.p.body.num, .slice x.B x.p.body.kids.length x.b] 28) = W := ⟨_, rfl⟩
 rw [hW1] at hx0 hb0
 obtain ⟨p, I, i, C, c, F, f, B, b⟩ := x
 dsimp only at hx0 hb0 hW1 hA hz ⊢
 obtain ⟨ins, cells, defs, body⟩ := p
 dsimp only at hx0 hb0 hW1 hA hz ⊢
 obtain ⟨n1, hn1⟩ : ∃ n, ins.length = n := ⟨_, rfl⟩
 obtain ⟨n2, hn2⟩ : ∃ n, cells.length = n := ⟨_, rfl⟩
 obtain ⟨n3, hn3⟩ : ∃ n, defs.length = n := ⟨_, rfl⟩
 rw [hn1, hn2, hn3] at hx0 hW1 ⊢
 have q0 := qaa _ _ 0 _ _ _ hx0
 have q1 := qaa _ _ 1 _ _ _ hx0
 have q2 := qaa _ _ 2 _ _ _ hx0
 have hA1 := hid (hA.later hb0)
 have hE1 := hid (hE.later hb0)
 replace hz := hid hz
 clear hA hE
 replace hx0 := hid hx0
 replace hb0 := hid hb0
 replace hn1 := hid hn1
 replace hn2 := hid hn2
 replace hn3 := hid hn3
 obtain ⟨M, hM⟩ : ∃ M : Nat, (if (if n1 < n2 then (n2 : Int) else (n1 : Int)) < (n3 : Int) then (n3 : Int) else if n1 < n2 then (n2 : Int) else (n1 : Int)) = (M : Int) := by
   refine ⟨max (max n1 n2) n3, ?_⟩
   split <;> split <;> omega
 have hM2 : Hid ((M : Int) = max (max n1 n2) n3) := by
   show (M : Int) = _
   rw [<- hM]
   split <;> split <;> omega
 have hS : Hid (n1 <= 32 /\ n2 <= 32 /\ n3 <= 32 -> qdq ⟨ins, cells, defs, body⟩ = (ins.all (okDB 1) && cells.all (okDB 2147483648) && defs.all okDfB && YtjnfhebbphdchaaGreatDoor.qai body)) := fun h => by
   unfold qdq
   rw [decide_eq_true (show ins.length <= 32 /\ cells.length <= 32 /\ defs.length <= 32 from ⟨by have := hn1.out; omega, by have := hn2.out; omega, by have := hn3.out; omega⟩), Bool.true_and]
 by_cases hm : n1 <= 32 /\ n2 <= 32 /\ n3 <= 32
 . replace hS := hid (hS.out hm)
   have hg : ¬ (32 : Int) < M := by have := hM2.out; omega
   have hg2 : ¬ 32 < M := by omega
   have ha32 : n1 <= 32 := hm.1
   have hb32 : n2 <= 32 := hm.2.1
   have hc32 : n3 <= 32 := hm.2.2
   clear hm hM2
   go_enter Tryz.func70, Tryz.ntmps70
   go_wp2_with fail
   clear hM hg hg2
   go_loopw [23] (fun i wr => ∃ k : Nat, k <= n1 /\ i = .int .i64 k /\ Hid (∀ j, j < k -> okDB 1 (ins.getD j d0) = true) /\ Hid (Below W1.heap.size W1 wr)) (fun i _ => n1 - (intOf i).toNat)
   case atStart => exact ⟨0, Nat.zero_le _, rfl, (fun j hj => by omega), Below.refl _ _⟩
   case round =>
     obtain ⟨k, hk, rfl, hok, hB⟩ := hrel
     by_cases hlt : k < n1
     . have hAk : Decls wr I i ins := (hA1.out.later hB.out).ins
       have hlk : k < ins.length := by have := hn1.out; omega
       obtain ⟨bb, oo, rfl, hbb, hc⟩ := hAk.at_ (by intro e; rw [e] at hlk; simp at hlk)
       obtain ⟨c0, c1, c2⟩ := hc k hlk
       obtain ⟨z1, z2⟩ := hAk.szs _ (qbu (d := d0) hlk)
       have hno := hid (fun (k : Nat) (hlt : k < n1) (h : okDB 1 (ins.getD k d0) = false) => (show qdq ⟨ins, cells, defs, body⟩ = false by
         rw [hS.out, qpy (l := ins) (d := d0) (by have := hn1.out; omega) h]; simp))
       clear hc hAk
       have hgr := hid (fun (h : okDB 1 (ins.getD k d0) = true) => (show ∀ j, j < k + 1 -> okDB 1 (ins.getD j d0) = true from fun j hj => by
         by_cases e : j = k
         . rw [e]; exact h
         . exact hok.out j (by omega)))
       obtain ⟨q, hq⟩ : ∃ q, ins.getD k d0 = q := ⟨_, rfl⟩
       have hqo : Hid (okDB 1 (ins.getD k d0) = okDB 1 q) := by show _ = _; rw [hq]
       rw [hq] at c0 c1 c2 z1 z2
       obtain ⟨nm, lb, nn⟩ := q
       dsimp only at c0 c1 c2 z1 z2
       have hbx := World.alloc_heap_new wr (.cells #[.string nm, .string lb, .int .i64 nn] 67)
       have hb9 : Below W1.heap.size W1 (wr.alloc (.cells #[.string nm, .string lb, .int .i64 nn] 67)) := hB.out.alloc hB.out.size _
       obtain ⟨W9, hW9⟩ : ∃ W, wr.alloc (.cells #[.string nm, .string lb, .int .i64 nn] 67) = W := ⟨_, rfl⟩
       rw [hW9] at hbx hb9
       have y0 := qaa _ _ 0 _ _ _ hbx
       have y1 := qaa _ _ 1 _ _ _ hbx
       have y2 := qaa _ _ 2 _ _ _ hbx
       have kn := qdM nm W9 (hE1.out.later hb9).s.tm z1
       have kl := qdM lb W9 (hE1.out.later hb9).s.tm z2
       replace hbx := hid hbx
       replace hb9 := hid hb9
       clear z1 z2 hq hok
       cases e1 : wordB nm with
       | false =>
         rw [e1] at kn
         replace kn := hid kn
         have hF := hid (hno.out k hlt (by rw [hqo.out]; unfold okDB; simp only [e1]; simp))
         clear kl e1
         go_wp2_with fail
         refine kn.out.mono ?_
         rintro e w' ⟨rfl, rfl⟩
         go_wp2_with fail
         go_ret
         exact ⟨qae hF.out.symm, hb0.out.trans (hb9.out.mono hb0.out.size)⟩
       | true =>
         rw [e1] at kn
         replace kn := hid kn
         cases e2 : wordB lb with
         | false =>
           rw [e2] at kl
           replace kl := hid kl
           have hF := hid (hno.out k hlt (by rw [hqo.out]; unfold okDB; simp only [e1, e2]; simp))
           clear e1 e2
           go_wp2_with fail
           refine kn.out.mono ?_
           rintro e w' ⟨rfl, rfl⟩
           go_wp2_with fail
           refine kl.out.mono ?_
           rintro e w' ⟨rfl, rfl⟩
           go_wp2_with fail
           go_ret
           exact ⟨qae hF.out.symm, hb0.out.trans (hb9.out.mono hb0.out.size)⟩
         | true =>
           rw [e2] at kl
           replace kl := hid kl
           by_cases e3 : nn = 0
           . have e4 : (nn != 0) = false := by rw [e3]; rfl
             have hG := hid (hgr.out (by rw [hqo.out]; unfold okDB; simp only [e1, e2, e3]; simp))
             clear e1 e2 e3
             go_wp2_with fail
             refine kn.out.mono ?_
             rintro e w' ⟨rfl, rfl⟩
             go_wp2_with fail
             refine kl.out.mono ?_
             rintro e w' ⟨rfl, rfl⟩
             go_wp2_with fail
             go_roundw
             case rel => exact ⟨k + 1, by omega, by go_num, hG, hb9⟩
             case measure => simp [intOf]; omega
           . have e4 : (nn != 0) = true := by simpa using e3
             have hF := hid (hno.out k hlt (by rw [hqo.out]; unfold okDB; simp only [e1, e2]; simp; omega))
             clear e1 e2
             go_wp2_with fail
             refine kn.out.mono ?_
             rintro e w' ⟨rfl, rfl⟩
             go_wp2_with fail
             refine kl.out.mono ?_
             rintro e w' ⟨rfl, rfl⟩
             go_wp2_with fail
             go_ret
             exact ⟨qae hF.out.symm, hb0.out.trans (hb9.out.mono hb0.out.size)⟩
     . obtain rfl : k = n1 := by omega
       have hall1 : Hid (ins.all (okDB 1) = true) := qle (l := ins) (d := d0) (fun j hj => hok.out j (by have := hn1.out; omega))
       clear hok
       have q0 := qaa _ _ 0 _ _ _ ((hB.out.block _ (World.lt_of_get hx0.out)).trans hx0.out)
       have q1 := qaa _ _ 1 _ _ _ ((hB.out.block _ (World.lt_of_get hx0.out)).trans hx0.out)
       have q2 := qaa _ _ 2 _ _ _ ((hB.out.block _ (World.lt_of_get hx0.out)).trans hx0.out)
       have q3 := qaa _ _ 3 _ _ _ ((hB.out.block _ (World.lt_of_get hx0.out)).trans hx0.out)
       have q4 := qaa _ _ 4 _ _ _ ((hB.out.block _ (World.lt_of_get hx0.out)).trans hx0.out)
       have q5 := qaa _ _ 5 _ _ _ ((hB.out.block _ (World.lt_of_get hx0.out)).trans hx0.out)
       have q6 := qaa _ _ 6 _ _ _ ((hB.out.block _ (World.lt_of_get hx0.out)).trans hx0.out)
       have hB0 := hB
       clear hB
       go_wp2_with fail
       clear q0 q1 q2 q3 q4 q5 q6
       go_loopw [46] (fun i wr => ∃ k : Nat, k <= n2 /\ i = .int .i64 k /\ Hid (∀ j, j < k -> okDB 2147483648 (cells.getD j d0) = true) /\ Hid (Below W1.heap.size W1 wr)) (fun i _ => n2 - (intOf i).toNat)
       case atStart => exact ⟨0, Nat.zero_le _, rfl, (fun j hj => by omega), hB0.out⟩
       case round =>
         obtain ⟨k, hk, rfl, hok, hB⟩ := hrel
         by_cases hlt : k < n2
         . have hAk : Decls wr C c cells := (hA1.out.later hB.out).cells
           have hlk : k < cells.length := by have := hn2.out; omega
           obtain ⟨bb, oo, rfl, hbb, hc⟩ := hAk.at_ (by intro e; rw [e] at hlk; simp at hlk)
           obtain ⟨c0, c1, c2⟩ := hc k hlk
           obtain ⟨z1, z2⟩ := hAk.szs _ (qbu (d := d0) hlk)
           have hno := hid (fun (k : Nat) (hlt : k < n2) (h : okDB 2147483648 (cells.getD k d0) = false) => (show qdq ⟨ins, cells, defs, body⟩ = false by
             rw [hS.out, qpy (l := cells) (d := d0) (by have := hn2.out; omega) h]; simp))
           clear hc hAk
           have hgr := hid (fun (h : okDB 2147483648 (cells.getD k d0) = true) => (show ∀ j, j < k + 1 -> okDB 2147483648 (cells.getD j d0) = true from fun j hj => by
             by_cases e : j = k
             . rw [e]; exact h
             . exact hok.out j (by omega)))
           obtain ⟨q, hq⟩ : ∃ q, cells.getD k d0 = q := ⟨_, rfl⟩
           have hqo : Hid (okDB 2147483648 (cells.getD k d0) = okDB 2147483648 q) := by show _ = _; rw [hq]
           rw [hq] at c0 c1 c2 z1 z2
           obtain ⟨nm, lb, nn⟩ := q
           dsimp only at c0 c1 c2 z1 z2
           have hbx := World.alloc_heap_new wr (.cells #[.string nm, .string lb, .int .i64 nn] 67)
           have hb9 : Below W1.heap.size W1 (wr.alloc (.cells #[.string nm, .string lb, .int .i64 nn] 67)) := hB.out.alloc hB.out.size _
           obtain ⟨W9, hW9⟩ : ∃ W, wr.alloc (.cells #[.string nm, .string lb, .int .i64 nn] 67) = W := ⟨_, rfl⟩
           rw [hW9] at hbx hb9
           have y0 := qaa _ _ 0 _ _ _ hbx
           have y1 := qaa _ _ 1 _ _ _ hbx
           have y2 := qaa _ _ 2 _ _ _ hbx
           have kn := qdM nm W9 (hE1.out.later hb9).s.tm z1
           have kl := qdM lb W9 (hE1.out.later hb9).s.tm z2
           replace hbx := hid hbx
           replace hb9 := hid hb9
           clear z1 z2 hq hok
           cases e1 : wordB nm with
           | false =>
             rw [e1] at kn
             replace kn := hid kn
             have hF := hid (hno.out k hlt (by rw [hqo.out]; unfold okDB; simp only [e1]; simp))
             clear kl e1
             go_wp2_with fail
             refine kn.out.mono ?_
             rintro e w' ⟨rfl, rfl⟩
             go_wp2_with fail
             go_ret
             exact ⟨qae hF.out.symm, hb0.out.trans (hb9.out.mono hb0.out.size)⟩
           | true =>
             rw [e1] at kn
             replace kn := hid kn
             cases e2 : wordB lb with
             | false =>
               rw [e2] at kl
               replace kl := hid kl
               have hF := hid (hno.out k hlt (by rw [hqo.out]; unfold okDB; simp only [e1, e2]; simp))
               clear e1 e2
               go_wp2_with fail
               refine kn.out.mono ?_
               rintro e w' ⟨rfl, rfl⟩
               go_wp2_with fail
               refine kl.out.mono ?_
               rintro e w' ⟨rfl, rfl⟩
               go_wp2_with fail
               go_ret
               exact ⟨qae hF.out.symm, hb0.out.trans (hb9.out.mono hb0.out.size)⟩
             | true =>
               rw [e2] at kl
               replace kl := hid kl
               by_cases e3 : nn < 0
               . have hF := hid (hno.out k hlt (by rw [hqo.out]; unfold okDB; simp only [e1, e2]; simp; omega))
                 have e4 : decide (nn < 0) = true := decide_eq_true e3
                 clear e1 e2
                 go_wp2_with fail
                 refine kn.out.mono ?_
                 rintro e w' ⟨rfl, rfl⟩
                 go_wp2_with fail
                 refine kl.out.mono ?_
                 rintro e w' ⟨rfl, rfl⟩
                 go_wp2_with fail
                 go_ret
                 exact ⟨qae hF.out.symm, hb0.out.trans (hb9.out.mono hb0.out.size)⟩
               . have e4 : decide (nn < 0) = false := decide_eq_false e3
                 by_cases e5 : 2147483647 < nn
                 . have hF := hid (hno.out k hlt (by rw [hqo.out]; unfold okDB; simp only [e1, e2]; simp; omega))
                   have e6 : decide (2147483647 < nn) = true := decide_eq_true e5
                   clear e1 e2
                   go_wp2_with fail
                   refine kn.out.mono ?_
                   rintro e w' ⟨rfl, rfl⟩
                   go_wp2_with fail
                   refine kl.out.mono ?_
                   rintro e w' ⟨rfl, rfl⟩
                   go_wp2_with fail
                   go_ret
                   exact ⟨qae hF.out.symm, hb0.out.trans (hb9.out.mono hb0.out.size)⟩
                 . have hG := hid (hgr.out (by rw [hqo.out]; unfold okDB; simp only [e1, e2]; simp; omega))
                   have e6 : decide (2147483647 < nn) = false := decide_eq_false e5
                   clear e1 e2
                   go_wp2_with fail
                   refine kn.out.mono ?_
                   rintro e w' ⟨rfl, rfl⟩
                   go_wp2_with fail
                   refine kl.out.mono ?_
                   rintro e w' ⟨rfl, rfl⟩
                   go_wp2_with fail
                   go_roundw
                   case rel => exact ⟨k + 1, by omega, by go_num, hG, hb9⟩
                   case measure => simp [intOf]; omega
         . obtain rfl : k = n2 := by omega
           have hall2 : Hid (cells.all (okDB 2147483648) = true) := qle (l := cells) (d := d0) (fun j hj => hok.out j (by have := hn2.out; omega))
           clear hok
           have q0 := qaa _ _ 0 _ _ _ ((hB.out.block _ (World.lt_of_get hx0.out)).trans hx0.out)
           have q1 := qaa _ _ 1 _ _ _ ((hB.out.block _ (World.lt_of_get hx0.out)).trans hx0.out)
           have q2 := qaa _ _ 2 _ _ _ ((hB.out.block _ (World.lt_of_get hx0.out)).trans hx0.out)
           have q3 := qaa _ _ 3 _ _ _ ((hB.out.block _ (World.lt_of_get hx0.out)).trans hx0.out)
           have q4 := qaa _ _ 4 _ _ _ ((hB.out.block _ (World.lt_of_get hx0.out)).trans hx0.out)
           have q5 := qaa _ _ 5 _ _ _ ((hB.out.block _ (World.lt_of_get hx0.out)).trans hx0.out)
           have q6 := qaa _ _ 6 _ _ _ ((hB.out.block _ (World.lt_of_get hx0.out)).trans hx0.out)
           have hB0 := hB
           clear hB
           go_wp2_with fail
           clear q0 q1 q2 q3 q4 q5 q6
           go_loopw [74] (fun i wr => ∃ k : Nat, k <= n3 /\ i = .int .i64 k /\ Hid (∀ j, j < k -> okDfB (defs.getD j f0) = true) /\ Hid (Below W1.heap.size W1 wr)) (fun i _ => n3 - (intOf i).toNat)
           case atStart => exact ⟨0, Nat.zero_le _, rfl, (fun j hj => by omega), hB0⟩
           case round =>
             obtain ⟨k, hk, rfl, hok, hB⟩ := hrel
             by_cases hlt : k < n3
             . have hAk : Defs wr F f defs := (hA1.out.later hB.out).defs
               have hlk : k < defs.length := by have := hn3.out; omega
               obtain ⟨bb, oo, rfl, hbb, hc⟩ := hAk.at_ (by intro e; rw [e] at hlk; simp at hlk)
               obtain ⟨c0, hnode⟩ := hc k hlk
               have z1 := hAk.szs _ (qbu (d := f0) hlk)
               have z2 := hz.out.defs _ (qbu (d := f0) hlk)
               have hno := hid (fun (k : Nat) (hlt : k < n3) (h : okDfB (defs.getD k f0) = false) => (show qdq ⟨ins, cells, defs, body⟩ = false by
                 rw [hS.out, qpy (l := defs) (d := f0) (by have := hn3.out; omega) h]; simp))
               clear hc hAk
               have hgr := hid (fun (h : okDfB (defs.getD k f0) = true) => (show ∀ j, j < k + 1 -> okDfB (defs.getD j f0) = true from fun j hj => by
                 by_cases e : j = k
                 . rw [e]; exact h
                 . exact hok.out j (by omega)))
               obtain ⟨q, hq⟩ : ∃ q, defs.getD k f0 = q := ⟨_, rfl⟩
               have hqo : Hid (okDfB (defs.getD k f0) = okDfB q) := by show _ = _; rw [hq]
               rw [hq] at c0 z1 z2 hnode
               obtain ⟨nm, t⟩ := q
               dsimp only at c0 z1 z2 hnode
               obtain ⟨TA, tc, hh, hT⟩ := qaG hnode
               have c1 := hh.kind
               have c2 := hh.name
               have c3 := hh.num
               have c4 := hh.kids
               have hbx := World.alloc_heap_new wr (.cells #[.string nm, .int .i64 t.kind, .string t.name, .int .i64 t.num, .slice TA t.kids.length tc] 60)
               have hba := X.qab wr (.cells #[.string nm, .int .i64 t.kind, .string t.name, .int .i64 t.num, .slice TA t.kids.length tc] 60)
               obtain ⟨W9, hW9⟩ : ∃ W, wr.alloc (.cells #[.string nm, .int .i64 t.kind, .string t.name, .int .i64 t.num, .slice TA t.kids.length tc] 60) = W := ⟨_, rfl⟩
               rw [hW9] at hbx hba
               have hb9 : Below W1.heap.size W1 W9 := hB.out.trans (hba.mono hB.out.size)
               have y0 := qaa _ _ 0 _ _ _ hbx
               have y1 := qaa _ _ 1 _ _ _ hbx
               have y2 := qaa _ _ 2 _ _ _ hbx
               have y3 := qaa _ _ 3 _ _ _ hbx
               have y4 := qaa _ _ 4 _ _ _ hbx
               have kn := qdM nm W9 (hE1.out.later hb9).s.tm z1
               have kr := YtjnfhebbphdchaaGreatDoor.qcv t TA tc W9 (hE1.out.later hb9).s.tm z2 (hT.later hba)
               unfold tmV at kr
               replace hbx := hid hbx
               replace hb9 := hid hb9
               clear z1 z2 hq hok hnode hh hT hba
               cases e1 : wordB nm with
               | false =>
                 rw [e1] at kn
                 replace kn := hid kn
                 have hF := hid (hno.out k hlt (by rw [hqo.out]; unfold okDfB; simp only [e1]; simp))
                 clear kr e1
                 go_wp2_with fail
                 refine kn.out.mono ?_
                 rintro e w' ⟨rfl, rfl⟩
                 go_wp2_with fail
                 go_ret
                 exact ⟨qae hF.out.symm, hb0.out.trans (hb9.out.mono hb0.out.size)⟩
               | true =>
                 rw [e1] at kn
                 replace kn := hid kn
                 by_cases e2 : t.kind = 3
                 . have e4 : (t.kind != 3) = false := by rw [e2]; rfl
                   obtain ⟨rt, hrt⟩ : ∃ r, YtjnfhebbphdchaaGreatDoor.qai t = r := ⟨_, rfl⟩
                   rw [hrt] at kr
                   replace kr := hid kr
                   cases rt with
                   | true =>
                     have hG := hid (hgr.out (by rw [hqo.out]; unfold okDfB; simp only [e1, e2, hrt]; rfl))
                     clear e1 hrt e2
                     go_wp2_with fail
                     refine kn.out.mono ?_
                     rintro e w' ⟨rfl, rfl⟩
                     go_wp2_with fail
                     refine kr.out.mono ?_
                     rintro e w5 ⟨rfl, hb5⟩
                     have hb7 := hid (hb9.out.trans (hb5.mono hb9.out.size))
                     clear hb5 kr
                     go_wp2_with fail
                     go_roundw
                     case rel => exact ⟨k + 1, by omega, by go_num, hG, hb7⟩
                     case measure => simp [intOf]; omega
                   | false =>
                     have hF := hid (hno.out k hlt (by rw [hqo.out]; unfold okDfB; simp only [e1, e2, hrt]; rfl))
                     clear e1 hrt e2
                     go_wp2_with fail
                     refine kn.out.mono ?_
                     rintro e w' ⟨rfl, rfl⟩
                     go_wp2_with fail
                     refine kr.out.mono ?_
                     rintro e w5 ⟨rfl, hb5⟩
                     have hb7 := hid (hb9.out.trans (hb5.mono hb9.out.size))
                     clear hb5 kr
                     go_wp2_with fail
                     go_ret
                     exact ⟨qae hF.out.symm, hb0.out.trans (hb7.out.mono hb0.out.size)⟩
                 . have e4 : (t.kind != 3) = true := by simpa using e2
                   have hF := hid (hno.out k hlt (by rw [hqo.out]; unfold okDfB; simp only [e1]; simp [e2]))
                   clear kr e1
                   go_wp2_with fail
                   refine kn.out.mono ?_
                   rintro e w' ⟨rfl, rfl⟩
                   go_wp2_with fail
                   go_ret
                   exact ⟨qae hF.out.symm, hb0.out.trans (hb9.out.mono hb0.out.size)⟩
             . obtain rfl : k = n3 := by omega
               have hall3 : Hid (defs.all okDfB = true) := qle (l := defs) (d := f0) (fun j hj => hok.out j (by have := hn3.out; omega))
               have hT := (hA1.out.later hB.out).body
               have kr := YtjnfhebbphdchaaGreatDoor.qcv body B b wr (hE1.out.later hB.out).s.tm hz.out.body hT
               unfold tmV at kr
               have hF : Hid (qdq ⟨ins, cells, defs, body⟩ = YtjnfhebbphdchaaGreatDoor.qai body) := by
                 show _ = _
                 rw [hS.out, hall1.out, hall2.out, hall3.out]; rfl
               replace kr := hid kr
               clear hok hT
               have q0 := qaa _ _ 0 _ _ _ ((hB.out.block _ (World.lt_of_get hx0.out)).trans hx0.out)
               have q1 := qaa _ _ 1 _ _ _ ((hB.out.block _ (World.lt_of_get hx0.out)).trans hx0.out)
               have q2 := qaa _ _ 2 _ _ _ ((hB.out.block _ (World.lt_of_get hx0.out)).trans hx0.out)
               have q3 := qaa _ _ 3 _ _ _ ((hB.out.block _ (World.lt_of_get hx0.out)).trans hx0.out)
               have q4 := qaa _ _ 4 _ _ _ ((hB.out.block _ (World.lt_of_get hx0.out)).trans hx0.out)
               have q5 := qaa _ _ 5 _ _ _ ((hB.out.block _ (World.lt_of_get hx0.out)).trans hx0.out)
               have q6 := qaa _ _ 6 _ _ _ ((hB.out.block _ (World.lt_of_get hx0.out)).trans hx0.out)
               go_wp2_with fail
               refine kr.out.mono ?_
               rintro e w5 ⟨rfl, hb5⟩
               have hb7 := hid (hb0.out.trans ((hB.out.trans (hb5.mono hB.out.size)).mono hb0.out.size))
               clear hb5 kr
               go_wp2_with fail
               go_ret
               exact ⟨qae hF.out.symm, hb7.out⟩
 . have hr : Hid (qdq ⟨ins, cells, defs, body⟩ = false) := by
     show _ = _
     rw [Bool.eq_false_iff]
     intro h
     have h2 := qhi.1 h
     have h3 : ins.length <= 32 := h2.li
     have h4 : cells.length <= 32 := h2.lc
     have h5 : defs.length <= 32 := h2.ld
     have := hn1.out; have := hn2.out; have := hn3.out
     exact hm ⟨by omega, by omega, by omega⟩
   have hg : (32 : Int) < M := by have := hM2.out; omega
   have hg2 : 32 < M := by omega
   clear hm hM2
   go_enter Tryz.func70, Tryz.ntmps70
   go_wp2_with fail
   go_ret
   exact ⟨qae hr.out.symm, hb0.out⟩
def Bld (B : Nat) (l : List UInt8) (W : World) : Prop := Lib.IsBuilder 181 5 B B (Lib.byteCells l) W
theorem Bld.later {B : Nat} {l : List UInt8} {W W' : World} (h : Bld B l W) (hb : Below W.heap.size W W') : Bld B l W' := by
 rcases h with h | h
 . obtain ⟨h1, v, h2, h3, h4⟩ := h
   exact .inl ⟨h1, v, (hb.block _ (World.lt_of_get h2)).trans h2, qbX h3 hb, h4⟩
 . obtain ⟨h1, v, h2, h3, h4⟩ := h
   exact .inr ⟨h1, v, (hb.block _ (World.lt_of_get h2)).trans h2, qbX h3 hb, h4⟩
theorem Bld.new (w : World) : Bld w.heap.size [] (w.alloc (.cells #[.pointer none, .slice none 0 0] 181)) := Lib.fresh_isBuilder _ _ w
theorem Bld.lt {B : Nat} {l : List UInt8} {W : World} (h : Bld B l W) : B < W.heap.size := by
 rcases h with h | h <;> exact h.lt
theorem qkb (a b : List UInt8) : Lib.byteCells (a ++ b) = Lib.byteCells a ++ Lib.byteCells b := by unfold Lib.byteCells; rw [List.map_append]
theorem qkc (l : List UInt8) : (Lib.byteCells l).length = l.length := by unfold Lib.byteCells; rw [List.length_map]
theorem qgm (B g : Nat) (l : List UInt8) (fs : List ByteArray) (w : World) (h : Bld B l w) (hf : ∀ (j : Nat) x, fs[j]? = some x -> w.cell? ⟨g, j, none⟩ = some (.string x)) (hg : g < w.heap.size) (hn : fs.length <= 1000) (hl : l.length + (Lib.join (fs.map (·.data.toList)) [32]).length + 1 <= 1099511627776) :
   Calls Tryz.prog 113 #[.pointer (some ⟨B, 0, none⟩), .slice (some ⟨g, 0, none⟩) fs.length fs.length] w fun e w' => e = .returned (.tuple #[]) /\ Bld B (l ++ (Lib.join (fs.map (·.data.toList)) [32] ++ [10])) w' /\ Below B w w' /\ qbf B w w' := by
 have hlt := h.lt
 have kj := Tryz.strings_Join g 0 fs.length fs ⟨#[32]⟩ w (fun j x hx => by rw [Nat.zero_add]; exact hf j x hx) hg (by omega) (Nat.le_refl _) (by show (Lib.join (fs.map (·.data.toList)) [32]).length <= _; omega)
 have ks := hid (fun (W : World) (hb : Below w.heap.size w W) => qhp B B (Lib.byteCells l) ⟨(Lib.join (fs.map (·.data.toList)) [32]).toArray⟩ W (h.later hb) (by rw [qkc]; show l.length + (Lib.join (fs.map (·.data.toList)) [32]).toArray.size <= _; simp; omega) (by have := hb.size; omega))
 obtain ⟨J, hJ⟩ : ∃ J, Lib.join (fs.map (·.data.toList)) [32] = J := ⟨_, rfl⟩
 have hj2 : (Lib.join (fs.map (·.data.toList)) (⟨#[32]⟩ : ByteArray).data.toList) = J := hJ
 rw [hj2] at kj
 rw [hJ] at ks hl ⊢
 obtain ⟨N, hN⟩ : ∃ N, fs.length = N := ⟨_, rfl⟩
 rw [hN] at kj ⊢
 have hlh := hid hl
 have hbw := hid (Nat.le_of_lt hlt)
 replace kj := hid kj
 clear hf hg hn h hJ hj2 hN hlt hl
 go_enter Tryz.func113, Tryz.ntmps113
 go_wp2_with fail
 refine kj.out.mono ?_
 rintro e w1 ⟨rfl, hb1⟩
 have ks1 := hid (ks.out w1 hb1)
 have hb1B := hid (hb1.mono hbw.out)
 have hk1 := hid (qbf.of (B := B) hb1)
 clear kj ks hb1
 go_wp2_with fail
 refine ks1.out.mono ?_
 rintro e w2 ⟨rfl, hB2, hb2, hk2⟩
 replace hk2 := hid hk2
 have hlt2 := hB2.lt
 have kb := hid (qiM B B (Lib.byteCells l ++ Lib.strCells ⟨J.toArray⟩) 10 w2 (.inr hB2) (by rw [List.length_append, qkc, Lib.strCells_length]; show l.length + J.toArray.size + 1 <= _; have := hlh.out; simp; omega) (Nat.le_of_lt hlt2))
 have hb12 := hid (hb1B.out.trans hb2)
 clear ks1 hB2 hb2 hlt2
 go_wp2_with fail
 refine kb.out.mono ?_
 rintro e w3 ⟨rfl, hB3, hb3, hk3⟩
 have hend : Hid (Bld B (l ++ (J ++ [10])) w3 /\ Below B w w3 /\ qbf B w w3) := by
   refine ⟨.inr ?_, hb12.out.trans hb3, (hk1.out.trans hk2.out).trans hk3⟩
   have e1 : Lib.byteCells (l ++ (J ++ [10])) = Lib.byteCells l ++ Lib.strCells ⟨J.toArray⟩ ++ [.int .u8 10] := by
     rw [qkb, qkb, <- List.append_assoc]; rfl
   rw [e1]; exact hB3
 clear kb hB3 hb3 hk3
 go_wp2_with fail
 go_end0
 exact ⟨rfl, hend.out⟩
def fI (d : D) : List UInt8 := lineS 10 (inL d ++ [dot])
def fC (d : D) : List UInt8 := lineS 10 (cellL d ++ [dot])
def fD (d : Df) : List UInt8 := lineS 10 (defL d ++ [dot])
theorem qnw (p : P) : textL 10 p = p.ins.flatMap fI ++ (p.cells.flatMap fC ++ (p.defs.flatMap fD ++ lineS 10 (toksT p.body))) := by
 unfold textL qhg pieces
 simp only [List.flatMap_append, List.map_append, List.flatMap_map, List.flatMap_cons, List.flatMap_nil, List.append_nil, List.append_assoc, List.map_map]
 rfl
theorem qhq {α : Type} {f : α -> List UInt8} {l : List α} {k : Nat} (d : α) (hk : k < l.length) : (l.take (k + 1)).flatMap f = (l.take k).flatMap f ++ f (l.getD k d) := by
 rw [List.take_succ_eq_append_getElem hk, List.flatMap_append, List.getD_eq_getElem?_getD, List.getElem?_eq_getElem hk]
 simp
theorem qfw {α : Type} {f : α -> List UInt8} (l : List α) (k : Nat) : ((l.take k).flatMap f).length <= (l.flatMap f).length := by
 have h : l.flatMap f = (l.take k).flatMap f ++ (l.drop k).flatMap f := by rw [<- List.flatMap_append, List.take_append_drop]
 rw [h, List.length_append]; omega
theorem qgn {W : World} {b : Nat} {fs : List ByteArray} {cs : Array Value} {ty : TypeId} (h : W.heap[b]? = some (.cells cs ty (0, 0))) (hc : cs = (fs.map Value.string).toArray) (j : Nat) (x : ByteArray) (hx : fs[j]? = some x) : W.cell? ⟨b, j, none⟩ = some (.string x) := by
 rw [qaa W b j _ _ _ h, hc, List.getElem?_toArray, List.getElem?_map, hx]; rfl
theorem qpA (d : Df) (h : toksT d.t ≠ []) : qaS (defL d ++ [dot]) = Lib.join [[100, 101, 102], d.name.data.toList, [61], qaS (toksT d.t), [46]] [32] := by
 have e1 : defL d ++ [dot] = kDef :: nm d.name :: mTok [61] :: (toksT d.t ++ [dot]) := rfl
 rw [e1, qcl _ (by simp), qcl _ (by simp), qcl _ (by simp), qrm (by simp) h, qoW]
 rw [Lib.join_cons]
 simp [Lib.joinTail]
 rfl
theorem qrb (x : PV) (w : World) (hE : EnvP w) (hA : ProgAt w x) (hS : Sound x.p) (hlen : (textL 10 x.p).length <= 1000000000) :
   Calls Tryz.prog 71 #[.agg #[.slice x.I x.p.ins.length x.i, .slice x.C x.p.cells.length x.c, .slice x.F x.p.defs.length x.f, .int .i64 x.p.body.kind, .string x.p.body.name, .int .i64 x.p.body.num, .slice x.B x.p.body.kids.length x.b]] w fun e w' => e = .returned (.string (X.strOf (textL 10 x.p))) /\ Below w.heap.size w w' := by
 have hx0 := World.alloc_heap_new w (.cells #[.slice x.I x.p.ins.length x.i, .slice x.C x.p.cells.length x.c, .slice x.F x.p.defs.length x.f, .int .i64 x.p.body.kind, .string x.p.body.name, .int .i64 x.p.body.num, .slice x.B x.p.body.kids.length x.b] 28)
 have hb0 := X.qab w (.cells #[.slice x.I x.p.ins.length x.i, .slice x.C x.p.cells.length x.c, .slice x.F x.p.defs.length x.f, .int .i64 x.p.body.kind, .string x.p.body.name, .int .i64 x.p.body.num, .slice x.B x.p.body.kids.length x.b] 28)
 obtain ⟨W1, hW1⟩ : ∃ W, w.alloc (.cells #[.slice x.I x.p.ins.length x.i, .slice x.C x.p.cells.length x.c, .slice x.F x.p.defs.length x.f, .int .i64 x.p.body.kind, .string x.p.body.name, .int .i64 x.p.body.num, .slice x.B x.p.body.kids.length x.b] 28) = W := ⟨_, rfl⟩
 rw [hW1] at hx0 hb0
 have hBn := Bld.new W1
 have hb1 := X.qab W1 (.cells #[.pointer none, .slice none 0 0] 181)
 obtain ⟨W2, hW2⟩ : ∃ W, W1.alloc (.cells #[.pointer none, .slice none 0 0] 181) = W := ⟨_, rfl⟩
 rw [hW2] at hBn hb1
 have hb2 := hb0.trans (hb1.mono hb0.size)
 rw [qnw] at hlen ⊢
 obtain ⟨p, I, i, C, c, F, f, B, b⟩ := x
 dsimp only at hx0 hb0 hW1 hA hS hlen ⊢
 obtain ⟨ins, cells, defs, body⟩ := p
 dsimp only at hx0 hb0 hW1 hA hS hlen ⊢
 obtain ⟨n1, hn1⟩ : ∃ n, ins.length = n := ⟨_, rfl⟩
 obtain ⟨n2, hn2⟩ : ∃ n, cells.length = n := ⟨_, rfl⟩
 obtain ⟨n3, hn3⟩ : ∃ n, defs.length = n := ⟨_, rfl⟩
 have ha32 : n1 <= 32 := by have : ins.length <= 32 := hS.li; omega
 have hb32 : n2 <= 32 := by have : cells.length <= 32 := hS.lc; omega
 have hc32 : n3 <= 32 := by have : defs.length <= 32 := hS.ld; omega
 rw [hn1, hn2, hn3] at hx0 hW1 ⊢
 have q0 := qaa _ _ 0 _ _ _ ((hb1.block _ (World.lt_of_get hx0)).trans hx0)
 have q1 := qaa _ _ 1 _ _ _ ((hb1.block _ (World.lt_of_get hx0)).trans hx0)
 have q2 := qaa _ _ 2 _ _ _ ((hb1.block _ (World.lt_of_get hx0)).trans hx0)
 have hA1 := hid (hA.later hb0)
 have hE1 := hid (hE.later hb0)
 simp only [List.length_append] at hlen
 replace hlen := hid hlen
 replace hS := hid hS
 clear hA hE
 have hx1 := hid hx0
 replace hx0 := hid hx0
 replace hb0 := hid hb0
 replace hb1 := hid hb1
 replace hb2 := hid hb2
 replace hBn := hid hBn
 replace hn1 := hid hn1
 replace hn2 := hid hn2
 replace hn3 := hid hn3
 obtain ⟨Z, hZ⟩ : ∃ Z, W1.heap.size = Z := ⟨_, rfl⟩
 rw [hZ] at hBn
 have hmono := hid (fun (W : World) (h : Below Z W1 W) => (show Below W1.heap.size W1 W by rw [hZ]; exact h))
 have hzw := hid (show w.heap.size < Z by rw [<- hZ]; exact World.lt_of_get hx0.out)
 have hB2 : Hid (Below Z W1 W2) := by have := hb1.out; rw [hZ] at this; exact this
 go_enter Tryz.func71, Tryz.ntmps71
 go_wp2_with fail
 replace hW1 := hid hW1
 replace hW2 := hid hW2
 clear q0 q1 q2
 go_loopw [13] (fun i wr => ∃ k : Nat, k <= n1 /\ i = .int .i64 k /\ Hid (Bld Z ((ins.take k).flatMap fI) wr) /\ Hid (Below Z W1 wr)) (fun i _ => n1 - (intOf i).toNat)
 case atStart => exact ⟨0, Nat.zero_le _, rfl, by have h := hBn.out; show Bld _ _ _; simpa using h, hB2⟩
 case round =>
   obtain ⟨k, hk, rfl, hD, hB⟩ := hrel
   by_cases hlt : k < n1
   . have hAk : Decls wr I i ins := (hA1.out.later (hmono.out wr hB.out)).ins
     have hlk : k < ins.length := by have := hn1.out; omega
     obtain ⟨bb, oo, rfl, hbb, hc⟩ := hAk.at_ (by intro e; rw [e] at hlk; simp at hlk)
     obtain ⟨c0, c1, c2⟩ := hc k hlk
     have hft := hid (qhq (f := fI) d0 hlk)
     have hfl := hid (qfw (f := fI) ins (k + 1))
     have hok := hS.out.ins _ (qbu (d := d0) hlk)
     clear hc hAk
     obtain ⟨q, hq⟩ : ∃ q, ins.getD k d0 = q := ⟨_, rfl⟩
     rw [hq] at c0 c1 c2 hft hok
     obtain ⟨nm, lb, nn⟩ := q
     dsimp only at c0 c1 c2
     have hbx := World.alloc_heap_new wr (.cells #[.string nm, .string lb, .int .i64 nn] 67)
     have hba := X.qab wr (.cells #[.string nm, .string lb, .int .i64 nn] 67)
     obtain ⟨W9, hW9⟩ : ∃ W, wr.alloc (.cells #[.string nm, .string lb, .int .i64 nn] 67) = W := ⟨_, rfl⟩
     rw [hW9] at hbx hba
     have hD9 := hD.out.later hba
     have hZr : Z <= wr.heap.size := Nat.le_of_lt hD.out.lt
     have hb9 : Below Z W1 W9 := hB.out.trans (hba.mono hZr)
     have y0 := qaa _ _ 0 _ _ _ hbx
     have y1 := qaa _ _ 1 _ _ _ hbx
     have y2 := qaa _ _ 2 _ _ _ hbx
     obtain ⟨J, hJ⟩ : ∃ J, Lib.join (([⟨#[105, 110, 112, 117, 116]⟩, nm, ⟨#[58]⟩, lb, ⟨#[46]⟩] : List ByteArray).map (·.data.toList)) [32] = J := ⟨_, rfl⟩
     have hJf : fI ⟨nm, lb, nn⟩ = J ++ [10] := by
       rw [<- hJ]
       show lineS 10 _ = _
       unfold lineS qaS
       rfl
     have kl := hid (fun (W : World) (hD : Bld Z ((ins.take k).flatMap fI) W) => qgm Z W.heap.size ((ins.take k).flatMap fI) [⟨#[105, 110, 112, 117, 116]⟩, nm, ⟨#[58]⟩, lb, ⟨#[46]⟩] (W.alloc (.cells #[.string ⟨#[105, 110, 112, 117, 116]⟩, .string nm, .string ⟨#[58]⟩, .string lb, .string ⟨#[46]⟩] 9)) (hD.later (X.qab _ _)) (qgn (World.alloc_heap_new _ _) rfl) (by simp) (Nat.le_of_ble_eq_true rfl) (by
           rw [hJ]
           have h1 := hlen.out; have h2 := hfl.out; rw [hft.out, List.length_append] at h2; have h3 : (fI ⟨nm, lb, nn⟩).length = J.length + 1 := by rw [hJf, List.length_append]; rfl
           omega))
     rw [hJ] at kl
     have hnx := hid (fun (W : World) (h : Bld Z (((ins.take k).flatMap fI) ++ (J ++ [10])) W) => (show Bld Z ((ins.take (k + 1)).flatMap fI) W by
       rw [hft.out, hJf]
       exact h))
     have kl9 := kl.out W9 hD9
     have hsz9 := hba.size
     obtain ⟨W8, hW8⟩ : ∃ W, W9.alloc (.cells #[.string ⟨#[105, 110, 112, 117, 116]⟩, .string nm, .string ⟨#[58]⟩, .string lb, .string ⟨#[46]⟩] 9) = W := ⟨_, rfl⟩
     have hb8 : Below Z W1 W8 := by rw [<- hW8]; exact hb9.trans ((X.qab W9 _).mono (by omega))
     rw [hW8] at kl9
     replace kl9 := hid kl9
     replace hb8 := hid hb8
     replace hbx := hid hbx
     replace hb9 := hid hb9
     clear hq hft hfl hok hba hD9 hJf hJ kl hD hsz9
     go_wp2_with fail
     replace hW8 := hid hW8
     replace hW9 := hid hW9
     refine kl9.out.mono ?_
     rintro e w5 ⟨rfl, hD5, hb5, _⟩
     have hD6 := hid (hnx.out w5 hD5)
     have hb6 := hid (hb8.out.trans hb5)
     clear hD5 hb5 kl9
     go_wp2_with fail
     go_roundw
     case rel => exact ⟨k + 1, by omega, by go_num, hD6, hb6⟩
     case measure => simp [intOf]; omega
   . obtain rfl : k = n1 := by omega
     have hBd1 : Hid (Bld Z (ins.flatMap fI) wr) := by
       have h := hD.out
       rw [List.take_of_length_le (by rw [hn1.out]; exact Nat.le_refl _)] at h
       exact h
     have hB3 := hB
     have q0 := qaa _ _ 0 _ _ _ (((hmono.out _ hB.out).block _ (World.lt_of_get hx1.out)).trans hx1.out)
     have q1 := qaa _ _ 1 _ _ _ (((hmono.out _ hB.out).block _ (World.lt_of_get hx1.out)).trans hx1.out)
     have q2 := qaa _ _ 2 _ _ _ (((hmono.out _ hB.out).block _ (World.lt_of_get hx1.out)).trans hx1.out)
     have q3 := qaa _ _ 3 _ _ _ (((hmono.out _ hB.out).block _ (World.lt_of_get hx1.out)).trans hx1.out)
     have q4 := qaa _ _ 4 _ _ _ (((hmono.out _ hB.out).block _ (World.lt_of_get hx1.out)).trans hx1.out)
     have q5 := qaa _ _ 5 _ _ _ (((hmono.out _ hB.out).block _ (World.lt_of_get hx1.out)).trans hx1.out)
     have q6 := qaa _ _ 6 _ _ _ (((hmono.out _ hB.out).block _ (World.lt_of_get hx1.out)).trans hx1.out)
     clear hB
     go_wp2_with fail
     clear q0 q1 q2 q3 q4 q5 q6
     go_loopw [27] (fun i wr => ∃ k : Nat, k <= n2 /\ i = .int .i64 k /\ Hid (Bld Z (ins.flatMap fI ++ (cells.take k).flatMap fC) wr) /\ Hid (Below Z W1 wr)) (fun i _ => n2 - (intOf i).toNat)
     case atStart => exact ⟨0, Nat.zero_le _, rfl, by have h := hBd1.out; show Bld _ _ _; simpa using h, hB3⟩
     case round =>
       obtain ⟨k, hk, rfl, hD, hB⟩ := hrel
       by_cases hlt : k < n2
       . have hAk : Decls wr C c cells := (hA1.out.later (hmono.out wr hB.out)).cells
         have hlk : k < cells.length := by have := hn2.out; omega
         obtain ⟨bb, oo, rfl, hbb, hc⟩ := hAk.at_ (by intro e; rw [e] at hlk; simp at hlk)
         obtain ⟨c0, c1, c2⟩ := hc k hlk
         have hft := hid (qhq (f := fC) d0 hlk)
         have hfl := hid (qfw (f := fC) cells (k + 1))
         have hok := hS.out.cells _ (qbu (d := d0) hlk)
         clear hc hAk
         obtain ⟨q, hq⟩ : ∃ q, cells.getD k d0 = q := ⟨_, rfl⟩
         rw [hq] at c0 c1 c2 hft hok
         obtain ⟨nm, lb, nn⟩ := q
         dsimp only at c0 c1 c2
         have hbx := World.alloc_heap_new wr (.cells #[.string nm, .string lb, .int .i64 nn] 67)
         have hba := X.qab wr (.cells #[.string nm, .string lb, .int .i64 nn] 67)
         obtain ⟨W9, hW9⟩ : ∃ W, wr.alloc (.cells #[.string nm, .string lb, .int .i64 nn] 67) = W := ⟨_, rfl⟩
         rw [hW9] at hbx hba
         have hD9 := hD.out.later hba
         have hZr : Z <= wr.heap.size := Nat.le_of_lt hD.out.lt
         have hb9 : Below Z W1 W9 := hB.out.trans (hba.mono hZr)
         have y0 := qaa _ _ 0 _ _ _ hbx
         have y1 := qaa _ _ 1 _ _ _ hbx
         have y2 := qaa _ _ 2 _ _ _ hbx
         obtain ⟨J, hJ⟩ : ∃ J, Lib.join (([⟨#[99, 101, 108, 108]⟩, nm, ⟨#[58]⟩, lb, ⟨#[61]⟩, ⟨(Lib.itoa nn).toArray⟩, ⟨#[46]⟩] : List ByteArray).map (·.data.toList)) [32] = J := ⟨_, rfl⟩
         have hJf : fC ⟨nm, lb, nn⟩ = J ++ [10] := by
           rw [<- hJ]
           show lineS 10 _ = _
           unfold lineS qaS
           rfl
         have kl := hid (fun (W : World) (hD : Bld Z (ins.flatMap fI ++ (cells.take k).flatMap fC) W) => qgm Z W.heap.size (ins.flatMap fI ++ (cells.take k).flatMap fC) [⟨#[99, 101, 108, 108]⟩, nm, ⟨#[58]⟩, lb, ⟨#[61]⟩, ⟨(Lib.itoa nn).toArray⟩, ⟨#[46]⟩] (W.alloc (.cells #[.string ⟨#[99, 101, 108, 108]⟩, .string nm, .string ⟨#[58]⟩, .string lb, .string ⟨#[61]⟩, .string ⟨(Lib.itoa nn).toArray⟩, .string ⟨#[46]⟩] 9)) (hD.later (X.qab _ _)) (qgn (World.alloc_heap_new _ _) rfl) (by simp) (Nat.le_of_ble_eq_true rfl) (by
               rw [hJ]
               have h1 := hlen.out; have h2 := hfl.out; rw [hft.out, List.length_append] at h2; have h3 : (fC ⟨nm, lb, nn⟩).length = J.length + 1 := by rw [hJf, List.length_append]; rfl
               rw [List.length_append]
               omega))
         rw [hJ] at kl
         have hnx := hid (fun (W : World) (h : Bld Z ((ins.flatMap fI ++ (cells.take k).flatMap fC) ++ (J ++ [10])) W) => (show Bld Z (ins.flatMap fI ++ (cells.take (k + 1)).flatMap fC) W by
           rw [hft.out, hJf]
           rw [<- List.append_assoc]
           exact h))
         have hbd : Hid (Below Z W1 W9.drew) := hb9.drew
         have hDd : Hid (Bld Z (ins.flatMap fI ++ (cells.take k).flatMap fC) W9.drew) := hD9
         have hzd : Hid (Z <= W9.drew.heap.size) := Nat.le_of_lt hD9.lt
         have kf := hid (Tryz.strconv_FormatInt_10 nn (by have := hok.2.2.1; dsimp only at this; omega) (by have := hok.2.2.2; dsimp only at this; omega) W9.drew (hE1.out.later (hmono.out _ hb9)).s.lx.tab)
         have hrow := hid hbx
         have hSk := hid (fun (w' : World) (h : Below W9.drew.heap.size W9.drew w') => (show (w').cell? ⟨wr.heap.size, 0, none⟩ = some (.string nm) /\ (w').cell? ⟨wr.heap.size, 1, none⟩ = some (.string lb) /\ (w').cell? ⟨wr.heap.size, 2, none⟩ = some (.int .i64 nn) from ⟨(h.cell (p := ⟨wr.heap.size, 0, none⟩) (World.lt_of_get hbx)).trans y0 , (h.cell (p := ⟨wr.heap.size, 1, none⟩) (World.lt_of_get hbx)).trans y1 , (h.cell (p := ⟨wr.heap.size, 2, none⟩) (World.lt_of_get hbx)).trans y2⟩))
         have hS0 := hSk.out W9.drew (Below.refl _ _)
         have hSt := hid (fun (w' : World) (h : qbf Z W9.drew w') => (show (w').cell? ⟨wr.heap.size, 0, none⟩ = some (.string nm) /\ (w').cell? ⟨wr.heap.size, 1, none⟩ = some (.string lb) /\ (w').cell? ⟨wr.heap.size, 2, none⟩ = some (.int .i64 nn) from by
           have hrw := h wr.heap.size _ _ _ hbx (by decide) (by have := hD.out.lt; omega)
           exact ⟨qaa _ _ 0 _ _ _ hrw , qaa _ _ 1 _ _ _ hrw , qaa _ _ 2 _ _ _ hrw⟩))
         replace hbx := hid hbx
         replace hb9 := hid hb9
         clear hq hft hfl hok hba hD9 hJf hJ hD
         go_wp2_with fail
         replace hW9 := hid hW9
         go_region_held3 (fun w' => (w').cell? ⟨wr.heap.size, 0, none⟩ = some (.string nm) /\ (w').cell? ⟨wr.heap.size, 1, none⟩ = some (.string lb) /\ (w').cell? ⟨wr.heap.size, 2, none⟩ = some (.int .i64 nn)) (first | exact hS0 | exact hS5.out | exact hS6.out | exact hS7.out) (first
           | (go_at_call 114
              refine kf.out.mono ?_
              rintro e w5 ⟨rfl, kk, os, hw5⟩
              have hb5 : Below W9.drew.heap.size W9.drew w5 := by rw [hw5]; exact X.qff W9.drew kk os
              clear hw5
              have hD5 := hDd.out.later hb5
              have hb7 := hbd.out.trans (hb5.mono hzd.out)
              have kl5 := hid (kl.out _ hD5)
              have hb8 := hid (hb7.trans ((X.qab _ (.cells #[.string ⟨#[99, 101, 108, 108]⟩, .string nm, .string ⟨#[58]⟩, .string lb, .string ⟨#[61]⟩, .string ⟨(Lib.itoa nn).toArray⟩, .string ⟨#[46]⟩] 9)).mono (Nat.le_of_lt hD5.lt)))
              have hS5 := hid (hSk.out _ hb5)
              have hS6k := hid (qbf.of (B := Z) (hb5.trans ((X.qab w5 (.cells #[.string ⟨#[99, 101, 108, 108]⟩, .string nm, .string ⟨#[58]⟩, .string lb, .string ⟨#[61]⟩, .string ⟨(Lib.itoa nn).toArray⟩, .string ⟨#[46]⟩] 9)).mono hb5.size)))
              have hS6 := hid (hSk.out _ (hb5.trans ((X.qab w5 (.cells #[.string ⟨#[99, 101, 108, 108]⟩, .string nm, .string ⟨#[58]⟩, .string lb, .string ⟨#[61]⟩, .string ⟨(Lib.itoa nn).toArray⟩, .string ⟨#[46]⟩] 9)).mono hb5.size)))
              clear hD5 hb5 hb7 kf)
           | (go_at_call 113
              refine kl5.out.mono ?_
              rintro e w6 ⟨rfl, hD6, hb6, hk6⟩
              have hS7 := hid (hSt.out w6 (hS6k.out.trans hk6))
              have hD7 := hid (hnx.out w6 hD6)
              have hb9x := hid (hb8.out.trans hb6)
              clear hD6 hb6 kl5 hk6))
         all_goals go_wp2_with fail
         all_goals go_roundw
         case rel => exact ⟨k + 1, by omega, by go_num, hD7, hb9x⟩
         case measure => simp [intOf]; omega
       . obtain rfl : k = n2 := by omega
         have hBd2 : Hid (Bld Z (ins.flatMap fI ++ cells.flatMap fC) wr) := by
           have h := hD.out
           rw [List.take_of_length_le (by rw [hn2.out]; exact Nat.le_refl _)] at h
           exact h
         have hB4 := hB
         have q0 := qaa _ _ 0 _ _ _ (((hmono.out _ hB.out).block _ (World.lt_of_get hx1.out)).trans hx1.out)
         have q1 := qaa _ _ 1 _ _ _ (((hmono.out _ hB.out).block _ (World.lt_of_get hx1.out)).trans hx1.out)
         have q2 := qaa _ _ 2 _ _ _ (((hmono.out _ hB.out).block _ (World.lt_of_get hx1.out)).trans hx1.out)
         have q3 := qaa _ _ 3 _ _ _ (((hmono.out _ hB.out).block _ (World.lt_of_get hx1.out)).trans hx1.out)
         have q4 := qaa _ _ 4 _ _ _ (((hmono.out _ hB.out).block _ (World.lt_of_get hx1.out)).trans hx1.out)
         have q5 := qaa _ _ 5 _ _ _ (((hmono.out _ hB.out).block _ (World.lt_of_get hx1.out)).trans hx1.out)
         have q6 := qaa _ _ 6 _ _ _ (((hmono.out _ hB.out).block _ (World.lt_of_get hx1.out)).trans hx1.out)
         clear hB
         go_wp2_with fail
         clear q0 q1 q2 q3 q4 q5 q6
         go_loopw [44] (fun i wr => ∃ k : Nat, k <= n3 /\ i = .int .i64 k /\ Hid (Bld Z ((ins.flatMap fI ++ cells.flatMap fC) ++ (defs.take k).flatMap fD) wr) /\ Hid (Below Z W1 wr)) (fun i _ => n3 - (intOf i).toNat)
         case atStart => exact ⟨0, Nat.zero_le _, rfl, by have h := hBd2.out; show Bld _ _ _; simpa using h, hB4⟩
         case round =>
           obtain ⟨k, hk, rfl, hD, hB⟩ := hrel
           by_cases hlt : k < n3
           . have hAk : Defs wr F f defs := (hA1.out.later (hmono.out wr hB.out)).defs
             have hlk : k < defs.length := by have := hn3.out; omega
             obtain ⟨bb, oo, rfl, hbb, hc⟩ := hAk.at_ (by intro e; rw [e] at hlk; simp at hlk)
             obtain ⟨c0, hnode⟩ := hc k hlk
             have hft := hid (qhq (f := fD) f0 hlk)
             have hfl := hid (qfw (f := fD) defs (k + 1))
             have hok := hS.out.defs _ (qbu (d := f0) hlk)
             clear hc hAk
             obtain ⟨q, hq⟩ : ∃ q, defs.getD k f0 = q := ⟨_, rfl⟩
             rw [hq] at c0 hnode hft hok
             obtain ⟨nm, t⟩ := q
             dsimp only at c0 hnode
             obtain ⟨TA, tc, hh, hT⟩ := qaG hnode
             have c1 := hh.kind
             have c2 := hh.name
             have c3 := hh.num
             have c4 := hh.kids
             have hbx := World.alloc_heap_new wr (.cells #[.string nm, .int .i64 t.kind, .string t.name, .int .i64 t.num, .slice TA t.kids.length tc] 60)
             have hba := X.qab wr (.cells #[.string nm, .int .i64 t.kind, .string t.name, .int .i64 t.num, .slice TA t.kids.length tc] 60)
             obtain ⟨W9, hW9⟩ : ∃ W, wr.alloc (.cells #[.string nm, .int .i64 t.kind, .string t.name, .int .i64 t.num, .slice TA t.kids.length tc] 60) = W := ⟨_, rfl⟩
             rw [hW9] at hbx hba
             have hD9 := hD.out.later hba
             have hZr : Z <= wr.heap.size := Nat.le_of_lt hD.out.lt
             have hb9 : Below Z W1 W9 := hB.out.trans (hba.mono hZr)
             have y0 := qaa _ _ 0 _ _ _ hbx
             have y1 := qaa _ _ 1 _ _ _ hbx
             have y2 := qaa _ _ 2 _ _ _ hbx
             have y3 := qaa _ _ 3 _ _ _ hbx
             have y4 := qaa _ _ 4 _ _ _ hbx
             obtain ⟨J, hJ⟩ : ∃ J, Lib.join (([⟨#[100, 101, 102]⟩, nm, ⟨#[61]⟩, showS t, ⟨#[46]⟩] : List ByteArray).map (·.data.toList)) [32] = J := ⟨_, rfl⟩
             have hrt := (qbj hok.2.2).1
             have hJf : fD ⟨nm, t⟩ = J ++ [10] := by
               rw [<- hJ]
               show lineS 10 _ = _
               unfold lineS
               rw [qpA _ (qiF hrt)]
               have e : (showS t).data.toList = qaS (toksT t) := by rw [qhc hok.2.2, X.qaP]
               show _ = Lib.join [[100, 101, 102], nm.data.toList, [61], (showS t).data.toList, [46]] [32] ++ [10]
               rw [e]
             have kl := hid (fun (W : World) (hD : Bld Z ((ins.flatMap fI ++ cells.flatMap fC) ++ (defs.take k).flatMap fD) W) => qgm Z W.heap.size ((ins.flatMap fI ++ cells.flatMap fC) ++ (defs.take k).flatMap fD) [⟨#[100, 101, 102]⟩, nm, ⟨#[61]⟩, showS t, ⟨#[46]⟩] (W.alloc (.cells #[.string ⟨#[100, 101, 102]⟩, .string nm, .string ⟨#[61]⟩, .string (showS t), .string ⟨#[46]⟩] 9)) (hD.later (X.qab _ _)) (qgn (World.alloc_heap_new _ _) rfl) (by simp) (Nat.le_of_ble_eq_true rfl) (by
                   rw [hJ]
                   have h1 := hlen.out; have h2 := hfl.out; rw [hft.out, List.length_append] at h2; have h3 : (fD ⟨nm, t⟩).length = J.length + 1 := by rw [hJf, List.length_append]; rfl
                   rw [List.length_append, List.length_append]
                   omega))
             rw [hJ] at kl
             have hnx := hid (fun (W : World) (h : Bld Z (((ins.flatMap fI ++ cells.flatMap fC) ++ (defs.take k).flatMap fD) ++ (J ++ [10])) W) => (show Bld Z ((ins.flatMap fI ++ cells.flatMap fC) ++ (defs.take (k + 1)).flatMap fD) W by
               rw [hft.out, hJf]
               rw [<- List.append_assoc]
               exact h))
             have hbd : Hid (Below Z W1 W9.drew) := hb9.drew
             have hDd : Hid (Bld Z ((ins.flatMap fI ++ cells.flatMap fC) ++ (defs.take k).flatMap fD) W9.drew) := hD9
             have hzd : Hid (Z <= W9.drew.heap.size) := Nat.le_of_lt hD9.lt
             have kf := qlW t TA tc W9.drew (hE1.out.later ((hmono.out _ hb9).drew)).s (by have := (qbj hok.2.2).2.1; dsimp only at this; omega) (hT.later (hba.drew))
             unfold tmV at kf
             replace kf := hid kf
             have hrow := hid hbx
             have hSk := hid (fun (w' : World) (h : Below W9.drew.heap.size W9.drew w') => (show (w').cell? ⟨wr.heap.size, 0, none⟩ = some (.string nm) /\ (w').cell? ⟨wr.heap.size, 1, none⟩ = some (.int .i64 t.kind) /\ (w').cell? ⟨wr.heap.size, 2, none⟩ = some (.string t.name) /\ (w').cell? ⟨wr.heap.size, 3, none⟩ = some (.int .i64 t.num) /\ (w').cell? ⟨wr.heap.size, 4, none⟩ = some (.slice TA t.kids.length tc) from ⟨(h.cell (p := ⟨wr.heap.size, 0, none⟩) (World.lt_of_get hbx)).trans y0 , (h.cell (p := ⟨wr.heap.size, 1, none⟩) (World.lt_of_get hbx)).trans y1 , (h.cell (p := ⟨wr.heap.size, 2, none⟩) (World.lt_of_get hbx)).trans y2 , (h.cell (p := ⟨wr.heap.size, 3, none⟩) (World.lt_of_get hbx)).trans y3 , (h.cell (p := ⟨wr.heap.size, 4, none⟩) (World.lt_of_get hbx)).trans y4⟩))
             have hS0 := hSk.out W9.drew (Below.refl _ _)
             have hSt := hid (fun (w' : World) (h : qbf Z W9.drew w') => (show (w').cell? ⟨wr.heap.size, 0, none⟩ = some (.string nm) /\ (w').cell? ⟨wr.heap.size, 1, none⟩ = some (.int .i64 t.kind) /\ (w').cell? ⟨wr.heap.size, 2, none⟩ = some (.string t.name) /\ (w').cell? ⟨wr.heap.size, 3, none⟩ = some (.int .i64 t.num) /\ (w').cell? ⟨wr.heap.size, 4, none⟩ = some (.slice TA t.kids.length tc) from by
               have hrw := h wr.heap.size _ _ _ hbx (by decide) (by have := hD.out.lt; omega)
               exact ⟨qaa _ _ 0 _ _ _ hrw , qaa _ _ 1 _ _ _ hrw , qaa _ _ 2 _ _ _ hrw , qaa _ _ 3 _ _ _ hrw , qaa _ _ 4 _ _ _ hrw⟩))
             replace hbx := hid hbx
             replace hb9 := hid hb9
             clear hq hft hfl hok hba hD9 hJf hJ hD hrt hnode hh hT
             go_wp2_with fail
             replace hW9 := hid hW9
             go_region_held3 (fun w' => (w').cell? ⟨wr.heap.size, 0, none⟩ = some (.string nm) /\ (w').cell? ⟨wr.heap.size, 1, none⟩ = some (.int .i64 t.kind) /\ (w').cell? ⟨wr.heap.size, 2, none⟩ = some (.string t.name) /\ (w').cell? ⟨wr.heap.size, 3, none⟩ = some (.int .i64 t.num) /\ (w').cell? ⟨wr.heap.size, 4, none⟩ = some (.slice TA t.kids.length tc)) (first | exact hS0 | exact hS5.out | exact hS6.out | exact hS7.out) (first
               | (go_at_call 26
                  refine kf.out.mono ?_
                  rintro e w5 ⟨rfl, hb5⟩
                  have hD5 := hDd.out.later hb5
                  have hb7 := hbd.out.trans (hb5.mono hzd.out)
                  have kl5 := hid (kl.out _ hD5)
                  have hb8 := hid (hb7.trans ((X.qab _ (.cells #[.string ⟨#[100, 101, 102]⟩, .string nm, .string ⟨#[61]⟩, .string (showS t), .string ⟨#[46]⟩] 9)).mono (Nat.le_of_lt hD5.lt)))
                  have hS5 := hid (hSk.out _ hb5)
                  have hS6k := hid (qbf.of (B := Z) (hb5.trans ((X.qab w5 (.cells #[.string ⟨#[100, 101, 102]⟩, .string nm, .string ⟨#[61]⟩, .string (showS t), .string ⟨#[46]⟩] 9)).mono hb5.size)))
                  have hS6 := hid (hSk.out _ (hb5.trans ((X.qab w5 (.cells #[.string ⟨#[100, 101, 102]⟩, .string nm, .string ⟨#[61]⟩, .string (showS t), .string ⟨#[46]⟩] 9)).mono hb5.size)))
                  clear hD5 hb5 hb7 kf)
               | (go_at_call 113
                  refine kl5.out.mono ?_
                  rintro e w6 ⟨rfl, hD6, hb6, hk6⟩
                  have hS7 := hid (hSt.out w6 (hS6k.out.trans hk6))
                  have hD7 := hid (hnx.out w6 hD6)
                  have hb9x := hid (hb8.out.trans hb6)
                  clear hD6 hb6 kl5 hk6))
             all_goals go_wp2_with fail
             all_goals go_roundw
             case rel => exact ⟨k + 1, by omega, by go_num, hD7, hb9x⟩
             case measure => simp [intOf]; omega
           . obtain rfl : k = n3 := by omega
             have hBd3 : Bld Z ((ins.flatMap fI ++ cells.flatMap fC) ++ defs.flatMap fD) wr := by
               have h := hD.out
               rw [List.take_of_length_le (by rw [hn3.out]; exact Nat.le_refl _)] at h
               exact h
             have hT : TmV wr (· < wr.heap.size) body B b := (hA1.out.later (hmono.out wr hB.out)).body
             have hrt := qbj hS.out.body
             have kf := qlW body B b wr (hE1.out.later (hmono.out wr hB.out)).s (by have := hrt.2.1; dsimp only at this; omega) hT
             unfold tmV at kf
             have hsh : (showS body).data.toList = qaS (toksT body) := by rw [qhc hS.out.body, X.qaP]
             have kl := hid (fun (W : World) (hD : Bld Z ((ins.flatMap fI ++ cells.flatMap fC) ++ defs.flatMap fD) W) => qgm Z W.heap.size ((ins.flatMap fI ++ cells.flatMap fC) ++ defs.flatMap fD) [showS body] (W.alloc (.cells #[.string (showS body)] 9)) (hD.later (X.qab _ _)) (qgn (World.alloc_heap_new _ _) rfl) (by simp) (Nat.le_of_ble_eq_true rfl) (by
               rw [List.map_cons, List.map_nil, Lib.join_one, hsh]
               have h1 := hlen.out
               unfold lineS at h1
               simp only [List.length_append] at h1 ⊢
               omega))
             have hfin : Hid (((ins.flatMap fI ++ cells.flatMap fC) ++ defs.flatMap fD) ++ (Lib.join ([showS body].map (·.data.toList)) [32] ++ [10]) = ins.flatMap fI ++ (cells.flatMap fC ++ (defs.flatMap fD ++ lineS 10 (toksT body)))) := by
               show _ = _
               rw [List.map_cons, List.map_nil, Lib.join_one, hsh]
               unfold lineS
               simp only [List.append_assoc]
             have ksl := hid (fun (W : World) (l : List UInt8) (h : Bld Z l W) => Tryz.Builder_String_any Z Z l W h (Nat.le_of_lt h.lt))
             have hZr : Z <= wr.heap.size := Nat.le_of_lt hBd3.lt
             have hD9 := hid (fun (W : World) (hb : Below wr.heap.size wr W) => hBd3.later hb)
             replace kf := hid kf
             have hZrh := hid hZr
             clear hT hrt hsh hBd3 hD hZr
             have q0 := qaa _ _ 0 _ _ _ (((hmono.out _ hB.out).block _ (World.lt_of_get hx1.out)).trans hx1.out)
             have q1 := qaa _ _ 1 _ _ _ (((hmono.out _ hB.out).block _ (World.lt_of_get hx1.out)).trans hx1.out)
             have q2 := qaa _ _ 2 _ _ _ (((hmono.out _ hB.out).block _ (World.lt_of_get hx1.out)).trans hx1.out)
             have q3 := qaa _ _ 3 _ _ _ (((hmono.out _ hB.out).block _ (World.lt_of_get hx1.out)).trans hx1.out)
             have q4 := qaa _ _ 4 _ _ _ (((hmono.out _ hB.out).block _ (World.lt_of_get hx1.out)).trans hx1.out)
             have q5 := qaa _ _ 5 _ _ _ (((hmono.out _ hB.out).block _ (World.lt_of_get hx1.out)).trans hx1.out)
             have q6 := qaa _ _ 6 _ _ _ (((hmono.out _ hB.out).block _ (World.lt_of_get hx1.out)).trans hx1.out)
             go_wp2_with fail
             refine kf.out.mono ?_
             rintro e w5 ⟨rfl, hb5⟩
             have hD5 := hD9.out w5 hb5
             have kl5 := kl.out w5 hD5
             have hsz5 := hb5.size
             have hb7 := hB.out.trans (hb5.mono hZrh.out)
             obtain ⟨W8, hW8⟩ : ∃ W, w5.alloc (.cells #[.string (showS body)] 9) = W := ⟨_, rfl⟩
             have hb8 : Below Z W1 W8 := by rw [<- hW8]; exact hb7.trans ((X.qab w5 _).mono (Nat.le_of_lt hD5.lt))
             rw [hW8, hfin.out] at kl5
             replace kl5 := hid kl5
             replace hb8 := hid hb8
             clear hD5 hb5 hsz5 hb7 kf kl hD9
             go_wp2_with fail
             replace hW8 := hid hW8
             refine kl5.out.mono ?_
             rintro e w6 ⟨rfl, hD6, hb6, _⟩
             have ks6 := hid (ksl.out w6 _ hD6)
             have hb9 := hid (hb8.out.trans hb6)
             clear hD6 hb6 kl5 ksl
             go_wp2_with fail
             refine ks6.out.mono ?_
             rintro e w7 ⟨rfl, hb10⟩
             have hend := hid (hb0.out.trans ((hmono.out _ (hb9.out.trans hb10)).mono hb0.out.size))
             clear hb10 ks6
             go_wp2_with fail
             go_ret
             exact ⟨rfl, hend.out⟩
end Go.Proofs.YtjnfhebbphdchaaGreatDoor.Pg
