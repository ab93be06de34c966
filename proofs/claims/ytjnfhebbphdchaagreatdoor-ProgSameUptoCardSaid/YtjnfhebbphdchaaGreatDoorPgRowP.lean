/-
  A program that came in, opened, for chapter 6's rows. Condition: the row's own.
-/
import Derived.Test.YtjnfhebbphdchaaGreatDoorPgRowT
set_option maxRecDepth 100000
namespace Go.Proofs.YtjnfhebbphdchaaGreatDoor
open Go.ChangeShapes Go.WideShapes Go.ChangeAt Go.RowKit Go.Joins Go.Tm Go.Deep Go.Proofs.YtjnfhebbphdchaaGreatDoor.Pg
theorem cDecl : Tryz.prog.cellsOf 67 = 3 := by kernel_rfl
theorem cDef : Tryz.prog.cellsOf 60 = 5 := by kernel_rfl
theorem cProg : Tryz.prog.cellsOf 28 = 7 := by kernel_rfl
theorem cSlD : Tryz.prog.cellsOf 22 = 1 := by kernel_rfl
theorem cSlF : Tryz.prog.cellsOf 23 = 1 := by kernel_rfl
theorem qpG {H : Type} {enc : TypeId × Value -> H} {W : World} {fuel : Nat} {cs : List Value} {d : DataW H} {pl : List MemPlace}
   (h : DataW.trod enc Tryz.prog W 0 (fun _ => true) true fuel 67 cs = some (d, pl)) :
   ∃ x : D, cs = [.string x.name, .string x.label, .int .i64 x.n] /\ x.name.size <= 9223372036854775807 /\ x.label.size <= 9223372036854775807 := by
 obtain ⟨y0, y1, y2, n, hx, hl, u0, u1, u2⟩ := trod_struct3 Tryz.underlying67 h
 rw [cDecl] at hl
 match cs, hl with
 | [v0, v1, v2], _ =>
   simp only [cStr, cI64, List.drop, List.take] at u0 u1 u2
   obtain ⟨s, e0, d0, hs⟩ := DataW.trod_string Tryz.underlying9 u0
   obtain ⟨s1, e1, d1, hs1⟩ := DataW.trod_string Tryz.underlying9 u1
   obtain ⟨m, e2, d2, _⟩ := DataW.trod_int Tryz.underlying2 u2
   simp only [List.cons.injEq, and_true] at e0 e1 e2
   subst e0; subst e1; subst e2
   have hmax : maxLen = 9223372036854775807 := by rfl
   exact ⟨⟨s, s1, m⟩, rfl, by show s.size <= _; omega, by show s1.size <= _; omega⟩
theorem qie {H : Type} {enc : TypeId × Value -> H} {W : World} {fuel : Nat} {cs : List Value} {d : DataW H} {pl : List MemPlace}
   (h : DataW.trod enc Tryz.prog W 0 (fun _ => true) true fuel 22 cs = some (d, pl)) :
   ∃ (A : Option Addr) (c : Nat) (ds : List D), cs = [.slice A ds.length c] /\ Decls W A c ds := by
 have hmax : maxLen = 9223372036854775807 := by rfl
 rcases open_slice Tryz.underlying22 h with ⟨hcs, _⟩ | ⟨a, len, cap, mm, n', DD, Pl, hcs, hb, hlc, hm, hmm, hx3, hat⟩
 . exact ⟨none, 0, [], hcs, Decls.nil W⟩
 . have hlm : len <= mm := by rw [hmm]; split <;> omega
   have hspot0 : 0 < len -> a.spot = none := fun h0 => by
     obtain ⟨cs', h1, _⟩ := hat 0 (by omega)
     rw [cDecl] at h1
     obtain ⟨_, hlen, hcell⟩ := World.cells?_some h1
     have c0 := hcell 0 (by omega)
     rw [List.getElem?_eq_getElem (by omega)] at c0
     simpa [Addr.add] using World.cell?_spot c0
   have each : ∀ i, i < len -> ∃ x : D, (∃ ab ao, a = ⟨ab, ao, none⟩ /\ ab < W.heap.size /\ W.cell? ⟨ab, ao + i * 3, none⟩ = some (.string x.name) /\ W.cell? ⟨ab, ao + i * 3 + 1, none⟩ = some (.string x.label) /\ W.cell? ⟨ab, ao + i * 3 + 2, none⟩ = some (.int .i64 x.n)) /\ x.name.size <= 9223372036854775807 /\ x.label.size <= 9223372036854775807 := by
     intro i hi
     obtain ⟨cs', h1, h2⟩ := hat i (by omega)
     rw [cDecl] at h1
     obtain ⟨_, hlen, hcell⟩ := World.cells?_some h1
     obtain ⟨x, hcs', hz1, hz2⟩ := qpG h2
     subst hcs'
     have c0 := hcell 0 (by omega)
     have c1 := hcell 1 (by omega)
     have c2 := hcell 2 (by omega)
     rw [add_add] at c0 c1 c2
     have hbk : a.block < W.heap.size := by
       have := World.block_lt_of_cell? W _ c0
       have e : (a.add (i * 3 + 0)).block = a.block := by unfold Addr.add; split <;> rfl
       omega
     have hspot : a.spot = none := hspot0 (by omega)
     obtain ⟨ab, ao, spot⟩ := a
     obtain rfl : spot = none := hspot
     rw [Addr.add_lit] at c0 c1 c2
     exact ⟨x, ⟨ab, ao, rfl, hbk, by simpa using c0, by simpa [Nat.add_assoc] using c1, by simpa [Nat.add_assoc] using c2⟩, hz1, hz2⟩
   haveI : Inhabited D := ⟨d0⟩
   obtain ⟨q, hq⟩ := choose_lt each
   refine ⟨some a, cap, (List.range len).map q, by simpa using hcs, ⟨by simpa using hlc, by omega, fun x hx => ?_, fun hn => ?_⟩⟩
   . obtain ⟨i, hi, rfl⟩ := List.mem_map.1 hx
     exact (hq i (List.mem_range.1 hi)).2
   . have h0 : 0 < len := Nat.pos_of_ne_zero fun e => hn (by rw [e]; rfl)
     obtain ⟨ab, ao, rfl, hbk, _⟩ := (hq 0 h0).1
     refine ⟨ab, ao, rfl, hbk, fun j hj => ?_⟩
     have hj' : j < len := by simpa using hj
     obtain ⟨ab', ao', h9, _, g0, g1, g2⟩ := (hq j hj').1
     cases h9
     have e : ((List.range len).map q).getD j d0 = q j := by
       rw [List.getD_eq_getElem?_getD, List.getElem?_map, List.getElem?_range hj']; rfl
     rw [e]
     exact ⟨g0, g1, g2⟩
theorem qrd {H : Type} {enc : TypeId × Value -> H} {W : World} {fuel : Nat} {cs : List Value} {d : DataW H} {pl : List MemPlace}
   (h : DataW.trod enc Tryz.prog W 0 (fun _ => true) true fuel 60 cs = some (d, pl)) :
   ∃ (x : Df) (A : Option Addr) (c : Nat), cs = [.string x.name, .int .i64 x.t.kind, .string x.t.name, .int .i64 x.t.num, .slice A x.t.kids.length c] /\ TmV W (· < W.heap.size) x.t A c /\ x.t.size <= Rows.uptoBulk d /\ x.name.size <= 9223372036854775807 := by
 obtain ⟨y0, y1, n, hx, hl, u0, u1⟩ := trod_struct2 Tryz.underlying60 h
 rw [cDef] at hl
 match cs, hl with
 | [v0, v1, v2, v3, v4], _ =>
   simp only [cStr, cTm, List.drop, List.take] at u0 u1
   obtain ⟨s, e0, d0, hs⟩ := DataW.trod_string Tryz.underlying9 u0
   simp only [List.cons.injEq, and_true] at e0
   subst e0
   obtain ⟨t, A, c, e1, hT, hz⟩ := qhv _ y1.1 (Nat.le_refl _) n _ y1.2 u1
   simp only [List.cons.injEq, and_true] at e1
   obtain ⟨rfl, rfl, rfl, rfl⟩ := e1
   have hmax : maxLen = 9223372036854775807 := by rfl
   simp only [Prod.mk.injEq] at hx
   refine ⟨⟨s, t⟩, A, c, rfl, hT, ?_, by show s.size <= _; omega⟩
   rw [hx.1]
   simp only [Rows.uptoBulk, Rows.uptoBulkAll]
   show t.size <= _
   omega
theorem qif {H : Type} (DD : Nat -> DataW H) (q : Nat -> Df) : ∀ (l : List Nat), (∀ i, i ∈ l -> (q i).t.size <= Rows.uptoBulk (DD i)) -> qaJ (l.map q) <= Rows.uptoBulkAll (l.map DD)
 | [], _ => by rw [List.map_nil, qaJ]; exact Nat.zero_le _
 | i :: l, h => by
   rw [List.map_cons, List.map_cons, qaJ, Rows.uptoBulkAll]
   have h1 := h i (by simp)
   have h2 := qif DD q l fun j hj => h j (by simp [hj])
   omega
theorem qig : ∀ {l : List Df} {d : Df}, d ∈ l -> d.t.size <= qaJ l
 | x :: l, d, h => by
   rw [qaJ]
   rcases List.mem_cons.1 h with rfl | h
   . omega
   . have := qig h
     omega
theorem qpH {H : Type} {enc : TypeId × Value -> H} {W : World} {fuel : Nat} {cs : List Value} {d : DataW H} {pl : List MemPlace}
   (h : DataW.trod enc Tryz.prog W 0 (fun _ => true) true fuel 23 cs = some (d, pl)) :
   ∃ (A : Option Addr) (c : Nat) (ds : List Df), cs = [.slice A ds.length c] /\ Defs W A c ds /\ qaJ ds <= Rows.uptoBulk d := by
 have hmax : maxLen = 9223372036854775807 := by rfl
 rcases open_slice Tryz.underlying23 h with ⟨hcs, _⟩ | ⟨a, len, cap, mm, n', DD, Pl, hcs, hb, hlc, hm, hmm, hx3, hat⟩
 . exact ⟨none, 0, [], hcs, Defs.nil W, by rw [qaJ]; exact Nat.zero_le _⟩
 . have hlm : len <= mm := by rw [hmm]; split <;> omega
   have hspot0 : 0 < len -> a.spot = none := fun h0 => by
     obtain ⟨cs', h1, _⟩ := hat 0 (by omega)
     rw [cDef] at h1
     obtain ⟨_, hlen, hcell⟩ := World.cells?_some h1
     have c0 := hcell 0 (by omega)
     rw [List.getElem?_eq_getElem (by omega)] at c0
     simpa [Addr.add] using World.cell?_spot c0
   have each : ∀ i, i < len -> ∃ x : Df, (∃ ab ao, a = ⟨ab, ao, none⟩ /\ ab < W.heap.size /\ W.cell? ⟨ab, ao + i * 5, none⟩ = some (.string x.name) /\ qan W (· < W.heap.size) ab (ao + i * 5 + 1) x.t) /\ x.t.size <= Rows.uptoBulk (DD i) /\ x.name.size <= 9223372036854775807 := by
     intro i hi
     obtain ⟨cs', h1, h2⟩ := hat i (by omega)
     rw [cDef] at h1
     obtain ⟨_, hlen, hcell⟩ := World.cells?_some h1
     obtain ⟨x, A, c, hcs', hT, hz1, hz2⟩ := qrd h2
     subst hcs'
     have c0 := hcell 0 (by omega)
     have c1 := hcell 1 (by omega)
     have c2 := hcell 2 (by omega)
     have c3 := hcell 3 (by omega)
     have c4 := hcell 4 (by omega)
     rw [add_add] at c0 c1 c2 c3 c4
     have hbk : a.block < W.heap.size := by
       have := World.block_lt_of_cell? W _ c0
       have e : (a.add (i * 5 + 0)).block = a.block := by unfold Addr.add; split <;> rfl
       omega
     have hspot : a.spot = none := hspot0 (by omega)
     obtain ⟨ab, ao, spot⟩ := a
     obtain rfl : spot = none := hspot
     rw [Addr.add_lit] at c0 c1 c2 c3 c4
     refine ⟨x, ⟨ab, ao, rfl, hbk, by simpa using c0, ?_⟩, hz1, hz2⟩
     rw [T.eta x.t, qan]
     exact ⟨hbk, hT.nsz, by simpa [Nat.add_assoc] using c1, by simpa [Nat.add_assoc] using c2, by simpa [Nat.add_assoc] using c3, A, c, by simpa [Nat.add_assoc] using c4, hT.row⟩
   haveI : Inhabited Df := ⟨f0⟩
   obtain ⟨q, hq⟩ := choose_lt each
   refine ⟨some a, cap, (List.range len).map q, by simpa using hcs, ⟨by simpa using hlc, by omega, fun x hx => ?_, fun hn => ?_⟩, ?_⟩
   . obtain ⟨i, hi, rfl⟩ := List.mem_map.1 hx
     exact (hq i (List.mem_range.1 hi)).2.2
   . have h0 : 0 < len := Nat.pos_of_ne_zero fun e => hn (by rw [e]; rfl)
     obtain ⟨ab, ao, rfl, hbk, _⟩ := (hq 0 h0).1
     refine ⟨ab, ao, rfl, hbk, fun j hj => ?_⟩
     have hj' : j < len := by simpa using hj
     obtain ⟨ab', ao', h9, _, g0, g1⟩ := (hq j hj').1
     cases h9
     have e : ((List.range len).map q).getD j f0 = q j := by
       rw [List.getD_eq_getElem?_getD, List.getElem?_map, List.getElem?_range hj']; rfl
     rw [e]
     exact ⟨g0, g1⟩
   . have h9 := qif DD q (List.range len) fun i hi => (hq i (List.mem_range.1 hi)).2.1
     simp only [Prod.mk.injEq] at hx3
     rw [hx3.1]
     simp only [Rows.uptoBulk]
     omega
theorem qeZ {H : Type} {enc : TypeId × Value -> H} {W : World} {base : Nat} {v : Value} {d : DataW H} {p : List MemPlace}
   (hv : Value.okWide Tryz.prog W .any base 28 v) (h : DataW.Trod enc Tryz.prog W 0 (fun _ => true) true 28 v d p) :
   ∃ x : PV, v = .agg #[.slice x.I x.p.ins.length x.i, .slice x.C x.p.cells.length x.c, .slice x.F x.p.defs.length x.f, .int .i64 x.p.body.kind, .string x.p.body.name, .int .i64 x.p.body.num, .slice x.B x.p.body.kids.length x.b] /\ ProgAt W x /\ sizeP x.p <= Rows.uptoBulk d := by
 obtain ⟨cs, rfl, hsz⟩ := okWide_struct Tryz.underlying28 hv
 obtain ⟨fuel, hf⟩ := h
 obtain ⟨y0, y1, y2, y3, n, hx, hl, u0, u1, u2, u3⟩ := trod_struct4 Tryz.underlying28 hf
 obtain ⟨l⟩ := cs
 have hl7 : l.length = 7 := by have := hsz.trans cProg; simpa using this
 match l, hl7 with
 | [v0, v1, v2, v3, v4, v5, v6], _ =>
   simp only [Value.cells, cSlD, cSlF, cTm, List.drop, List.take] at u0 u1 u2 u3
   obtain ⟨I, i, ins, e0, hI⟩ := qie (d := y0.1) (pl := y0.2) u0
   obtain ⟨C, c, cells, e1, hC⟩ := qie (d := y1.1) (pl := y1.2) u1
   obtain ⟨F, f, defs, e2, hF, hz⟩ := qpH (d := y2.1) (pl := y2.2) u2
   obtain ⟨t, B, b, e3, hT, ht⟩ := qhv _ y3.1 (Nat.le_refl _) n _ y3.2 u3
   simp only [List.cons.injEq, and_true] at e0 e1 e2 e3
   subst e0; subst e1; subst e2
   obtain ⟨rfl, rfl, rfl, rfl⟩ := e3
   refine ⟨⟨⟨ins, cells, defs, t⟩, I, i, C, c, F, f, B, b⟩, rfl, ⟨hI, hC, hF, hT⟩, ?_⟩
   simp only [Prod.mk.injEq] at hx
   rw [hx.1]
   simp only [Rows.uptoBulk, Rows.uptoBulkAll]
   show t.size + qaJ defs <= _
   omega
theorem qec {p : P} {N : Nat} (h : sizeP p <= N) (hN : N <= 4194304) : Small p /\ sizeP p <= 1099511627776 := by
 unfold sizeP at h
 refine ⟨⟨by omega, fun d hd => ?_⟩, by unfold sizeP; omega⟩
 have := qig hd
 omega
end Go.Proofs.YtjnfhebbphdchaaGreatDoor
