/-
  The examples of chapter 6: what is told of their texts. No condition.
  Many declarations of one kind: their text, its tokens, what is told of these. No condition.
  Programs in memory: declarations, definitions, one behind another; a program by value. No condition.
-/
import Derived.Test.YticjidkomfnihaaGreatDoorPgSpec
import Derived.Test.YticjidkomfnihaaGreatDoorPaMath
import Derived.Test.YticjidkomfnihaaGreatDoorPaPr
namespace Go.Proofs.YticjidkomfnihaaGreatDoor.Pg
open Go.Tm Go.Lx Go.Proofs.YticjidkomfnihaaGreatDoor.Pa
theorem read_pieces {p : P} (h : Sound p) : readAll P0 (pieces p) = .inl { p with body := T0 } := by
 have h1 := h.li
 have h2 := h.lc
 have h3 := h.ld
 unfold pieces
 rw [readAll_app _ _ (read_ins p.ins P0 h.ins rfl rfl (by show 0 + _ <= _; omega))]
 rw [readAll_app _ _ (read_cells p.cells _ h.cells rfl (by show 0 + _ <= _; omega))]
 rw [read_defs p.defs _ h.defs (by show 0 + _ <= _; omega)]
 rfl
def s1 (c : UInt8) : ByteArray := ⟨#[c]⟩
def hiS : ByteArray := ⟨#[72, 105]⟩
def loE : ByteArray := ⟨#[76, 111]⟩
def exI : D := ⟨s1 120, loE, 0⟩
def exC : D := ⟨s1 99, hiS, 5⟩
def exF : Df := ⟨s1 102, .node 3 (s1 121) 0 [vT 121]⟩
def exB : Go.Tm.T := .node 11 ⟨#[]⟩ 0 [vT 99, .node 4 ⟨#[]⟩ 0 [vT 102, vT 120]]
def exP : P := ⟨[exI], [exC], [exF], exB⟩
theorem wx : wordB (s1 120) = true := by decide +kernel
theorem wc : wordB (s1 99) = true := by decide +kernel
theorem wf : wordB (s1 102) = true := by decide +kernel
theorem wy : wordB (s1 121) = true := by decide +kernel
theorem wlo : wordB loE = true := by decide +kernel
theorem whi : wordB hiS = true := by decide +kernel
theorem okI : okD 1 exI := ⟨wx, wlo, Int.le_refl _, (by decide : (0 : Int) < 1)⟩
theorem okC : okD 2147483648 exC := ⟨wc, whi, (by decide : (0 : Int) <= 5), (by decide : (5 : Int) < 2147483648)⟩
theorem rtF : Rt exF.t := .fn _ _ wy (.var _ wy)
theorem rtB : Rt exB := .put _ _ (.var _ wc) (.app _ _ (.var _ wf) (.var _ wx))
theorem okF : okDf exF := ⟨wf, rfl, rt_right rtF (by decide) (by decide)⟩
theorem exB_right : Go.Proofs.YticjidkomfnihaaGreatDoor.rightT exB = true := rt_right rtB (by decide) (by decide)
theorem one_mem {α : Type} {Q : α -> Prop} {x : α} (h : Q x) : ∀ y ∈ [x], Q y := fun y hy => by rw [List.mem_singleton.1 hy]; exact h
theorem exP_sound : Sound exP := ⟨by decide, by decide, by decide, one_mem okI, one_mem okC, one_mem okF, exB_right⟩
def bodyL : List Tok := [nTok [99], mTok [58, 61], nTok [102], nTok [120]]
theorem bodyT : Pa.Told bodyL exB 0 := told_run 100 (by rfl) (by decide +kernel) (by decide +kernel) exB_right
def numL1 : List Tok := [⟨2, [49], 1⟩]
theorem num1T : Pa.Told numL1 (dT 1) 0 := told_run 60 (by rfl) (by decide +kernel) (by decide +kernel) (by decide +kernel)
def px1 : ByteArray := ⟨#[105, 110, 112, 117, 116, 32, 120, 32, 58, 32, 76, 111, 32, 46, 32, 99, 101, 108, 108, 32, 99, 32, 58, 32, 72, 105, 32, 61, 32, 53, 32, 46, 32, 100, 101, 102, 32, 102, 32, 61, 32, 102, 117, 110, 32, 121, 32, 61, 62, 32, 121, 32, 46, 32, 99, 32, 58, 61, 32, 102, 32, 120]⟩
def px2 : ByteArray := ⟨#[99, 101, 108, 108, 32, 99, 32, 58, 32, 72, 105, 32, 61, 32, 53, 32, 46, 32, 105, 110, 112, 117, 116, 32, 120, 32, 58, 32, 76, 111, 32, 46, 32, 49]⟩
def px3 : ByteArray := ⟨#[100, 101, 102, 32, 102, 32, 61, 32, 49, 32, 46, 32, 50]⟩
def px4 : ByteArray := ⟨#[105, 110, 112, 117, 116, 32, 120, 32, 58, 32, 76, 111, 32, 46]⟩
def px5 : ByteArray := ⟨#[105, 110, 112, 117, 116, 32, 120, 32, 58, 32, 76, 111, 32, 46, 10, 99, 101, 108, 108, 32, 99, 32, 58, 32, 72, 105, 32, 61, 32, 53, 32, 46, 10, 100, 101, 102, 32, 102, 32, 61, 32, 102, 117, 110, 32, 121, 32, 61, 62, 32, 121, 32, 46, 10, 99, 32, 58, 61, 32, 40, 32, 102, 32, 120, 32, 41, 10]⟩
theorem ps1 : parseT px1 = .inl exP := by
 have e : lexL px1.data.toList = some (linesL (pieces exP) bodyL) := by decide +kernel
 rw [parse_lex (by decide) e]
 have e2 : cutL (linesL (pieces exP) bodyL) = pieces exP ++ [bodyL] := by decide +kernel
 have et := tell_of bodyT
 unfold progT
 rw [e2, if_neg (by decide), List.dropLast_concat, read_pieces exP_sound, List.getLastD_concat, et]
 rfl
theorem ps2 : parseT px2 = .inr 2 := by
 have e : lexL px2.data.toList = some (linesL [cellL exC, inL exI] numL1) := by decide +kernel
 rw [parse_lex (by decide) e]
 have e2 : cutL (linesL [cellL exC, inL exI] numL1) = [cellL exC, inL exI] ++ [numL1] := by decide +kernel
 unfold progT
 rw [e2, if_neg (by decide), List.dropLast_concat]
 have h1 := read_cells [exC] P0 (one_mem okC) rfl (by decide)
 have h2 := readAll_app (p := P0) [cellL exC] [inL exI] h1
 rw [show [cellL exC, inL exI] = [cellL exC] ++ [inL exI] from rfl, h2]
 rfl
theorem ps3 : parseT px3 = .inr 2 := by
 have e : lexL px3.data.toList = some (linesL [kDef :: nm (s1 102) :: mTok [61] :: numL1] [⟨2, [50], 2⟩]) := by decide +kernel
 rw [parse_lex (by decide) e]
 have e2 : cutL (linesL [kDef :: nm (s1 102) :: mTok [61] :: numL1] [⟨2, [50], 2⟩]) = [kDef :: nm (s1 102) :: mTok [61] :: numL1] ++ [[⟨2, [50], 2⟩]] := by decide +kernel
 unfold progT
 rw [e2, if_neg (by decide), List.dropLast_concat, readAll]
 have e1 : readOne P0 (kDef :: nm (s1 102) :: mTok [61] :: numL1) = .inr 2 := by
   have et := tell_of num1T
   unfold readOne
   dsimp only
   rw [if_neg (by decide), if_neg (by decide), if_pos (show kDef.text = [100, 101, 102] from rfl), if_pos (show fitsF (List.take 2 (nm (s1 102) :: mTok [61] :: numL1)) [.nm, .tx [61]] = true from rfl)]
   show (if (tell numL1).2 ≠ 0 then _ else if (tell numL1).1.kind ≠ 3 then _ else _) = _
   rw [et, if_neg (by simp), if_pos (by simp [dT, T.kind])]
 rw [e1]
theorem ps4 : parseT px4 = .inr 2 := by
 have e : lexL px4.data.toList = some (linesL [inL exI] []) := by decide +kernel
 rw [parse_lex (by decide) e]
 have e2 : cutL (linesL [inL exI] []) = [inL exI] ++ [[]] := by decide +kernel
 have et := tell_of ex4
 unfold progT
 have h1 : readAll P0 [inL exI] = .inl { P0 with ins := P0.ins ++ [exI] } := read_ins [exI] P0 (one_mem okI) rfl rfl (by decide)
 rw [e2, if_neg (by decide), List.dropLast_concat, h1, List.getLastD_concat, et]
 rfl
theorem exP_right : rightP exP = true := rightP_iff.2 ⟨exP_sound, by decide +kernel⟩
theorem exP_print : printP exP = px5 := by
 rw [print_right exP_right]
 have : textL 10 exP = px5.data.toList := by decide +kernel
 rw [this, X.strOf_data]
theorem exP_size : sizeP exP = 7 := by decide
theorem P0_wrong : rightP P0 = false := by decide +kernel
theorem P0_print : printP P0 = ⟨#[]⟩ := print_wrong P0_wrong
end Go.Proofs.YticjidkomfnihaaGreatDoor.Pg
namespace Go.Proofs.YticjidkomfnihaaGreatDoor.Pg
open Go.RowKit Go.Shelf Go.Tm Go.Lx Go.Maps Go.Proofs.YticjidkomfnihaaGreatDoor.Pa
def d0 : D := ⟨⟨#[]⟩, ⟨#[]⟩, 0⟩
def f0 : Df := ⟨⟨#[]⟩, T0⟩
structure Decls (W : World) (A : Option Addr) (c : Nat) (ds : List D) : Prop where
 cap : ds.length <= c
 max : c <= 9223372036854775807
 szs : ∀ d ∈ ds, d.name.size <= 9223372036854775807 /\ d.label.size <= 9223372036854775807
 at_ : ds ≠ [] -> ∃ b off, A = some ⟨b, off, none⟩ /\ b < W.heap.size /\ ∀ j, j < ds.length -> W.cell? ⟨b, off + j * 3, none⟩ = some (.string (ds.getD j d0).name) /\ W.cell? ⟨b, off + j * 3 + 1, none⟩ = some (.string (ds.getD j d0).label) /\ W.cell? ⟨b, off + j * 3 + 2, none⟩ = some (.int .i64 (ds.getD j d0).n)
theorem Decls.later {w w' : World} {A : Option Addr} {c : Nat} {ds : List D} (h : Decls w A c ds) (hb : Below w.heap.size w w') : Decls w' A c ds :=
 ⟨h.cap, h.max, h.szs, fun hn => by
   obtain ⟨b, off, hA, hlt, hc⟩ := h.at_ hn
   exact ⟨b, off, hA, Nat.lt_of_lt_of_le hlt hb.size, fun j hj => ⟨(hb.cell (p := ⟨b, off + j * 3, none⟩) hlt).trans (hc j hj).1, (hb.cell (p := ⟨b, off + j * 3 + 1, none⟩) hlt).trans (hc j hj).2.1, (hb.cell (p := ⟨b, off + j * 3 + 2, none⟩) hlt).trans (hc j hj).2.2⟩⟩⟩
theorem Decls.nil (W : World) : Decls W none 0 [] := ⟨Nat.le_refl _, by decide, (fun _ h => by cases h), fun h => absurd rfl h⟩
theorem getD_mem {α : Type} {l : List α} {j : Nat} {d : α} (h : j < l.length) : l.getD j d ∈ l := by
 rw [List.getD_eq_getElem?_getD, List.getElem?_eq_getElem h]
 exact List.getElem_mem h
structure Defs (W : World) (A : Option Addr) (c : Nat) (fs : List Df) : Prop where
 cap : fs.length <= c
 max : c <= 9223372036854775807
 szs : ∀ d ∈ fs, d.name.size <= 9223372036854775807
 at_ : fs ≠ [] -> ∃ b off, A = some ⟨b, off, none⟩ /\ b < W.heap.size /\ ∀ j, j < fs.length -> W.cell? ⟨b, off + j * 5, none⟩ = some (.string (fs.getD j f0).name) /\ NodeAt W (· < W.heap.size) b (off + j * 5 + 1) (fs.getD j f0).t
theorem Defs.later {w w' : World} {A : Option Addr} {c : Nat} {fs : List Df} (h : Defs w A c fs) (hb : Below w.heap.size w w') : Defs w' A c fs :=
 ⟨h.cap, h.max, h.szs, fun hn => by
   obtain ⟨b, off, hA, hlt, hc⟩ := h.at_ hn
   exact ⟨b, off, hA, Nat.lt_of_lt_of_le hlt hb.size, fun j hj => ⟨(hb.cell (p := ⟨b, off + j * 5, none⟩) hlt).trans (hc j hj).1, NodeAt.kept (fun k hk => Nat.lt_of_lt_of_le hk hb.size) (fun k hk => hb.block k hk) (hc j hj).2⟩⟩⟩
theorem Defs.nil (W : World) : Defs W none 0 [] := ⟨Nat.le_refl _, by decide, (fun _ h => by cases h), fun h => absurd rfl h⟩
structure PV where
 p : P
 I : Option Addr
 i : Nat
 C : Option Addr
 c : Nat
 F : Option Addr
 f : Nat
 B : Option Addr
 b : Nat
def PV.cells (x : PV) : Array Value := #[.slice x.I x.p.ins.length x.i, .slice x.C x.p.cells.length x.c, .slice x.F x.p.defs.length x.f, .int .i64 x.p.body.kind, .string x.p.body.name, .int .i64 x.p.body.num, .slice x.B x.p.body.kids.length x.b]
structure ProgAt (W : World) (x : PV) : Prop where
 ins : Decls W x.I x.i x.p.ins
 cells : Decls W x.C x.c x.p.cells
 defs : Defs W x.F x.f x.p.defs
 body : TmV W (· < W.heap.size) x.p.body x.B x.b
theorem ProgAt.later {w w' : World} {x : PV} (h : ProgAt w x) (hb : Below w.heap.size w w') : ProgAt w' x := ⟨h.ins.later hb, h.cells.later hb, h.defs.later hb, h.body.later hb⟩
def pv0 : PV := ⟨P0, none, 0, none, 0, none, 0, none, 0⟩
theorem pv0_at (W : World) : ProgAt W pv0 := ⟨Decls.nil W, Decls.nil W, Defs.nil W, TmV.leaf W _ (by decide)⟩
end Go.Proofs.YticjidkomfnihaaGreatDoor.Pg
